/-
  The law FnPair, for every code.
-/
import Derived.Test.YtconopkmiicjeaaDoorLawWs
import Derived.Test.YtconopkmiicjeaaDoorDrawPw
import Derived.DataElems
namespace Go.Proofs.YtconopkmiicjeaaDoor
set_option linter.unusedVariables false
open Go.RowKit

/-- The rest of a slice of integers that came in. -/
theorem isRow_from {w : World} {a : Option Addr} {len cap m : Nat} {zs : List Int} (h : IsRow .u8 w a len cap zs) (hm : m ≤ len) (hc : ¬ cap = m) : IsRow .u8 w (a.map fun x => x.add m) (len - m) (cap - m) (zs.drop m) := by
  rcases h with ⟨_, h1, h2, _⟩ | ⟨x, rfl, h1, h2, h3, h4, h5⟩
  · omega
  · refine .inr ⟨x.add m, rfl, by omega, by omega, by simp; omega, fun i hi => ?_, fun n hn => h5 n (List.mem_of_mem_drop hn)⟩
    rw [List.length_drop] at hi
    have h := h4 (m + i) (by omega)
    rw [Addr.add_add, h, List.getD_eq_getElem?_getD, List.getD_eq_getElem?_getD, List.getElem?_drop]

def gapA : ByteArray := ⟨#[32]⟩
theorem word_first {X Y a : ByteArray} (hX : X.data.toList = putWd a.data.toList) (hne : putWd a.data.toList ≠ []) : getWd (X ++ gapA ++ Y) 0 = some (a.data.toList, X.size) := by
  have h := word_putWd_at (X ++ gapA ++ Y) [] (32 :: Y.data.toList) a.data.toList (by rintro b T e; injection e with e _; subst e; decide) hne (by rw [ByteArray.data_append, ByteArray.data_append, ← hX]; simp [gapA])
  rw [← hX, ← size_of (X := X) rfl] at h
  simpa using h
theorem word_second {X Y b : ByteArray} (hY : Y.data.toList = putWd b.data.toList) (hne : putWd b.data.toList ≠ []) : getWd (X ++ gapA ++ Y) ((X.size + 1 : Nat) : Int) = some (b.data.toList, X.size + 1 + Y.size) := by
  have h := word_putWd_at (X ++ gapA ++ Y) (X.data.toList ++ [32]) [] b.data.toList (by rintro b T e; cases e) hne (by rw [ByteArray.data_append, ByteArray.data_append, ← hY]; simp [gapA])
  rw [← hY, ← size_of (X := Y) rfl] at h
  have e : (X.data.toList ++ [(32 : UInt8)]).length = X.size + 1 := by simp
  rw [e] at h
  exact h

set_option maxRecDepth 100000 in
set_option maxHeartbeats 4000000 in
theorem lawPair_walk (a0 : Option Addr) (len0 cap0 : Nat) (z0 : List Int) (w : World) (w0 : IsRow .u8 w a0 len0 cap0 z0) (ht : Tens w) (he : Errs w) (hg : w.heap.size > 2 ∧ w.heap.size > 3 ∧ w.heap.size > 1) :
    Calls Tryd.prog 6 #[.slice a0 len0 cap0] w fun e w' => e = .returned (.bool true) ∧ Below w.heap.size w w' := by
  have W0 := Lib.hid w0
  have DD := Lib.hid (decs_later ht he hg)
  clear w0 ht he hg
  by_cases hl : len0 ≤ 1048576
  · have hcap : len0 ≤ cap0 := by
      rcases W0.out with ⟨_, h1, h2, _⟩ | ⟨_, _, h1, _⟩ <;> omega
    go_enter Tryd.func6, Tryd.ntmps6
    go_wp2_with fail
    refine (big_no _ _ _ _ hl).mono ?_
    rintro e w1 ⟨rfl, rfl⟩
    obtain ⟨m, km, kc, k0⟩ : ∃ m : Nat, m ≤ len0 ∧ (cap0 = m → cap0 = 0) ∧ IntKind.i64.wrap ((len0 : Int) / 2) = (m : Int) := ⟨len0 / 2, by omega, by omega, by rw [IntKind.wrap_i64]; omega⟩
    have k1 : (0 : Int) ≤ (m : Int) := by omega
    have k2 : (m : Int) ≤ (len0 : Int) := by omega
    have k4 : (m : Int) ≤ (cap0 : Int) := by omega
    have k5 : (len0 : Int) ≤ (cap0 : Int) := by omega
    have DA := Lib.hid (fun w' (hb : Below w1.heap.size w1 w') => drawPutWord_any ⟨a0, len0, cap0, z0⟩ w1 w' W0.out hl hb)
    by_cases hcm : cap0 = m
    · obtain rfl : cap0 = 0 := kc hcm
      obtain rfl : m = 0 := hcm.symm
      obtain rfl : len0 = 0 := by omega
      have k6 : IntKind.i64.wrap 0 = 0 := rfl
      clear kc hcm k0
      go_wp2_with fail
      go_region_held3 (fun _ => True) (first | go_keep | exact trivial) (first | (go_at_call 29; (with_reducible refine (DA.out _ (Below.refl _ _).drew).mono ?_); rintro e w2 ⟨sa, rfl, hsa, hka, hB2⟩; have HA := Lib.hid ((Below.refl w1.heap.size w1).drew.trans hB2); clear hB2) | (go_at_call 29; have hz := HA.out; (with_reducible refine (DA.out _ hz).mono ?_); rintro e w3 ⟨sb, rfl, hsb, hkb, hB3⟩; have HC := Lib.hid (hz.trans (hB3.mono hz.size)); clear hB3 hz))
      have hal : sa.data.toList.length = sa.size := by simp
      have hbl : sb.data.toList.length = sb.size := by simp
      have hXl := putWd_len (l := sa.data.toList) (by omega)
      have hYl := putWd_len (l := sb.data.toList) (by omega)
      have SA := Lib.hid (fun w => specPutWord_any sa w (by omega))
      have SB := Lib.hid (fun w => specPutWord_any sb w (by omega))
      have IA := Lib.hid (fun w ht => implPutWord_any sa w (by omega) ht)
      have IB := Lib.hid (fun w ht => implPutWord_any sb w (by omega) ht)
      obtain ⟨X, hX⟩ : ∃ X : ByteArray, X.data.toList = putWd sa.data.toList := ⟨⟨(putWd sa.data.toList).toArray⟩, rfl⟩
      obtain ⟨Y, hY⟩ : ∃ Y : ByteArray, Y.data.toList = putWd sb.data.toList := ⟨⟨(putWd sb.data.toList).toArray⟩, rfl⟩
      have HF := Lib.hid (word_first (Y := Y) hX)
      have HS := Lib.hid (word_second (X := X) hY)
      have eX : (⟨(putWd sa.data.toList).toArray⟩ : ByteArray) = X := by rw [← hX]
      have eY : (⟨(putWd sb.data.toList).toArray⟩ : ByteArray) = Y := by rw [← hY]
      rw [eX] at SA IA
      rw [eY] at SB IB
      have hXs : X.size ≤ 1100 := by rw [size_of hX]; exact hXl
      have hYs : Y.size ≤ 1100 := by rw [size_of hY]; exact hYl
      have HX := Lib.hid hX
      have HY := Lib.hid hY
      clear eX eY hX hY hXl hYl hal hbl hka hkb
      go_wp2_with fail
      refine (IA.out _ (DD.out _ HC.out).tens).mono ?_
      rintro e w4 ⟨rfl, hB4⟩
      have B4 := Lib.hid (HC.out.trans (hB4.mono HC.out.size))
      clear hB4
      go_wp2_with fail
      refine (IB.out _ (DD.out _ B4.out).tens).mono ?_
      rintro e w5 ⟨rfl, hB5⟩
      have B5 := Lib.hid (B4.out.trans (hB5.mono B4.out.size))
      clear hB5
      go_wp2_with fail
      refine (SA.out _).mono ?_
      rintro e w6 ⟨rfl, hB6⟩
      have B6 := Lib.hid (B5.out.trans (hB6.mono B5.out.size))
      clear hB6
      go_wp2_with fail
      refine (SB.out _).mono ?_
      rintro e w7 ⟨rfl, hB7⟩
      have B7 := Lib.hid (B6.out.trans (hB7.mono B6.out.size))
      clear hB7
      by_cases hx0 : X.data.toList = []
      · have hxe : X.toList = [] := by rw [Lib.toList_data]; exact hx0
        have hxe2 : X.toList.isEmpty = true := by rw [hxe]; rfl
        clear hx0
        go_wp2_with fail
        go_ret
        exact ⟨rfl, B7.out⟩
      have hxe := nonempty_of hx0
      have HXN : Hid (putWd sa.data.toList ≠ []) := Lib.hid (by rw [← HX.out]; exact hx0)
      clear hx0
      by_cases hy0 : Y.data.toList = []
      · have hye : Y.toList = [] := by rw [Lib.toList_data]; exact hy0
        have hye2 : Y.toList.isEmpty = true := by rw [hye]; rfl
        clear hy0
        go_wp2_with fail
        go_ret
        exact ⟨rfl, B7.out⟩
      have hye := nonempty_of hy0
      have HYN : Hid (putWd sb.data.toList ≠ []) := Lib.hid (by rw [← HY.out]; exact hy0)
      clear hy0
      have G1 : Hid (∀ w, Decs w.heap.size w → Calls Tryd.prog 17 #[.string (X ++ gapA ++ Y), .int .i64 0] w fun e w' => e = .returned (.tuple #[.string sa, .int .i64 (X.size : Int)]) ∧ Below w.heap.size w w') := Lib.hid (fun w hd => implGet_is _ 0 sa _ (HF.out HXN.out) w (by simp only [ByteArray.size_append]; have : gapA.size = 1 := rfl; omega) (by decide) (by decide) hd)
      have G2 : Hid (∀ w, Decs w.heap.size w → Calls Tryd.prog 17 #[.string (X ++ gapA ++ Y), .int .i64 ((X.size : Int) + 1)] w fun e w' => e = .returned (.tuple #[.string sb, .int .i64 ((X.size + 1 + Y.size : Nat) : Int)]) ∧ Below w.heap.size w w') := Lib.hid (fun w hd => implGet_is _ _ sb _ (HS.out HYN.out) w (by simp only [ByteArray.size_append]; have : gapA.size = 1 := rfl; omega) (by omega) (by omega) hd)
      have z1 : (⟨#[32]⟩ : ByteArray).size = 1 := rfl
      have q1 : ¬ 9223372036854775807 < X.size + 1 := by omega
      have q2 : ¬ 9223372036854775807 < X.size + 1 + Y.size := by omega
      go_wp2_with fail
      refine (G1.out _ (DD.out _ B7.out)).mono ?_
      rintro e w8 ⟨rfl, hB8⟩
      have B8 := Lib.hid (B7.out.trans (hB8.mono B7.out.size))
      clear hB8
      go_wp2_with fail
      refine (G2.out _ (DD.out _ B8.out)).mono ?_
      rintro e w9 ⟨rfl, hB9⟩
      have B9 := Lib.hid (B8.out.trans (hB9.mono B8.out.size))
      clear hB9
      go_wp2_with fail
      go_ret
      exact ⟨rfl, B9.out⟩
    · have DB := Lib.hid (fun w' (hb : Below w1.heap.size w1 w') => drawPutWord_any ⟨a0.map (fun x => x.add m), len0 - m, cap0 - m, z0.drop m⟩ w1 w' (isRow_from W0.out km hcm) (by show len0 - m ≤ _; omega) hb)
      clear kc
      go_wp2_with fail
      go_region_held3 (fun _ => True) (first | go_keep | exact trivial) (first | (go_at_call 29; (with_reducible refine (DA.out _ (Below.refl _ _).drew).mono ?_); rintro e w2 ⟨sa, rfl, hsa, hka, hB2⟩; have HA := Lib.hid ((Below.refl w1.heap.size w1).drew.trans hB2); clear hB2) | (go_at_call 29; (with_reducible refine (DB.out _ (Below.refl _ _).drew).mono ?_); rintro e w2 ⟨sb, rfl, hsb, hkb, hB2⟩; have HB := Lib.hid ((Below.refl w1.heap.size w1).drew.trans hB2); clear hB2) | (go_at_call 29; have hz := HA.out; (with_reducible refine (DB.out _ hz).mono ?_); rintro e w3 ⟨sb, rfl, hsb, hkb, hB3⟩; have HC := Lib.hid (hz.trans (hB3.mono hz.size)); clear hB3 hz) | (go_at_call 29; have hz := HB.out; (with_reducible refine (DA.out _ hz).mono ?_); rintro e w3 ⟨sa, rfl, hsa, hka, hB3⟩; have HC := Lib.hid (hz.trans (hB3.mono hz.size)); clear hB3 hz))
      have hal : sa.data.toList.length = sa.size := by simp
      have hbl : sb.data.toList.length = sb.size := by simp
      have hXl := putWd_len (l := sa.data.toList) (by omega)
      have hYl := putWd_len (l := sb.data.toList) (by omega)
      have SA := Lib.hid (fun w => specPutWord_any sa w (by omega))
      have SB := Lib.hid (fun w => specPutWord_any sb w (by omega))
      have IA := Lib.hid (fun w ht => implPutWord_any sa w (by omega) ht)
      have IB := Lib.hid (fun w ht => implPutWord_any sb w (by omega) ht)
      obtain ⟨X, hX⟩ : ∃ X : ByteArray, X.data.toList = putWd sa.data.toList := ⟨⟨(putWd sa.data.toList).toArray⟩, rfl⟩
      obtain ⟨Y, hY⟩ : ∃ Y : ByteArray, Y.data.toList = putWd sb.data.toList := ⟨⟨(putWd sb.data.toList).toArray⟩, rfl⟩
      have HF := Lib.hid (word_first (Y := Y) hX)
      have HS := Lib.hid (word_second (X := X) hY)
      have eX : (⟨(putWd sa.data.toList).toArray⟩ : ByteArray) = X := by rw [← hX]
      have eY : (⟨(putWd sb.data.toList).toArray⟩ : ByteArray) = Y := by rw [← hY]
      rw [eX] at SA IA
      rw [eY] at SB IB
      have hXs : X.size ≤ 1100 := by rw [size_of hX]; exact hXl
      have hYs : Y.size ≤ 1100 := by rw [size_of hY]; exact hYl
      have HX := Lib.hid hX
      have HY := Lib.hid hY
      clear eX eY hX hY hXl hYl hal hbl hka hkb
      go_wp2_with fail
      refine (IA.out _ (DD.out _ HC.out).tens).mono ?_
      rintro e w4 ⟨rfl, hB4⟩
      have B4 := Lib.hid (HC.out.trans (hB4.mono HC.out.size))
      clear hB4
      go_wp2_with fail
      refine (IB.out _ (DD.out _ B4.out).tens).mono ?_
      rintro e w5 ⟨rfl, hB5⟩
      have B5 := Lib.hid (B4.out.trans (hB5.mono B4.out.size))
      clear hB5
      go_wp2_with fail
      refine (SA.out _).mono ?_
      rintro e w6 ⟨rfl, hB6⟩
      have B6 := Lib.hid (B5.out.trans (hB6.mono B5.out.size))
      clear hB6
      go_wp2_with fail
      refine (SB.out _).mono ?_
      rintro e w7 ⟨rfl, hB7⟩
      have B7 := Lib.hid (B6.out.trans (hB7.mono B6.out.size))
      clear hB7
      by_cases hx0 : X.data.toList = []
      · have hxe : X.toList = [] := by rw [Lib.toList_data]; exact hx0
        have hxe2 : X.toList.isEmpty = true := by rw [hxe]; rfl
        clear hx0
        go_wp2_with fail
        go_ret
        exact ⟨rfl, B7.out⟩
      have hxe := nonempty_of hx0
      have HXN : Hid (putWd sa.data.toList ≠ []) := Lib.hid (by rw [← HX.out]; exact hx0)
      clear hx0
      by_cases hy0 : Y.data.toList = []
      · have hye : Y.toList = [] := by rw [Lib.toList_data]; exact hy0
        have hye2 : Y.toList.isEmpty = true := by rw [hye]; rfl
        clear hy0
        go_wp2_with fail
        go_ret
        exact ⟨rfl, B7.out⟩
      have hye := nonempty_of hy0
      have HYN : Hid (putWd sb.data.toList ≠ []) := Lib.hid (by rw [← HY.out]; exact hy0)
      clear hy0
      have G1 : Hid (∀ w, Decs w.heap.size w → Calls Tryd.prog 17 #[.string (X ++ gapA ++ Y), .int .i64 0] w fun e w' => e = .returned (.tuple #[.string sa, .int .i64 (X.size : Int)]) ∧ Below w.heap.size w w') := Lib.hid (fun w hd => implGet_is _ 0 sa _ (HF.out HXN.out) w (by simp only [ByteArray.size_append]; have : gapA.size = 1 := rfl; omega) (by decide) (by decide) hd)
      have G2 : Hid (∀ w, Decs w.heap.size w → Calls Tryd.prog 17 #[.string (X ++ gapA ++ Y), .int .i64 ((X.size : Int) + 1)] w fun e w' => e = .returned (.tuple #[.string sb, .int .i64 ((X.size + 1 + Y.size : Nat) : Int)]) ∧ Below w.heap.size w w') := Lib.hid (fun w hd => implGet_is _ _ sb _ (HS.out HYN.out) w (by simp only [ByteArray.size_append]; have : gapA.size = 1 := rfl; omega) (by omega) (by omega) hd)
      have z1 : (⟨#[32]⟩ : ByteArray).size = 1 := rfl
      have q1 : ¬ 9223372036854775807 < X.size + 1 := by omega
      have q2 : ¬ 9223372036854775807 < X.size + 1 + Y.size := by omega
      go_wp2_with fail
      refine (G1.out _ (DD.out _ B7.out)).mono ?_
      rintro e w8 ⟨rfl, hB8⟩
      have B8 := Lib.hid (B7.out.trans (hB8.mono B7.out.size))
      clear hB8
      go_wp2_with fail
      refine (G2.out _ (DD.out _ B8.out)).mono ?_
      rintro e w9 ⟨rfl, hB9⟩
      have B9 := Lib.hid (B8.out.trans (hB9.mono B8.out.size))
      clear hB9
      go_wp2_with fail
      go_ret
      exact ⟨rfl, B9.out⟩
  · go_enter Tryd.func6, Tryd.ntmps6
    go_wp2_with fail
    refine (big_yes _ _ _ _ (by omega)).mono ?_
    rintro e w1 ⟨rfl, rfl⟩
    go_wp2_with fail
    go_ret
    exact ⟨rfl, Below.refl _ _⟩
end Go.Proofs.YtconopkmiicjeaaDoor
