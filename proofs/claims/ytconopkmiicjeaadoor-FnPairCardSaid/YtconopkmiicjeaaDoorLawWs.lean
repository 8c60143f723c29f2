/-
  The law FnString, for every code.
-/
import Derived.Test.YtconopkmiicjeaaDoorIwB
import Derived.Test.YtconopkmiicjeaaDoorWdF
import Derived.Test.YtconopkmiicjeaaDoorWdV
import Derived.Test.YtconopkmiicjeaaDoorDrawWd
import Derived.Test.YtconopkmiicjeaaDoorBig
namespace Go.Proofs.YtconopkmiicjeaaDoor
set_option linter.unusedVariables false
open Go.RowKit

/-- The library's variables, in every later world. -/
theorem decs_later {w : World} (ht : Tens w) (he : Errs w) (hg : w.heap.size > 2 ∧ w.heap.size > 3 ∧ w.heap.size > 1) : ∀ w', Below w.heap.size w w' → Decs w'.heap.size w' := fun w' hb => by
  have h := (⟨ht, he, hg.1, hg.2.1, hg.2.2, Nat.le_refl _⟩ : Decs w.heap.size w).below hb
  have hz := hb.size
  exact ⟨h.tens, h.errs, Nat.lt_of_lt_of_le h.lt1 hz, Nat.lt_of_lt_of_le h.lt2 hz, Nat.lt_of_lt_of_le h.lt3 hz, Nat.le_refl _⟩
/-- The word that stands there is read. -/
theorem implGet_is (t : ByteArray) (p : Int) (s : ByteArray) (j : Nat) (hj : getWd t p = some (s.data.toList, j)) (w : World) (ht : t.size ≤ 1048576) (h1 : -9223372036854775808 ≤ p) (h2 : p ≤ 9223372036854775807) (hd : Decs w.heap.size w) :
    Calls Tryd.prog 17 #[.string t, .int .i64 p] w fun e w' => e = .returned (.tuple #[.string s, .int .i64 (j : Int)]) ∧ Below w.heap.size w w' := by
  refine (implGetWord_any t p w ht h1 h2 hd).mono ?_
  rintro e w' ⟨hc, hB⟩
  refine ⟨?_, hB⟩
  rw [wdI_eq, hj] at hc
  rcases hc with ⟨o, k, hT, rfl⟩ | ⟨hT, _⟩
  · injection hT with hT
    injection hT with h2 h3
    obtain rfl : s = o := ByteArray.ext (Array.ext' h2)
    rw [h3]
  · cases hT
theorem size_of {X : ByteArray} {l : List UInt8} (h : X.data.toList = l) : X.size = l.length := by
  rw [← h]
  simp
theorem nonempty_of {X : ByteArray} (h : X.data.toList ≠ []) : X.toList.isEmpty = false := by
  rw [Lib.toList_data]
  cases e : X.data.toList with
  | nil => exact absurd e h
  | cons a l => rfl
def headA : ByteArray := ⟨#[104, 101, 97, 100, 32]⟩
def tailA : ByteArray := ⟨#[32, 116, 97, 105, 108]⟩

set_option maxRecDepth 100000 in
set_option maxHeartbeats 2000000 in
theorem lawString_walk (a0 : Option Addr) (len0 cap0 : Nat) (z0 : List Int) (w : World) (w0 : IsRow .u8 w a0 len0 cap0 z0) (ht : Tens w) (he : Errs w) (hg : w.heap.size > 2 ∧ w.heap.size > 3 ∧ w.heap.size > 1) :
    Calls Tryd.prog 3 #[.slice a0 len0 cap0] w fun e w' => e = .returned (.bool true) ∧ Below w.heap.size w w' := by
  have W0 := Lib.hid w0
  have DD := Lib.hid (decs_later ht he hg)
  clear w0 ht he hg
  by_cases hl : len0 ≤ 1048576
  · go_enter Tryd.func3, Tryd.ntmps3
    go_wp2_with fail
    refine (big_no _ _ _ _ hl).mono ?_
    rintro e w1 ⟨rfl, rfl⟩
    go_wp2_with fail
    refine (drawPutString_any ⟨a0, len0, cap0, z0⟩ w1 w1 W0.out hl (Below.refl _ _)).mono ?_
    rintro e w2 ⟨s, rfl, hs, hk, hB2⟩
    have B2 := Lib.hid hB2
    have hsl : s.data.toList.length = s.size := by simp
    have hXl := putStr_len (l := s.data.toList) (by omega)
    have hYl := putWd_len (l := s.data.toList) (by omega)
    have SP := Lib.hid (fun w => specPutString_any s w (by omega))
    have SW := Lib.hid (fun w => specPutWord_any s w (by omega))
    have IP := Lib.hid (fun w ht => implPutString_any s w (by omega) ht)
    have IW := Lib.hid (fun w ht => implPutWord_any s w (by omega) ht)
    have hcase : (putStr s.data.toList = [] ∧ putWd s.data.toList = []) ∨ (putStr s.data.toList ≠ [] ∧ putWd s.data.toList ≠ []) := by
      by_cases h : putStr s.data.toList = []
      · exact .inl ⟨h, putWd_nil h (by rw [hsl]; exact hk)⟩
      · exact .inr ⟨h, putWd_ne h⟩
    have hR1 : ∀ t : ByteArray, putStr s.data.toList ≠ [] → t.data.toList = headA.data.toList ++ putStr s.data.toList ++ tailA.data.toList → getWd t 5 = some (s.data.toList, 5 + (putStr s.data.toList).length) := fun t hne h => word_putStr t headA.data.toList tailA.data.toList s.data.toList hne h
    have hR2 : ∀ t : ByteArray, putWd s.data.toList ≠ [] → t.data.toList = putWd s.data.toList → getWd t 0 = some (s.data.toList, (putWd s.data.toList).length) := fun t hne h => word_putWd t s.data.toList hne h
    clear hk hB2
    generalize putStr s.data.toList = XL at SP IP hcase hR1 hXl
    generalize putWd s.data.toList = YL at SW IW hcase hR2 hYl
    have HR1 := Lib.hid hR1
    have HR2 := Lib.hid hR2
    clear hR1 hR2 hsl
    rcases hcase with ⟨rfl, rfl⟩ | ⟨hX, hY⟩
    · go_wp2_with fail
      refine (IP.out _ (DD.out _ B2.out).tens).mono ?_
      rintro e w3 ⟨rfl, hB3⟩
      have B3 := Lib.hid (B2.out.trans (hB3.mono B2.out.size))
      clear hB3
      go_wp2_with fail
      refine (IW.out _ (DD.out _ B3.out).tens).mono ?_
      rintro e w4 ⟨rfl, hB4⟩
      have B4 := Lib.hid (B3.out.trans (hB4.mono B3.out.size))
      clear hB4
      go_wp2_with fail
      refine (SP.out _).mono ?_
      rintro e w5 ⟨rfl, hB5⟩
      have B5 := Lib.hid (B4.out.trans (hB5.mono B4.out.size))
      clear hB5
      go_wp2_with fail
      refine (SW.out _).mono ?_
      rintro e w6 ⟨rfl, hB6⟩
      have B6 := Lib.hid (B5.out.trans (hB6.mono B5.out.size))
      clear hB6
      go_wp2_with fail
      go_ret
      exact ⟨rfl, B6.out⟩
    · obtain ⟨X, rfl⟩ : ∃ X : ByteArray, XL = X.data.toList := ⟨⟨XL.toArray⟩, rfl⟩
      obtain ⟨Y, rfl⟩ : ∃ Y : ByteArray, YL = Y.data.toList := ⟨⟨YL.toArray⟩, rfl⟩
      have eX : (⟨X.data.toList.toArray⟩ : ByteArray) = X := rfl
      have eY : (⟨Y.data.toList.toArray⟩ : ByteArray) = Y := rfl
      rw [eX] at SP IP
      rw [eY] at SW IW
      have hXs : X.size ≤ 1100 := by rw [size_of rfl]; exact hXl
      have hYs : Y.size ≤ 1100 := by rw [size_of rfl]; exact hYl
      have hXe := nonempty_of hX
      have G1 : Hid (∀ w, Decs w.heap.size w → Calls Tryd.prog 17 #[.string (headA ++ X ++ tailA), .int .i64 5] w fun e w' => e = .returned (.tuple #[.string s, .int .i64 ((5 + X.size : Nat) : Int)]) ∧ Below w.heap.size w w') := Lib.hid (fun w hd => by
        have h := HR1.out (headA ++ X ++ tailA) hX (by rw [ByteArray.data_append, ByteArray.data_append]; simp)
        rw [← size_of (X := X) rfl] at h
        exact implGet_is _ 5 s _ h w (by simp only [ByteArray.size_append]; have : headA.size = 5 := rfl; have : tailA.size = 5 := rfl; omega) (by decide) (by decide) hd)
      have G2 : Hid (∀ w, Decs w.heap.size w → Calls Tryd.prog 17 #[.string Y, .int .i64 0] w fun e w' => e = .returned (.tuple #[.string s, .int .i64 (Y.size : Int)]) ∧ Below w.heap.size w w') := Lib.hid (fun w hd => by
        have h := HR2.out Y hY rfl
        rw [← size_of (X := Y) rfl] at h
        exact implGet_is _ 0 s _ h w (by omega) (by decide) (by decide) hd)
      have z1 : (⟨#[104, 101, 97, 100, 32]⟩ : ByteArray).size = 5 := rfl
      have z2 : (⟨#[32, 116, 97, 105, 108]⟩ : ByteArray).size = 5 := rfl
      have q1 : ¬ 9223372036854775807 < 5 + X.size := by omega
      have q2 : ¬ 9223372036854775807 < 5 + X.size + 5 := by omega
      clear hX hY eX eY hXl hYl HR1 HR2
      go_wp2_with fail
      refine (IP.out _ (DD.out _ B2.out).tens).mono ?_
      rintro e w3 ⟨rfl, hB3⟩
      have B3 := Lib.hid (B2.out.trans (hB3.mono B2.out.size))
      clear hB3
      go_wp2_with fail
      refine (IW.out _ (DD.out _ B3.out).tens).mono ?_
      rintro e w4 ⟨rfl, hB4⟩
      have B4 := Lib.hid (B3.out.trans (hB4.mono B3.out.size))
      clear hB4
      go_wp2_with fail
      refine (SP.out _).mono ?_
      rintro e w5 ⟨rfl, hB5⟩
      have B5 := Lib.hid (B4.out.trans (hB5.mono B4.out.size))
      clear hB5
      go_wp2_with fail
      refine (SW.out _).mono ?_
      rintro e w6 ⟨rfl, hB6⟩
      have B6 := Lib.hid (B5.out.trans (hB6.mono B5.out.size))
      clear hB6
      go_wp2_with fail
      refine (G1.out _ (DD.out _ B6.out)).mono ?_
      rintro e w7 ⟨rfl, hB7⟩
      have B7 := Lib.hid (B6.out.trans (hB7.mono B6.out.size))
      clear hB7
      go_wp2_with fail
      refine (G2.out _ (DD.out _ B7.out)).mono ?_
      rintro e w8 ⟨rfl, hB8⟩
      have B8 := Lib.hid (B7.out.trans (hB8.mono B7.out.size))
      clear hB8
      go_wp2_with fail
      go_ret
      exact ⟨rfl, B8.out⟩
  · go_enter Tryd.func3, Tryd.ntmps3
    go_wp2_with fail
    refine (big_yes _ _ _ _ (by omega)).mono ?_
    rintro e w1 ⟨rfl, rfl⟩
    go_wp2_with fail
    go_ret
    exact ⟨rfl, Below.refl _ _⟩
end Go.Proofs.YtconopkmiicjeaaDoor
