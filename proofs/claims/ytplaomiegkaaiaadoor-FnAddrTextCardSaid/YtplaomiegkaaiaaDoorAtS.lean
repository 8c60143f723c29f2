/-
  Addresses: the walk of spec's AddrText.
-/
import Derived.Test.YtplaomiegkaaiaaDoorAdA
import Derived.Test.YtplaomiegkaaiaaDoorPsS
import Derived.Test.YtplaomiegkaaiaaDoorThree
import Derived.Deep.RegionHeld3
namespace Go.Proofs.YtplaomiegkaaiaaDoor
set_option linter.unusedVariables false
open Go.RowKit

theorem flat_take (l : List Ad) (k : Nat) (h : k < l.length) : (l.take (k + 1)).flatMap addrT = (l.take k).flatMap addrT ++ addrT l[k] := by
  rw [List.take_add_one, List.flatMap_append, List.getElem?_eq_getElem h]
  simp
theorem flat_take_le : ∀ (l : List Ad) (k : Nat), ((l.take k).flatMap addrT).length ≤ (l.flatMap addrT).length
  | [], k => by simp
  | a :: r, 0 => by simp
  | a :: r, k + 1 => by
    have := flat_take_le r k
    rw [List.take_succ_cons, List.flatMap_cons, List.flatMap_cons, List.length_append, List.length_append]
    omega
theorem add_lit (L : ByteArray) (l : List UInt8) : (L ++ ⟨l.toArray⟩ : ByteArray).data.toList = L.data.toList ++ l := by simp [ByteArray.data_append]
/-- The words of an address, put together. -/
theorem addr_join (O : ByteArray) (a : Ad) : O ++ ⟨#[40]⟩ ++ mkB (nstr (!a.name.isEmpty) a.name) ++ ⟨#[32, 78, 73, 76, 32]⟩ ++ mkB (putStr a.box) ++ ⟨#[32]⟩ ++ mkB (putStr a.host) ++ ⟨#[41]⟩ = mkB (O.data.toList ++ addrT a) := by
  apply ByteArray.ext
  apply Array.ext'
  simp [ByteArray.data_append, addrT, mkB]

set_option maxRecDepth 100000 in
set_option maxHeartbeats 2000000 in
theorem specAddrText_any (v : Value) (l : List Ad) (w : World) (hv : AdsAt w v l) (hm : adSizes l ≤ 1048576) (hl : l.length ≤ 1048576) :
    Calls Tryd.prog 27 #[v] w fun e w' => e = .returned (.string (mkB (addrTs l))) ∧ Below w.heap.size w w' := by
  obtain ⟨p, cap, rfl⟩ := hv.slice
  have HV := Lib.hid hv
  have hfl := flat_len l (by omega)
  have HFL : Hid ((l.flatMap addrT).length ≤ 110000000) := Lib.hid (by omega)
  have HM := Lib.hid hm
  clear hv hm hfl
  by_cases h0 : l.length = 0
  · obtain rfl : l = [] := List.eq_nil_of_length_eq_zero h0
    clear h0
    go_enter Tryd.func27, Tryd.ntmps27
    go_wp2
    go_ret
    exact ⟨rfl, Below.refl _ _⟩
  · have g0 : ((l.length : Int) == 0) = false := by rw [beq_eq_false_iff_ne]; omega
    have hA : addrTs l = 40 :: l.flatMap addrT ++ [41] := by unfold addrTs; rw [if_neg (by intro h; rw [h] at h0; simp at h0)]
    rw [hA]
    have hpos : 0 < l.length := Nat.pos_of_ne_zero h0
    obtain ⟨g, off, c2, hgv, hg, hc⟩ : ∃ g off c2, Value.slice p l.length cap = .slice (some ⟨g, off, none⟩) l.length c2 ∧ g < w.heap.size ∧ ∀ k, (h : k < l.length) → w.cell? ⟨g, off + k * 3, none⟩ = some (.string (mkB l[k].name)) ∧ w.cell? ⟨g, off + k * 3 + 1, none⟩ = some (.string (mkB l[k].box)) ∧ w.cell? ⟨g, off + k * 3 + 2, none⟩ = some (.string (mkB l[k].host)) := by
      rcases HV.out with ⟨h, _⟩ | h
      · rw [h] at hpos; simp at hpos
      · exact h
    injection hgv with hgv1 hgv2 hgv3
    subst hgv1 hgv3
    have HC := Lib.hid hc
    clear hc h0 hA HV
    go_enter Tryd.func27, Tryd.ntmps27
    go_wp2
    go_loopw [3, 4] (fun o i wr => ∃ (k : Nat) (O : ByteArray), k ≤ l.length ∧ i = .int .i64 (k : Int) ∧ o = .string O ∧ Hid (O.data.toList = 40 :: (l.take k).flatMap addrT) ∧ Below w.heap.size w wr) (fun _ i _ => l.length - (intOf i).toNat)
    case atStart => exact ⟨0, ⟨#[40]⟩, Nat.zero_le _, rfl, rfl, Lib.hid (by simp), Below.refl _ _⟩
    case round =>
      obtain ⟨k, O, hk, rfl, rfl, HO, hB⟩ := hrel
      have hsz := hB.size
      by_cases hlt : k < l.length
      · have g1 : decide ((k : Int) < (l.length : Int)) = true := by simp; omega
        have i1 : (0 : Int) ≤ (k : Int) := by omega
        have i2 : (k : Int) < (l.length : Int) := by omega
        obtain ⟨x1, x2, x3⟩ := HC.out k hlt
        have htk := flat_take l k hlt
        have hle := flat_take_le l (k + 1)
        have hsm := adSizes_mem (List.getElem_mem hlt)
        have hM := HM.out
        have hF := HFL.out
        have hos : O.size = ((l.take k).flatMap addrT).length + 1 := by
          have := congrArg List.length HO.out
          simpa using this
        generalize l[k] = a at x1 x2 x3 htk hsm
        rw [htk, List.length_append] at hle
        have hO3 : (mkB (O.data.toList ++ addrT a)).data.toList = 40 :: (l.take (k + 1)).flatMap addrT := by rw [mkB_list, HO.out, htk]; rfl
        have HN := Lib.hid hO3
        have hj := addr_join O a
        have n1 := nstr_len (!a.name.isEmpty) a.name (by unfold adSize at hsm; omega)
        have n2 := putStr_len a.box (by unfold adSize at hsm; omega)
        have n3 := putStr_len a.host (by unfold adSize at hsm; omega)
        have hOb : O.size ≤ 110000001 := by omega
        have NS := fun b w => specNString_any (mkB a.name) b w (by rw [mkB_size]; unfold adSize at hsm; omega)
        have PB := Lib.hid (fun w => specPutString_any (mkB a.box) w (by rw [mkB_size]; unfold adSize at hsm; omega))
        have PH := Lib.hid (fun w => specPutString_any (mkB a.host) w (by rw [mkB_size]; unfold adSize at hsm; omega))
        rw [mkB_list] at NS PB PH
        have NE := NS (!a.name.isEmpty)
        have NEH := Lib.hid NE
        rw [show ∀ l : List UInt8, (⟨l.toArray⟩ : ByteArray) = mkB l from fun _ => rfl] at PB PH NEH
        have hne : (!(mkB a.name).toList.isEmpty) = !a.name.isEmpty := by rw [Lib.toList_data, mkB_list]
        have m1 : (mkB (nstr (!a.name.isEmpty) a.name)).size ≤ 1048576 * 2 + 30 := by rw [mkB_size]; unfold adSize at hsm; omega
        have m2 : (mkB (putStr a.box)).size ≤ 1048576 * 2 + 30 := by rw [mkB_size]; unfold adSize at hsm; omega
        have m3 : (mkB (putStr a.host)).size ≤ 1048576 * 2 + 30 := by rw [mkB_size]; unfold adSize at hsm; omega
        generalize mkB (nstr (!a.name.isEmpty) a.name) = S1 at NEH hj m1
        generalize mkB (putStr a.box) = S2 at PB hj m2
        generalize mkB (putStr a.host) = S3 at PH hj m3
        have z1 : wr.cell? ⟨g, off + k * 3, none⟩ = some (.string (mkB a.name)) := (hB.cell (p := ⟨g, off + k * 3, none⟩) hg).trans x1
        have z2 : wr.cell? ⟨g, off + k * 3 + 1, none⟩ = some (.string (mkB a.box)) := (hB.cell (p := ⟨g, off + k * 3 + 1, none⟩) hg).trans x2
        have z3 : wr.cell? ⟨g, off + k * 3 + 2, none⟩ = some (.string (mkB a.host)) := (hB.cell (p := ⟨g, off + k * 3 + 2, none⟩) hg).trans x3
        generalize mkB (O.data.toList ++ addrT a) = O3 at HN hj
        generalize mkB a.name = nm at NEH hne z1
        generalize mkB a.box = bx at PB z2
        generalize mkB a.host = ho at PH z3
        have HNE := Lib.hid hne
        rw [← hne] at NEH
        have HJ := Lib.hid hj
        have s1 : ¬ 9223372036854775807 < O.size + 1 := by omega
        have s2 : ¬ 9223372036854775807 < O.size + 1 + S1.size := by omega
        have s3 : ¬ 9223372036854775807 < O.size + 1 + S1.size + 5 := by omega
        have s4 : ¬ 9223372036854775807 < O.size + 1 + S1.size + 5 + S2.size := by omega
        have s5 : ¬ 9223372036854775807 < O.size + 1 + S1.size + 5 + S2.size + 1 := by omega
        have s6 : ¬ 9223372036854775807 < O.size + 1 + S1.size + 5 + S2.size + 1 + S3.size := by omega
        have s7 : ¬ 9223372036854775807 < O.size + 1 + S1.size + 5 + S2.size + 1 + S3.size + 1 := by omega
        clear x1 x2 x3 htk hle hsm hM hF hos hO3 hj n1 n2 n3 NS NE hne HO
        go_wp2_with fail
        have c0 := (three_cells (new_three wr (.string nm) (.string bx) (.string ho) 29)).1
        have c1 := (three_cells (new_three wr (.string nm) (.string bx) (.string ho) 29)).2.1
        have c2 := (three_cells (new_three wr (.string nm) (.string bx) (.string ho) 29)).2.2
        have lt0 : wr.heap.size < (wr.alloc (.cells #[.string nm, .string bx, .string ho] 29)).heap.size := by simp
        have HB0 := Lib.hid (hB.alloc hsz (.cells #[.string nm, .string bx, .string ho] 29))
        obtain ⟨W0, hW0⟩ : ∃ W, wr.alloc (.cells #[.string nm, .string bx, .string ho] 29) = W := ⟨_, rfl⟩
        rw [hW0] at c0 c1 c2 lt0 HB0 ⊢
        clear hW0 z1 z2 z3
        have LT0 := Lib.hid lt0
        clear lt0
        go_region_held3 (fun w' => w'.cell? ⟨wr.heap.size, 0, none⟩ = some (.string nm) ∧ w'.cell? ⟨wr.heap.size, 1, none⟩ = some (.string bx) ∧ w'.cell? ⟨wr.heap.size, 2, none⟩ = some (.string ho)) (first | go_keep | exact ⟨a0, a1, a2⟩ | exact ⟨b0, b1, b2⟩ | exact ⟨e0, e1, e2⟩) (first | (go_at_call 53; refine (NEH.out _).mono ?_; rintro e w1 ⟨rfl, hB1⟩; have a0 : w1.cell? ⟨wr.heap.size, 0, none⟩ = some (.string nm) := (hB1.cell (p := ⟨wr.heap.size, 0, none⟩) LT0.out).trans c0; have a1 : w1.cell? ⟨wr.heap.size, 1, none⟩ = some (.string bx) := (hB1.cell (p := ⟨wr.heap.size, 1, none⟩) LT0.out).trans c1; have a2 : w1.cell? ⟨wr.heap.size, 2, none⟩ = some (.string ho) := (hB1.cell (p := ⟨wr.heap.size, 2, none⟩) LT0.out).trans c2; have LT1 := Lib.hid (Nat.lt_of_lt_of_le LT0.out hB1.size); have HB1 := Lib.hid (HB0.out.drew.trans (hB1.mono HB0.out.size)); clear hB1) | (go_at_call 54; refine (PB.out _).mono ?_; rintro e w2 ⟨rfl, hB2⟩; have b0 : w2.cell? ⟨wr.heap.size, 0, none⟩ = some (.string nm) := (hB2.cell (p := ⟨wr.heap.size, 0, none⟩) LT1.out).trans a0; have b1 : w2.cell? ⟨wr.heap.size, 1, none⟩ = some (.string bx) := (hB2.cell (p := ⟨wr.heap.size, 1, none⟩) LT1.out).trans a1; have b2 : w2.cell? ⟨wr.heap.size, 2, none⟩ = some (.string ho) := (hB2.cell (p := ⟨wr.heap.size, 2, none⟩) LT1.out).trans a2; have LT2 := Lib.hid (Nat.lt_of_lt_of_le LT1.out hB2.size); have HB2 := Lib.hid (HB1.out.trans (hB2.mono HB1.out.size)); clear hB2 PB) | (go_at_call 54; refine (PH.out _).mono ?_; rintro e w3 ⟨rfl, hB3⟩; have e0 : w3.cell? ⟨wr.heap.size, 0, none⟩ = some (.string nm) := (hB3.cell (p := ⟨wr.heap.size, 0, none⟩) LT2.out).trans b0; have e1 : w3.cell? ⟨wr.heap.size, 1, none⟩ = some (.string bx) := (hB3.cell (p := ⟨wr.heap.size, 1, none⟩) LT2.out).trans b1; have e2 : w3.cell? ⟨wr.heap.size, 2, none⟩ = some (.string ho) := (hB3.cell (p := ⟨wr.heap.size, 2, none⟩) LT2.out).trans b2; have HB3 := Lib.hid (HB2.out.trans (hB3.mono HB2.out.size)); clear hB3))
        go_wp2_with fail
        go_roundw
        case rel => exact ⟨k + 1, O3, by omega, by go_num, by rw [HJ.out], HN, HB3.out⟩
        case measure => simp [intOf]; omega
      · obtain rfl : k = l.length := by omega
        have g1 : decide ((l.length : Int) < (l.length : Int)) = false := by simp
        have hF := HFL.out
        have hos : O.size = (l.flatMap addrT).length + 1 := by
          have := congrArg List.length HO.out
          simpa using this
        have s1 : ¬ 9223372036854775807 < O.size + 1 := by omega
        have HF : Hid (O ++ (⟨#[41]⟩ : ByteArray) = mkB (40 :: (l.flatMap addrT ++ [41]))) := Lib.hid (by
          apply ByteArray.ext
          apply Array.ext'
          rw [ByteArray.data_append, Array.toList_append, HO.out, List.take_length]
          rfl)
        clear hF hos HO
        go_wp2_with fail
        go_ret
        exact ⟨by rw [← HF.out]; rfl, hB⟩
end Go.Proofs.YtplaomiegkaaiaaDoor
