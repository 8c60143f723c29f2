/-
  The law FnExactCut: equal pieces, in memory of the result's own; the sizes stay as they were.
-/
import Derived.Test.YtilljhmkjlnnbaaCutS
import Derived.Test.YtilljhmkjlnnbaaCutI
import Derived.Test.YtilljhmkjlnnbaaMarkC
namespace Go.Proofs.Ytilljhmkjlnnbaa
set_option linter.unusedVariables false
open Go.RowKit

theorem row_bounds {w : World} {a : Option Addr} {len cap : Nat} {zs : List Int} (h : IsRow .i64 w a len cap zs) : ∀ x ∈ zs.take len, -9223372036854775808 ≤ x ∧ x ≤ 9223372036854775807 := by
  intro x hx
  rcases h with ⟨_, rfl, _, rfl⟩ | ⟨_, _, _, _, _, _, h5⟩
  · simp at hx
  · have := h5 x (List.mem_of_mem_take hx)
    simpa [Lit.wf, IntKind.min, IntKind.max, IntKind.signed, IntKind.bits] using this
theorem row_len {w : World} {a : Option Addr} {len cap : Nat} {zs : List Int} (h : IsRow .i64 w a len cap zs) : (zs.take len).length = len := by
  rcases h with ⟨_, rfl, _, rfl⟩ | ⟨_, _, h1, _, h3, _⟩
  · rfl
  · rw [List.length_take]
    omega

set_option maxRecDepth 100000 in
set_option maxHeartbeats 2000000 in
theorem exactCut_walk (s : ByteArray) (a : Option Addr) (len cap : Nat) (zs : List Int) (w : World) (hs : s.size ≤ maxLen) (hz : IsRow .i64 w a len cap zs) :
    Calls Try.prog 5 #[.string s, .slice a len cap] w fun e w' => e = .returned (.bool true) ∧ Below w.heap.size w w' := by
  have hs2 := hs
  clear hs
  unfold maxLen at hs2
  by_cases h1 : s.size ≤ 1048576
  · by_cases h2 : len ≤ 1048576
    · have hzb := row_bounds hz
      have hzl := row_len hz
      have TI : Hid (∀ w', Below w.heap.size w w' → Calls Try.prog 16 #[.slice a len cap] w' (GivesInts (zs.take len) w')) := Lib.hid (fun w' hb => toIntS_any a len cap zs w w' hz hb h2)
      generalize zs.take len = l at hzb hzl TI
      have HLEN := Lib.hid (cutL_len l s)
      have SC : Hid (∀ v w, ValsAt w v (l.map iv) → Calls Try.prog 10 #[.string s, v] w (GivesStrs (cutL s l) w)) := Lib.hid (fun v w hv => specCut_any s v l w (by omega) (by omega) hv hzb)
      have IC : Hid (∀ v w, ValsAt w v (l.map iv) → Calls Try.prog 8 #[.string s, v] w (GivesStrs (cutL s l) w)) := Lib.hid (fun v w hv => implCut_any s v l w (by omega) (by omega) hv hzb)
      generalize cutL s l = p at HLEN SC IC
      have hpl := HLEN.out
      have hll : l.length ≤ 1048576 := by omega
      clear HLEN hzb hzl hz
      go_enter Try.func5, Try.ntmps5
      go_wp2_with fail
      refine (TI.out _ (Below.refl _ _)).mono ?_
      rintro e w1 ⟨v1, rfl, hr1, hB1⟩
      have R1 := Lib.hid hr1
      have B1 := Lib.hid hB1
      clear hr1 hB1
      go_wp2_with fail
      refine (SC.out _ _ (valsAt_of_row R1.out)).mono ?_
      rintro e w2 ⟨v2, rfl, hr2, hB2⟩
      have R2 := Lib.hid hr2
      have B2 := Lib.hid (B1.out.trans (hB2.mono B1.out.size))
      clear hr2 hB2
      go_wp2_with fail
      refine (TI.out _ B2.out).mono ?_
      rintro e w3 ⟨v3, rfl, hr3, hB3⟩
      have R3 := Lib.hid hr3
      have R23 := Lib.hid (row_below R2.out hB3)
      have HS23 : Hid (w2.heap.size ≤ w3.heap.size) := Lib.hid hB3.size
      have B3 := Lib.hid (B2.out.trans (hB3.mono B2.out.size))
      clear hr3 hB3
      go_wp2_with fail
      refine (IC.out _ _ (valsAt_of_row R3.out)).mono ?_
      rintro e w4 ⟨v4, rfl, hr4, hB4⟩
      have R4 := Lib.hid hr4
      have R24 := Lib.hid (row_below R23.out hB4)
      have R34 := Lib.hid (row_below R3.out hB4)
      have B4 := Lib.hid (B3.out.trans (hB4.mono B3.out.size))
      clear hr4 hB4
      go_wp2_with fail
      refine (eqStrs_any v4 v2 p p _ (valsAt_of_row R4.out) (valsAt_of_row R24.out) (by omega) (by omega)).mono ?_
      rintro e w5 ⟨rfl, hq5, hB5⟩
      rw [decide_eq_true (rfl : p = p)]
      have R45 := Lib.hid (row_below R4.out hB5)
      have R25 := Lib.hid (row_below R24.out hB5)
      have R35 := Lib.hid (row_below R34.out hB5)
      have B5 := Lib.hid (B4.out.trans (hB5.mono B4.out.size))
      clear hq5 hB5
      go_wp2_with fail
      refine (TI.out _ B5.out).mono ?_
      rintro e w6 ⟨v6, rfl, hr6, hB6⟩
      have R6 := Lib.hid hr6
      have R46 := Lib.hid (row_below R45.out hB6)
      have R26 := Lib.hid (row_below R25.out hB6)
      have R36 := Lib.hid (row_below R35.out hB6)
      have B6 := Lib.hid (B5.out.trans (hB6.mono B5.out.size))
      clear hr6 hB6
      go_wp2_with fail
      refine (eqIntS_yes v3 v6 l _ (valsAt_of_row R36.out) (valsAt_of_row R6.out) (by omega)).mono ?_
      rintro e w7 ⟨rfl, hq7, hB7⟩
      have R47 := Lib.hid (row_below R46.out hB7)
      have R27 := Lib.hid (row_below R26.out hB7)
      have R37 := Lib.hid (row_below R36.out hB7)
      have B7 := Lib.hid (B6.out.trans (hB7.mono B6.out.size))
      clear hq7 hB7
      go_wp2_with fail
      refine (markIntS_any v3 l 1 _ _ R37.out (by omega) (by omega)).mono ?_
      rintro e w8 ⟨rfl, _, hg8⟩
      have hz1 := B1.out.size
      have hz2 := B2.out.size
      have hz7 := B7.out.size
      have R38 := Lib.hid (row_ahead R27.out R2.out R37.out (Nat.le_refl _) hg8)
      have R48 := Lib.hid (row_behind R47.out R3.out (Nat.le_refl _) hg8)
      have B8 := Lib.hid (below_row B7.out R37.out hz2 hz7 hg8)
      have R2L := Lib.hid R2.out
      clear hg8 hz1 hz2 hz7
      go_wp2_with fail
      refine (eqStrs_any v4 v2 p p _ (valsAt_of_row R48.out) (valsAt_of_row R38.out) (by omega) (by omega)).mono ?_
      rintro e w9 ⟨rfl, hq9, hB9⟩
      rw [decide_eq_true (rfl : p = p)]
      have R49 := Lib.hid (row_below R48.out hB9)
      have R29 := Lib.hid (row_below R38.out hB9)
      have B9 := Lib.hid (B8.out.trans (hB9.mono B8.out.size))
      clear hq9 hB9
      go_wp2_with fail
      refine (markStrs_any v4 p 1 _ _ R49.out (by omega) (by omega)).mono ?_
      rintro e w10 ⟨rfl, hr10, hg10⟩
      have hz3 := B3.out.size
      have hz9 := B9.out.size
      have R4A := Lib.hid hr10
      have R2A := Lib.hid (row_ahead R29.out R2L.out R49.out (Nat.le_trans (Nat.le_refl _) HS23.out) hg10)
      have BA := Lib.hid (below_row B9.out R49.out hz3 hz9 hg10)
      clear hr10 hg10 hz3 hz9
      go_wp2_with fail
      refine (heldStrs_yes v4 p.length 1 _ (valsAt_of_row R4A.out) (by omega) (by omega)).mono ?_
      rintro e w11 ⟨rfl, hB11⟩
      have R4B := Lib.hid (row_below R4A.out hB11)
      have R2B := Lib.hid (row_below R2A.out hB11)
      have BB := Lib.hid (BA.out.trans (hB11.mono BA.out.size))
      clear hB11
      go_wp2_with fail
      refine (TI.out _ BB.out).mono ?_
      rintro e w12 ⟨v12, rfl, hr12, hB12⟩
      have R12 := Lib.hid hr12
      have R4C := Lib.hid (row_below R4B.out hB12)
      have R2C := Lib.hid (row_below R2B.out hB12)
      have BC := Lib.hid (BB.out.trans (hB12.mono BB.out.size))
      clear hr12 hB12
      go_wp2_with fail
      refine (IC.out _ _ (valsAt_of_row R12.out)).mono ?_
      rintro e w13 ⟨v13, rfl, hr13, hB13⟩
      have R13 := Lib.hid hr13
      have R4D := Lib.hid (row_below R4C.out hB13)
      have R2D := Lib.hid (row_below R2C.out hB13)
      have BD := Lib.hid (BC.out.trans (hB13.mono BC.out.size))
      clear hr13 hB13
      go_wp2_with fail
      refine (eqStrs_any v13 v2 p p _ (valsAt_of_row R13.out) (valsAt_of_row R2D.out) (by omega) (by omega)).mono ?_
      rintro e w14 ⟨rfl, hq14, hB14⟩
      rw [decide_eq_true (rfl : p = p)]
      have R4E := Lib.hid (row_below R4D.out hB14)
      have BE := Lib.hid (BD.out.trans (hB14.mono BD.out.size))
      clear hq14 hB14
      go_wp2_with fail
      refine (heldStrs_yes v4 p.length 1 _ (valsAt_of_row R4E.out) (by omega) (by omega)).mono ?_
      rintro e w15 ⟨rfl, hB15⟩
      have BF := Lib.hid (BE.out.trans (hB15.mono BE.out.size))
      clear hB15
      go_wp2_with fail
      go_ret
      exact ⟨rfl, BF.out⟩
    · have g1 : decide ((1048576 : Int) < (len : Int)) = true := by simp; omega
      go_enter Try.func5, Try.ntmps5
      go_wp2
      go_ret
      exact ⟨rfl, Below.refl _ _⟩
  · go_enter Try.func5, Try.ntmps5
    go_wp2
    go_ret
    exact ⟨rfl, Below.refl _ _⟩
end Go.Proofs.Ytilljhmkjlnnbaa
