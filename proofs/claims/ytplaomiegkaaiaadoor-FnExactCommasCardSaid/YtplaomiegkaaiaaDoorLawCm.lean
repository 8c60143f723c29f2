/-
  Addresses: the exact law on Commas.
-/
import Derived.Test.YtplaomiegkaaiaaDoorMarkC
import Derived.Test.YtplaomiegkaaiaaDoorCmI
namespace Go.Proofs.YtplaomiegkaaiaaDoor
set_option linter.unusedVariables false
open Go.RowKit

set_option maxRecDepth 100000 in
set_option maxHeartbeats 1000000 in
theorem exactCommas_walk (s : ByteArray) (w : World) (hs : s.size ≤ maxLen) :
    Calls Tryd.prog 7 #[.string s] w fun e w' => e = .returned (.bool true) ∧ Below w.heap.size w w' := by
  unfold maxLen at hs
  by_cases h1 : s.size ≤ 1048576
  · have hlen : ((comL s.data.toList).map mkB).length ≤ s.size + 1 := by
      have := (comL_total s.data.toList).2
      simpa using this
    have SC := fun w => specCommas_any s w h1
    have IC := fun w => implCommas_any s w h1
    generalize (comL s.data.toList).map mkB = l at hlen SC IC
    have SCH := Lib.hid SC
    have ICH := Lib.hid IC
    clear SC IC
    go_enter Tryd.func7, Tryd.ntmps7
    go_wp2_with fail
    refine (SCH.out _).mono ?_
    rintro e w1 ⟨v1, rfl, hr1, hB1⟩
    have HR1 := Lib.hid hr1
    clear hr1
    go_wp2_with fail
    refine (ICH.out _).mono ?_
    rintro e w2 ⟨v2, rfl, hr2, hB2⟩
    have HR2 := Lib.hid hr2
    have HR1' := Lib.hid (row_below HR1.out hB2)
    clear hr2
    go_wp2_with fail
    refine (eqStrs_any v2 v1 l l _ (valsAt_of_row HR2.out) (valsAt_of_row HR1'.out) (by omega) (by omega)).mono ?_
    rintro e w3 ⟨rfl, hq3, hB3⟩
    rw [decide_eq_true (rfl : l = l)]
    have HR23 := Lib.hid (row_below HR2.out hB3)
    have HR13 := Lib.hid (row_below HR1'.out hB3)
    have HQ3 := Lib.hid hq3
    clear hq3
    go_wp2_with fail
    refine (markStrs_any v2 l 1 _ _ HR23.out (by omega) (by omega)).mono ?_
    rintro e w4 ⟨rfl, hr4, hg4⟩
    have HR4 := Lib.hid hr4
    have hB24 : Below w1.heap.size w1 w4 := by
      refine (hB2.trans (hB3.mono hB2.size)).grown hg4 (Nat.le_trans hB2.size hB3.size) (fun k e => ?_)
      exact (HR2.out.lt k e).1
    have HR14 : Hid (w4.ownsRow w.heap.size 9 1 v1 l.length (l.map Value.string)) := Lib.hid (row_below HR1.out hB24)
    clear hr4 hg4
    go_wp2_with fail
    refine (heldStrs_yes v2 l.length 1 _ (valsAt_of_row HR4.out) (by omega) (by omega)).mono ?_
    rintro e w5 ⟨rfl, hB5⟩
    have hB15 : Below w1.heap.size w1 w5 := hB24.trans (hB5.mono hB24.size)
    have HR45 := Lib.hid (row_below HR4.out hB5)
    have HR15 := Lib.hid (row_below HR14.out hB5)
    have hB05 : Below w.heap.size w w5 := hB1.trans (hB15.mono hB1.size)
    go_wp2_with fail
    refine (ICH.out _).mono ?_
    rintro e w6 ⟨v3, rfl, hr6, hB6⟩
    have HR36 := Lib.hid hr6
    have HR16 := Lib.hid (row_below HR15.out hB6)
    have HR26 := Lib.hid (row_below HR45.out hB6)
    clear hr6
    go_wp2_with fail
    refine (eqStrs_any v3 v1 l l _ (valsAt_of_row HR36.out) (valsAt_of_row HR16.out) (by omega) (by omega)).mono ?_
    rintro e w7 ⟨rfl, hq7, hB7⟩
    rw [decide_eq_true (rfl : l = l)]
    have HR27 := Lib.hid (row_below HR26.out hB7)
    clear hq7
    go_wp2_with fail
    refine (heldStrs_yes v2 l.length 1 _ (valsAt_of_row HR27.out) (by omega) (by omega)).mono ?_
    rintro e w8 ⟨rfl, hB8⟩
    have hB08 : Below w.heap.size w w8 := ((hB05.trans (hB6.mono hB05.size)).trans (hB7.mono (Nat.le_trans hB05.size hB6.size))).trans (hB8.mono (Nat.le_trans (Nat.le_trans hB05.size hB6.size) hB7.size))
    go_wp2_with fail
    go_ret
    exact ⟨rfl, hB08⟩
  · go_enter Tryd.func7, Tryd.ntmps7
    go_wp2
    go_ret
    exact ⟨rfl, Below.refl _ _⟩
end Go.Proofs.YtplaomiegkaaiaaDoor
