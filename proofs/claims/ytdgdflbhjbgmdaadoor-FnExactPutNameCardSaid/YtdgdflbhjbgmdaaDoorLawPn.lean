/-
  The law FnExactPutName.
-/
import Derived.Test.YtdgdflbhjbgmdaaDoorPnX
namespace Go.Proofs.YtdgdflbhjbgmdaaDoor
set_option linter.unusedVariables false
open Go.RowKit

set_option maxHeartbeats 400000 in
theorem exactPutName_walk (s : ByteArray) (w : World) (hs : s.size ≤ maxLen) (hsh : w.ShapedOpen Tryd.prog) (hT : Tabs8 w) :
    Calls Tryd.prog 8 #[.string s] w fun e w' => e = .returned (.bool true) ∧ Below w.heap.size w w' := by
  have hs2 := hs
  have HT := Lib.hid hT
  have HM := Lib.hid (maxLenAt_of_shaped hsh)
  clear hs hT hsh
  unfold maxLen at hs2
  by_cases h1 : s.size ≤ 1048576
  · go_enter Tryd.func8, Tryd.ntmps8
    go_wp2_with fail
    refine (specPutName_any _ _ (by omega)).mono ?_
    intro e1 w1 hr1
    have HR1 := Lib.hid hr1
    have hB1 := hr1.2
    rcases hr1.1 with ⟨o, _, _, rfl⟩ | ⟨_, _, rfl⟩
    · clear hr1
      go_wp2_with fail
      refine (implPutName_any _ _ (by omega) (HT.out.later hB1) (HM.out.after hB1)).mono ?_
      intro e2 w2 hr2
      have hB2 := hr2.2
      obtain rfl := puts_same HR1.out hr2
      clear hr2
      go_wp2_with fail
      go_ret
      exact ⟨rfl, hB1.trans (hB2.mono hB1.size)⟩
    · clear hr1
      go_wp2_with fail
      refine (implPutName_any _ _ (by omega) (HT.out.later hB1) (HM.out.after hB1)).mono ?_
      intro e2 w2 hr2
      have hB2 := hr2.2
      obtain rfl := puts_same HR1.out hr2
      clear hr2
      go_wp2_with fail
      go_ret
      exact ⟨rfl, hB1.trans (hB2.mono hB1.size)⟩
  · go_enter Tryd.func8, Tryd.ntmps8
    go_wp2
    go_ret
    exact ⟨rfl, Below.refl _ _⟩
end Go.Proofs.YtdgdflbhjbgmdaaDoor
