/-
  Addresses: the exact law on Unquote.
-/
import Derived.Test.YtplaomiegkaaiaaDoorUqI
namespace Go.Proofs.YtplaomiegkaaiaaDoor
set_option linter.unusedVariables false
open Go.RowKit

set_option maxRecDepth 100000 in
set_option maxHeartbeats 400000 in
theorem exactUnquote_walk (s : ByteArray) (w : World) (hs : s.size ≤ maxLen) :
    Calls Tryd.prog 6 #[.string s] w fun e w' => e = .returned (.bool true) ∧ Below w.heap.size w w' := by
  unfold maxLen at hs
  by_cases h1 : s.size ≤ 1048576
  · have g1 : decide ((1048576 : Int) < (s.size : Int)) = false := by simp; omega
    have SU := Lib.hid (fun w => specUnquote_any s w h1)
    have IU := Lib.hid (fun w => implUnquote_any s w h1)
    generalize mkB (unqL s.data.toList) = u at SU IU
    go_enter Tryd.func6, Tryd.ntmps6
    go_wp2_with fail
    refine (SU.out _).mono ?_
    rintro e w1 ⟨rfl, hB1⟩
    go_wp2_with fail
    refine (IU.out _).mono ?_
    rintro e w2 ⟨rfl, hB2⟩
    go_wp2_with fail
    go_ret
    exact ⟨rfl, hB1.trans (hB2.mono hB1.size)⟩
  · have g1 : decide ((1048576 : Int) < (s.size : Int)) = true := by simp; omega
    go_enter Tryd.func6, Tryd.ntmps6
    go_wp2
    go_ret
    exact ⟨rfl, Below.refl _ _⟩
end Go.Proofs.YtplaomiegkaaiaaDoor
