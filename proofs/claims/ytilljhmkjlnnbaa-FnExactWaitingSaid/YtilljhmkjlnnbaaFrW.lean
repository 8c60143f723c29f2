/-
  Framers: the walks of Waiting, and of the law FnExactWaiting.
-/
import Derived.Test.YtilljhmkjlnnbaaFrA
import Derived.Test.YtilljhmkjlnnbaaOpenS
namespace Go.Proofs.Ytilljhmkjlnnbaa
set_option linter.unusedVariables false
open Go.RowKit

set_option maxHeartbeats 400000 in
theorem specWaiting_any (f : Fr) (w : World) :
    Calls Try.prog 13 #[f.val] w fun e w' => e = .returned (.int .i64 (f.line.size : Int)) ∧ Below w.heap.size w w' := by
  obtain ⟨l, a, b, c, d⟩ := f
  unfold Fr.val
  dsimp only
  go_enter Try.func13, Try.ntmps13
  go_wp2_with fail
  go_ret
  exact ⟨rfl, (Below.refl _ _).alloc (Nat.le_refl _) _⟩
set_option maxHeartbeats 400000 in
theorem implWaiting_any (f : Fr) (w : World) :
    Calls Try.prog 15 #[f.val] w fun e w' => e = .returned (.int .i64 (f.line.size : Int)) ∧ Below w.heap.size w w' := by
  obtain ⟨l, a, b, c, d⟩ := f
  unfold Fr.val
  dsimp only
  go_enter Try.func15, Try.ntmps15
  go_wp2_with fail
  go_ret
  exact ⟨rfl, (Below.refl _ _).alloc (Nat.le_refl _) _⟩

set_option maxRecDepth 100000 in
set_option maxHeartbeats 1000000 in
theorem exactWaiting_walk (f : Fr) (w : World) (hf : f.Ok) :
    Calls Try.prog 4 #[f.val] w fun e w' => e = .returned (.bool true) ∧ Below w.heap.size w w' := by
  have TF := Lib.hid (fun w => toFramer_any f w)
  have SZ := Lib.hid (fun w => szFramer_any f 1048576 w (by decide) (by decide) hf.1)
  have SW := Lib.hid (fun w => specWaiting_any f w)
  have IW := Lib.hid (fun w => implWaiting_any f w)
  generalize hs : (f.line.size : Int) = S at SZ SW IW
  have hs0 : 0 ≤ S := by omega
  clear hs hf
  unfold Fr.val at *
  obtain ⟨l, a, b, c, d⟩ := f
  dsimp only at *
  by_cases h : 1048576 < S
  · rw [if_pos h] at SZ
    clear h
    go_enter Try.func4, Try.ntmps4
    go_wp2_with fail
    refine (SZ.out _).mono ?_
    rintro e w1 ⟨rfl, hB1⟩
    go_wp2_with fail
    go_ret
    exact ⟨rfl, ((Below.refl _ _).alloc (Nat.le_refl _) _).trans (hB1.mono (by simp))⟩
  · rw [if_neg h] at SZ
    have g1 : decide (1048576 - S < 0) = false := by simp; omega
    generalize 1048576 - S = L at SZ g1
    clear h
    have BX : Hid (FrBox (w.alloc (.cells #[.string l, .int .i64 a, .int .i64 b, .int .i64 c, .bool d] 32)) w.heap.size 32 ⟨l, a, b, c, d⟩) := Lib.hid (FrBox.new w _ ⟨l, a, b, c, d⟩)
    have B0 : Hid (Below w.heap.size w (w.alloc (.cells #[.string l, .int .i64 a, .int .i64 b, .int .i64 c, .bool d] 32))) := Lib.hid ((Below.refl _ _).alloc (Nat.le_refl _) _)
    go_enter Try.func4, Try.ntmps4
    go_wp2_with fail
    refine (SZ.out _).mono ?_
    rintro e w1 ⟨rfl, hB1⟩
    have X1 := Lib.hid (BX.out.later hB1)
    have B1 := Lib.hid (B0.out.trans (hB1.mono B0.out.size))
    clear hB1 BX B0
    obtain ⟨c0, c1, c2, c3, c4⟩ := X1.out.cells
    go_wp2_with fail
    refine (TF.out _).mono ?_
    rintro e w2 ⟨rfl, hB2⟩
    have X2 := Lib.hid (X1.out.later hB2)
    have B2 := Lib.hid (B1.out.trans (hB2.mono B1.out.size))
    clear hB2 c0 c1 c2 c3 c4
    go_wp2_with fail
    refine (SW.out _).mono ?_
    rintro e w3 ⟨rfl, hB3⟩
    have X3 := Lib.hid (X2.out.later hB3)
    have B3 := Lib.hid (B2.out.trans (hB3.mono B2.out.size))
    clear hB3
    obtain ⟨c0, c1, c2, c3, c4⟩ := X3.out.cells
    go_wp2_with fail
    refine (TF.out _).mono ?_
    rintro e w4 ⟨rfl, hB4⟩
    have B4 := Lib.hid (B3.out.trans (hB4.mono B3.out.size))
    clear hB4 c0 c1 c2 c3 c4
    go_wp2_with fail
    refine (IW.out _).mono ?_
    rintro e w5 ⟨rfl, hB5⟩
    have B5 := Lib.hid (B4.out.trans (hB5.mono B4.out.size))
    clear hB5
    go_wp2_with fail
    go_ret
    exact ⟨rfl, B5.out⟩
end Go.Proofs.Ytilljhmkjlnnbaa
