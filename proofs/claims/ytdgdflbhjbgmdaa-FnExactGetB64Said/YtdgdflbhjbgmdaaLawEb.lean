/-
  The walks of the laws FnExactPutB64 and FnExactGetB64.
-/
import Derived.Test.YtdgdflbhjbgmdaaBsH
namespace Go.Proofs.Ytdgdflbhjbgmdaa
set_option linter.unusedVariables false
open Go.RowKit

set_option maxHeartbeats 400000 in
theorem exactPutB64_walk (s : ByteArray) (w : World) (hs : s.size ≤ maxLen) :
    Calls Try.prog 4 #[.string s] w fun e w' => e = .returned (.bool true) ∧ Below w.heap.size w w' := by
  have hs2 := hs
  clear hs
  unfold maxLen at hs2
  by_cases h1 : s.size ≤ 1048576
  · generalize hL : b64 s.data.toList = L
    have SPEC : Hid (∀ w, Calls Try.prog 12 #[.string s] w fun e w' => e = .returned (.string ⟨L.toArray⟩) ∧ Below w.heap.size w w') := Lib.hid (fun w => by rw [← hL]; exact specPutB64_any s w h1)
    have IMPL : Hid (∀ w, Calls Try.prog 8 #[.string s] w fun e w' => e = .returned (.string ⟨L.toArray⟩) ∧ Below w.heap.size w w') := Lib.hid (fun w => by rw [← hL]; exact implPutB64_any s w h1)
    clear hL
    go_enter Try.func4, Try.ntmps4
    go_wp2_with (first | (go_at_call 12; refine (SPEC.out _).mono ?_; rintro e w1 ⟨rfl, hB1⟩) | (go_at_call 8; refine (IMPL.out _).mono ?_; rintro e w2 ⟨rfl, hB2⟩))
    go_ret
    exact ⟨rfl, hB1.trans (hB2.mono hB1.size)⟩
  · go_enter Try.func4, Try.ntmps4
    go_wp2
    go_ret
    exact ⟨rfl, Below.refl _ _⟩

set_option maxHeartbeats 400000 in
theorem exactGetB64_walk (s : ByteArray) (w : World) (hs : s.size ≤ maxLen) :
    Calls Try.prog 5 #[.string s] w fun e w' => e = .returned (.bool true) ∧ Below w.heap.size w w' := by
  have hs2 := hs
  clear hs
  unfold maxLen at hs2
  by_cases h1 : s.size ≤ 1048576
  · go_enter Try.func5, Try.ntmps5
    go_wp2_with fail
    go_at_call 11
    refine (specGet_any _ _ h1).mono ?_
    intro e1 w1 hr1
    have HR1 := Lib.hid hr1
    have hB1 := hr1.2
    rcases hr1.1 with ⟨o, rfl, _⟩ | ⟨rfl, _⟩
    · clear hr1
      go_wp2_with fail
      go_at_call 10
      refine (implGetB64_any _ _ h1).mono ?_
      intro e2 w2 hr2
      have hB2 := hr2.2
      obtain rfl := reads_same HR1.out hr2
      clear hr2
      go_wp2_with fail
      go_ret
      exact ⟨rfl, hB1.trans (hB2.mono hB1.size)⟩
    · clear hr1
      go_wp2_with fail
      go_at_call 10
      refine (implGetB64_any _ _ h1).mono ?_
      intro e2 w2 hr2
      have hB2 := hr2.2
      obtain rfl := reads_same HR1.out hr2
      clear hr2
      go_wp2_with fail
      go_ret
      exact ⟨rfl, hB1.trans (hB2.mono hB1.size)⟩
  · go_enter Try.func5, Try.ntmps5
    go_wp2
    go_ret
    exact ⟨rfl, Below.refl _ _⟩
end Go.Proofs.Ytdgdflbhjbgmdaa
