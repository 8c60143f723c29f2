/-
  The walks of the laws FnExactAtomOk and FnExactQuote.
-/
import Derived.Test.YtconopkmiicjeaaIwA
import Derived.Test.YtconopkmiicjeaaIwQ
namespace Go.Proofs.Ytconopkmiicjeaa
set_option linter.unusedVariables false
open Go.RowKit

set_option maxHeartbeats 400000 in
theorem exactAtomOk_walk (s : ByteArray) (w : World) (hs : s.size ≤ maxLen) :
    Calls Try.prog 3 #[.string s] w fun e w' => e = .returned (.bool true) ∧ Below w.heap.size w w' := by
  have hs2 := hs
  clear hs
  unfold maxLen at hs2
  by_cases h1 : s.size ≤ 1048576
  · generalize hL : atomOk s.data.toList = V
    have SPEC : Hid (∀ w, Calls Try.prog 5 #[.string s] w fun e w' => e = .returned (.bool V) ∧ w' = w) := Lib.hid (fun w => by rw [← hL]; exact specAtomOk_any s w (by omega))
    have IMPL : Hid (∀ w, Calls Try.prog 6 #[.string s] w fun e w' => e = .returned (.bool V) ∧ w' = w) := Lib.hid (fun w => by rw [← hL]; exact implAtomOk_any s w (by omega))
    clear hL
    go_enter Try.func3, Try.ntmps3
    go_wp2_with fail
    refine (SPEC.out _).mono ?_
    rintro e w1 ⟨rfl, rfl⟩
    go_wp2_with fail
    refine (IMPL.out _).mono ?_
    rintro e w2 ⟨rfl, rfl⟩
    go_wp2_with fail
    go_ret
    exact ⟨rfl, Below.refl _ _⟩
  · go_enter Try.func3, Try.ntmps3
    go_wp2
    go_ret
    exact ⟨rfl, Below.refl _ _⟩

set_option maxHeartbeats 400000 in
theorem exactQuote_walk (s : ByteArray) (w : World) (hs : s.size ≤ maxLen) :
    Calls Try.prog 4 #[.string s] w fun e w' => e = .returned (.bool true) ∧ Below w.heap.size w w' := by
  have hs2 := hs
  clear hs
  unfold maxLen at hs2
  by_cases h1 : s.size ≤ 1048576
  · generalize hL : quoteL s.data.toList = L
    have SPEC : Hid (∀ w, Calls Try.prog 7 #[.string s] w fun e w' => e = .returned (.string ⟨L.toArray⟩) ∧ Below w.heap.size w w') := Lib.hid (fun w => by rw [← hL]; exact specQuote_any s w (by omega))
    have IMPL : Hid (∀ w, Calls Try.prog 8 #[.string s] w fun e w' => e = .returned (.string ⟨L.toArray⟩) ∧ Below w.heap.size w w') := Lib.hid (fun w => by rw [← hL]; exact implQuote_any s w (by omega))
    clear hL
    go_enter Try.func4, Try.ntmps4
    go_wp2_with fail
    refine (SPEC.out _).mono ?_
    rintro e w1 ⟨rfl, hB1⟩
    go_wp2_with fail
    refine (IMPL.out _).mono ?_
    rintro e w2 ⟨rfl, hB2⟩
    go_wp2_with fail
    go_ret
    exact ⟨rfl, hB1.trans (hB2.mono hB1.size)⟩
  · go_enter Try.func4, Try.ntmps4
    go_wp2
    go_ret
    exact ⟨rfl, Below.refl _ _⟩
end Go.Proofs.Ytconopkmiicjeaa
