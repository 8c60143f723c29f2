/-
  Kinds: the walk of the laws' eqKind where they are alike.
-/
import Derived.Test.YtjleadlecdcdeaaPrE
import Derived.Test.YtjleadlecdcdeaaThree
namespace Go.Proofs.Ytjleadlecdcdeaa
set_option linter.unusedVariables false
open Go.RowKit

set_option maxRecDepth 100000 in
set_option maxHeartbeats 1000000 in
theorem eqKd_yes (s0 s1 : ByteArray) (va vb : Value) (l : List Pr) (w : World) (ha : PrsAt w va l) (hb : PrsAt w vb l) (hl : l.length ≤ 4294967296) :
    Calls Try.prog 21 #[.agg #[.string s0, .string s1, va], .agg #[.string s0, .string s1, vb]] w fun e w' => e = .returned (.bool true) ∧ Below w.heap.size w w' := by
  obtain ⟨pa, ca, rfl⟩ := ha.slice
  obtain ⟨pb, cb, rfl⟩ := hb.slice
  have B1 : Below w.heap.size w ((w.alloc (.cells #[.string s0, .string s1, .slice pa l.length ca] 26)).alloc (.cells #[.string s0, .string s1, .slice pb l.length cb] 26)) := ((Below.refl _ _).alloc (Nat.le_refl _) _).alloc (by simp) _
  have BH := Lib.hid B1
  have EE := Lib.hid (eqPrs_yes _ _ l _ (ha.later B1 (Nat.le_refl _)) (hb.later B1 (Nat.le_refl _)) hl)
  clear ha hb B1
  go_enter Try.func21, Try.ntmps21
  go_wp2_with fail
  refine EE.out.mono ?_
  rintro e w1 ⟨rfl, hB1⟩
  go_wp2_with fail
  go_ret
  exact ⟨rfl, BH.out.trans (hB1.mono BH.out.size)⟩
end Go.Proofs.Ytjleadlecdcdeaa
