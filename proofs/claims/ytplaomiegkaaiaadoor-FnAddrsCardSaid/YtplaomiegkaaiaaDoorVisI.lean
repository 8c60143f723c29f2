/-
  The walk of impl's isVisible.
-/
import Derived.Test.YtplaomiegkaaiaaDoorFlP
import Derived.Test.YtplaomiegkaaiaaDoorFits
namespace Go.Proofs.YtplaomiegkaaiaaDoor
set_option linter.unusedVariables false
open Go.RowKit

theorem vis_any (b : UInt8) (w : World) : Calls Tryd.prog 62 #[.int .u8 b.toNat] w fun e w' => e = .returned (.bool (nameB b)) ∧ w = w' := by
  unfold nameB
  by_cases h1 : 33 ≤ b.toNat
  · have g1 : decide ((32 : Int) < (b.toNat : Int)) = true := by simp; omega
    rw [decide_eq_true h1]
    by_cases h2 : b.toNat ≤ 126
    · rw [decide_eq_true h2]
      have g2 : decide ((b.toNat : Int) < 127) = true := by simp; omega
      go_enter Tryd.func62, Tryd.ntmps62
      go_wp2_with fail
      go_ret
      exact ⟨rfl, rfl⟩
    · rw [decide_eq_false h2]
      have g2 : decide ((b.toNat : Int) < 127) = false := by simp; omega
      go_enter Tryd.func62, Tryd.ntmps62
      go_wp2_with fail
      go_ret
      exact ⟨rfl, rfl⟩
  · have g1 : decide ((32 : Int) < (b.toNat : Int)) = false := by simp; omega
    rw [decide_eq_false h1]
    go_enter Tryd.func62, Tryd.ntmps62
    go_wp2_with fail
    go_ret
    exact ⟨rfl, rfl⟩
theorem fits_vis : Fits 62 nameB := ⟨vis_any, enters_of Tryd.func62 (by kernel_rfl) rfl⟩
end Go.Proofs.YtplaomiegkaaiaaDoor
