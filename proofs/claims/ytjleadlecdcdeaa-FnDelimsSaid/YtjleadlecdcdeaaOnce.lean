/-
  The draw of a bool.
-/
import Derived.Test.YtjleadlecdcdeaaPickA
namespace Go.Proofs.Ytjleadlecdcdeaa
set_option linter.unusedVariables false
open Go.RowKit

/-- A bool is drawn. -/
def DrawnOnce (K : Code) (w0 : World) (g : Nat) (w : World) (e : Ending) (w' : World) : Prop :=
  ∃ (b : Bool) (i' : Nat) (h' : Int), e = .returned (.bool b) ∧ Cur K w0 w' g i' h' ∧ w.grownBy w' (some g)

set_option maxRecDepth 100000 in
set_option maxHeartbeats 400000 in
theorem once_any {K : Code} {w0 w : World} {g i : Nat} {h : Int} (c : Cur K w0 w g i h) (n : Int) (h1 : 1 ≤ n) (h2 : n ≤ 1000) :
    Calls Try.prog 68 #[.pointer (some ⟨g, 0, none⟩), .int .i64 n] w (DrawnOnce K w0 g w) := by
  have C := Lib.hid c
  clear c
  go_enter Try.func68, Try.ntmps68
  go_wp2_with fail
  refine (below_any C.out n h1 (by omega)).mono ?_
  rintro e w1 ⟨x, i1, h1', rfl, hx0, hx1, hc1, hg1, _⟩
  have HC1 := Lib.hid hc1
  have HG1 := Lib.hid hg1
  clear hc1 hg1
  go_wp2_with fail
  go_ret
  exact ⟨_, i1, h1', rfl, HC1.out, HG1.out⟩

end Go.Proofs.Ytjleadlecdcdeaa
