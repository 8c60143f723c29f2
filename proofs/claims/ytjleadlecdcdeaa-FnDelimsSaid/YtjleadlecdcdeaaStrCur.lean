/-
  A loop that makes a text longer by what is drawn.
-/
import Derived.Test.YtjleadlecdcdeaaPickA
namespace Go.Proofs.Ytjleadlecdcdeaa
set_option linter.unusedVariables false
open Go.RowKit

/-- Between two rounds: a text of at most m bytes, and the cursor. -/
def StrCur (K : Code) (w0 w : World) (g m : Nat) (v : Value) (wr : World) : Prop :=
  ∃ (s : ByteArray) (i : Nat) (h : Int), v = .string s ∧ s.size ≤ m ∧ Cur K w0 wr g i h ∧ w.grownBy wr (some g)
end Go.Proofs.Ytjleadlecdcdeaa
