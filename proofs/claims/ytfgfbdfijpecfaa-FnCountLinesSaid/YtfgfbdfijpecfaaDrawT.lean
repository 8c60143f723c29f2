/-
  A text is drawn.
-/
import Derived.Test.YtfgfbdfijpecfaaPickA
namespace Go.Proofs.Ytfgfbdfijpecfaa
set_option linter.unusedVariables false
open Go.RowKit

/-- A text of at most m bytes is drawn. -/
def DrawsStr (m : Nat) (w : World) (e : Ending) (w' : World) : Prop := ∃ s : ByteArray, e = .returned (.string s) ∧ s.size ≤ m ∧ Below w.heap.size w w'

end Go.Proofs.Ytfgfbdfijpecfaa
