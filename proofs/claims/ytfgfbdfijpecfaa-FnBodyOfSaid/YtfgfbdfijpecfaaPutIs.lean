/-
  What is asked of impl's PutFields.
-/
import Derived.Test.YtfgfbdfijpecfaaPutL
namespace Go.Proofs.Ytfgfbdfijpecfaa
set_option linter.unusedVariables false
open Go.RowKit

/-- What is asked of impl's PutFields. -/
def PutIs : Prop := ∀ (v : Value) (l : List Fl) (w : World), FlsAt w v l → (putL l).length ≤ 8388608 → l.length ≤ 1048576 →
  Calls Try.prog 18 #[v] w fun e w' => e = .returned (.string (mkB (putL l))) ∧ Below w.heap.size w w'
end Go.Proofs.Ytfgfbdfijpecfaa
