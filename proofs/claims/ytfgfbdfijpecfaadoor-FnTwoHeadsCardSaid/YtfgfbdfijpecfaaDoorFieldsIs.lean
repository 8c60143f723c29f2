/-
  What is asked of impl's Fields.
-/
import Derived.Test.YtfgfbdfijpecfaaDoorFlG
import Derived.Test.YtfgfbdfijpecfaaDoorFindI
namespace Go.Proofs.YtfgfbdfijpecfaaDoor
set_option linter.unusedVariables false
open Go.RowKit

/-- What is asked of impl's Fields. -/
def FieldsIs : Prop := ∀ (s : ByteArray) (w : World), MaxLenAt w → s.size ≤ 1048576 → Calls Tryd.prog 8 #[.string s] w (GivesFls (fieldsL s.data.toList) w)
end Go.Proofs.YtfgfbdfijpecfaaDoor
