/-
  A function of the program that tells something of a byte.
-/
import Derived.WalkKit
import Derived.Lib.Hide
import Derived.Shelf.Abstract
import Derived.Test.YtgebkpnieailbaaDoorByteA
namespace Go.Proofs.YtgebkpnieailbaaDoor
set_option linter.unusedVariables false
open Go.RowKit

/-- A function of the program that tells something of a byte. -/
structure Fits (K : FuncId) (p : UInt8 → Bool) : Prop where
  goes : ∀ (b : UInt8) (w : World), Calls Tryd.prog K #[.int .u8 b.toNat] w fun e w' => e = .returned (.bool (p b)) ∧ w = w'
  enters : Enters Tryd.prog K
end Go.Proofs.YtgebkpnieailbaaDoor
