/-
  A function of the program that tells something of a byte.
-/
import Derived.WalkKit
import Derived.Lib.Hide
import Derived.Shelf.Abstract
import Derived.Test.YtjleadlecdcdeaaByteA
namespace Go.Proofs.Ytjleadlecdcdeaa
set_option linter.unusedVariables false
open Go.RowKit

/-- A function of the program that tells something of a byte. -/
structure Fits (K : FuncId) (p : UInt8 → Bool) : Prop where
  goes : ∀ (b : UInt8) (w : World), Calls Try.prog K #[.int .u8 b.toNat] w fun e w' => e = .returned (.bool (p b)) ∧ w = w'
  enters : Enters Try.prog K
end Go.Proofs.Ytjleadlecdcdeaa
