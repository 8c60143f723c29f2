/-
  Kinds: the record.
-/
import Derived.Test.YtjleadlecdcdeaaPrA
namespace Go.Proofs.Ytjleadlecdcdeaa
set_option linter.unusedVariables false
open Go.RowKit

structure Kd where
  type : List UInt8
  sub : List UInt8
  params : List Pr
end Go.Proofs.Ytjleadlecdcdeaa
