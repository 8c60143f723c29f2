/-
  Words: plain lists of bytes.
-/
import Derived.Test.YtconopkmiicjeaaDoorSameA
import Derived.Test.YtconopkmiicjeaaDoorWdO
import Derived.Lib.ItoaNum
namespace Go.Proofs.YtconopkmiicjeaaDoor
set_option linter.unusedVariables false
open Go.RowKit

/-- A string's word. -/
def putStr (l : List UInt8) : List UInt8 :=
  if hasL 0 l = true ∨ 400 < l.length then [] else
  if l.length ≤ 60 ∧ plainAll l = true then quoteL l else [123] ++ Lib.itoa (l.length : Int) ++ [125, 13, 10] ++ l
def nilL : List UInt8 := [78, 73, 76]
def putWd (l : List UInt8) : List UInt8 := if atomOk l = true ∧ sameB l nilL = false then l else putStr l

end Go.Proofs.YtconopkmiicjeaaDoor
