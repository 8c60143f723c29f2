/-
  Strings: plain (a string's word, and the text of what may not be there).
-/
import Derived.Test.YtgebkpnieailbaaDoorWdO
import Derived.Lib.ItoaNum
import Derived.Lib.ItoaLen
namespace Go.Proofs.YtgebkpnieailbaaDoor
set_option linter.unusedVariables false
open Go.RowKit

/-- A string's word. -/
def putStr (l : List UInt8) : List UInt8 :=
  if hasL 0 l = true ∨ 400 < l.length then [] else
  if l.length ≤ 60 ∧ plainAll l = true then quoteL l else [123] ++ Lib.itoa (l.length : Int) ++ [125, 13, 10] ++ l
def nilL : List UInt8 := [78, 73, 76]
def nilA : ByteArray := ⟨#[78, 73, 76]⟩
/-- The text of what may not be there. -/
def nstr (there : Bool) (l : List UInt8) : List UInt8 := if there then putStr l else nilL
/-- How long a number's text may be. -/
theorem itoa_len (n : Nat) (h : n ≤ 67108864) : (Lib.itoa (n : Int)).length ≤ 21 := Lib.itoa_length_le (n : Int) (by omega) (by omega)

/-- What may be told by its length. -/
def litOk (l : List UInt8) : Bool := decide (l.length ≤ 400) && !hasL 0 l
end Go.Proofs.YtgebkpnieailbaaDoor
