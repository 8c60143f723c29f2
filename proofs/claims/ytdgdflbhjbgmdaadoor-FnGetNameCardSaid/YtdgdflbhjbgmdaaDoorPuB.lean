/-
  The sign at a place: plain lists of bytes.
-/
import Derived.Test.YtdgdflbhjbgmdaaDoorPuA
import Derived.Test.YtdgdflbhjbgmdaaDoorBsP
namespace Go.Proofs.YtdgdflbhjbgmdaaDoor
set_option linter.unusedVariables false
open Go.RowKit

/-- How many bytes a sign has by its first one, and what that one says. -/
def leadN (b : Nat) : Nat := if 240 ≤ b then 4 else if 224 ≤ b then 3 else if 192 ≤ b then 2 else 1
def leadR (b : Nat) : Nat := if 240 ≤ b then b - 240 else if 224 ≤ b then b - 224 else if 192 ≤ b then b - 192 else b
/-- The number behind j more bytes. -/
def moreR (l : List UInt8) (i : Nat) : Nat → Nat
  | 0 => leadR (byteAt l i)
  | j + 1 => moreR l i j * 64 + byteAt l (i + 1 + j) % 64
theorem moreR_lt (l : List UInt8) (i : Nat) : ∀ j, moreR l i j < 256 * 64 ^ j := by
  intro j
  induction j with
  | zero =>
    have := byteAt_lt l i
    simp only [moreR, leadR]
    split <;> (try split) <;> (try split) <;> omega
  | succ j ih =>
    show moreR l i j * 64 + byteAt l (i + 1 + j) % 64 < 256 * 64 ^ (j + 1)
    rw [Nat.pow_succ]
    omega
/-- The sign at place i, and how many bytes it has; 0 where there is none. -/
def nextL (l : List UInt8) (i : Nat) : Nat × Nat :=
  if l.length < i + leadN (byteAt l i) then (0, 0) else
  if putL (moreR l i (leadN (byteAt l i) - 1)) = (l.drop i).take (leadN (byteAt l i)) then (moreR l i (leadN (byteAt l i) - 1), leadN (byteAt l i)) else (0, 0)
end Go.Proofs.YtdgdflbhjbgmdaaDoor
