/-
  Elements with blanks between, in brackets; plain.
-/
import Derived.Test.YtgebkpnieailbaaDoorMkB
namespace Go.Proofs.YtgebkpnieailbaaDoor
set_option linter.unusedVariables false
open Go.RowKit

/-- The elements, with blanks between, in brackets. -/
def glueT : List (List UInt8) → List UInt8
  | [] => []
  | x :: r => 32 :: x ++ glueT r
def joinB : List (List UInt8) → List UInt8
  | [] => []
  | x :: r => x ++ glueT r
def listT (l : List (List UInt8)) : List UInt8 := 40 :: joinB l ++ [41]
theorem glueT_append : ∀ (a b : List (List UInt8)), glueT (a ++ b) = glueT a ++ glueT b
  | [], b => rfl
  | x :: r, b => by rw [List.cons_append, glueT, glueT, glueT_append r b]; simp
theorem joinB_snoc (l : List (List UInt8)) (x : List UInt8) (h : l ≠ []) : joinB (l ++ [x]) = joinB l ++ 32 :: x := by
  cases l with
  | nil => exact absurd rfl h
  | cons a r =>
    rw [List.cons_append, joinB, joinB, glueT_append]
    simp [glueT]
theorem glueT_len : ∀ (l : List (List UInt8)), (glueT l).length = total l + l.length
  | [] => rfl
  | x :: r => by
    have := glueT_len r
    rw [glueT, total_cons, List.length_append, List.length_cons, List.length_cons, this]
    omega
theorem joinB_len (l : List (List UInt8)) : (joinB l).length = total l + (l.length - 1) := by
  cases l with
  | nil => rfl
  | cons x r =>
    rw [joinB, List.length_append, glueT_len, total_cons, List.length_cons]
    omega
end Go.Proofs.YtgebkpnieailbaaDoor
