/-
  Words: plain lists of bytes (what an atom is, how a text is quoted).
-/
import Derived.Test.YtgebkpnieailbaaDoorRow
namespace Go.Proofs.YtgebkpnieailbaaDoor
set_option linter.unusedVariables false
open Go.RowKit

def hasL (b : UInt8) (l : List UInt8) : Bool := l.any fun x => x == b
def specials : List UInt8 := [40, 41, 123, 37, 42, 34, 92, 93]
/-- A byte of an atom. -/
def atomB (b : UInt8) : Bool := decide (33 ≤ b.toNat ∧ b.toNat ≤ 126) && !hasL b specials
def atomOk (l : List UInt8) : Bool := l.all atomB && !l.isEmpty
def plainB (b : UInt8) : Bool := decide (32 ≤ b.toNat ∧ b.toNat ≤ 126)
def plainAll (l : List UInt8) : Bool := l.all plainB
def escB (b : UInt8) : List UInt8 := if b = 34 ∨ b = 92 then [92, b] else [b]
def quoteL (l : List UInt8) : List UInt8 := 34 :: l.flatMap escB ++ [34]
theorem hasL_take (b : UInt8) (l : List UInt8) (k : Nat) (h : k < l.length) : hasL b (l.take (k + 1)) = (hasL b (l.take k) || (l.getD k 0 == b)) := by
  unfold hasL
  rw [List.take_add_one, List.any_append, List.getD_eq_getElem?_getD, List.getElem?_eq_getElem h]
  simp
theorem all_take (p : UInt8 → Bool) (l : List UInt8) (k : Nat) (h : k < l.length) : (l.take (k + 1)).all p = ((l.take k).all p && p (l.getD k 0)) := by
  rw [List.take_add_one, List.all_append, List.getD_eq_getElem?_getD, List.getElem?_eq_getElem h]
  simp
theorem all_false (p : UInt8 → Bool) (l : List UInt8) (k : Nat) (h : k < l.length) (hp : p (l.getD k 0) = false) : l.all p = false := by
  cases ha : l.all p with
  | false => rfl
  | true =>
    rw [List.all_eq_true] at ha
    have := ha (l.getD k 0) (by
      rw [List.getD_eq_getElem?_getD, List.getElem?_eq_getElem h]
      exact List.getElem_mem _)
    rw [hp] at this
    cases this
theorem has_true (b : UInt8) (l : List UInt8) (k : Nat) (h : k < l.length) (hp : l.getD k 0 = b) : hasL b l = true := by
  unfold hasL
  rw [List.any_eq_true]
  refine ⟨l.getD k 0, ?_, by rw [hp]; exact beq_self_eq_true _⟩
  rw [List.getD_eq_getElem?_getD, List.getElem?_eq_getElem h]
  exact List.getElem_mem _
theorem quote_len (l : List UInt8) : (quoteL l).length ≤ 2 * l.length + 2 := by
  unfold quoteL
  have : (l.flatMap escB).length ≤ 2 * l.length := by
    induction l with
    | nil => simp
    | cons b l ih =>
      rw [List.flatMap_cons, List.length_append, List.length_cons]
      have : (escB b).length ≤ 2 := by unfold escB; split <;> simp
      omega
  rw [List.length_append, List.length_cons, List.length_singleton]
  omega
end Go.Proofs.YtgebkpnieailbaaDoor
