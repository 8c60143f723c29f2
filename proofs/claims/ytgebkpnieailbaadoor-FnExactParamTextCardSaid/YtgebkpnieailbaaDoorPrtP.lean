/-
  Parameters: how they are told; plain.
-/
import Derived.Test.YtgebkpnieailbaaDoorGluP
import Derived.Test.YtgebkpnieailbaaDoorPsL
import Derived.Test.YtgebkpnieailbaaDoorPrT
namespace Go.Proofs.YtgebkpnieailbaaDoor
set_option linter.unusedVariables false
open Go.RowKit

def wordsP (l : List Pr) : List (List UInt8) := l.flatMap fun p => [putStr p.name, putStr p.value]
def prT (l : List Pr) : List UInt8 := if l = [] then nilL else listT (wordsP l)
theorem words_take (l : List Pr) (k : Nat) (h : k < l.length) : wordsP (l.take (k + 1)) = wordsP (l.take k) ++ [putStr l[k].name, putStr l[k].value] := by
  unfold wordsP
  rw [List.take_add_one, List.getElem?_eq_getElem h, List.flatMap_append]
  simp
theorem words_nil (l : List Pr) : wordsP l = [] ↔ l = [] := by
  cases l with
  | nil => simp [wordsP]
  | cons a r => simp [wordsP]
theorem words_len (l : List Pr) : (wordsP l).length = 2 * l.length := by
  induction l with
  | nil => rfl
  | cons a r ih =>
    unfold wordsP at ih ⊢
    rw [List.flatMap_cons, List.length_append, ih]
    simp only [List.length_cons, List.length_nil]
    omega
theorem words_total : ∀ (l : List Pr), totPrL l ≤ 67108864 → total (wordsP l) ≤ 2 * totPrL l + 60 * l.length
  | [], _ => by simp [wordsP, total]
  | a :: r, h => by
    have e : totPrL (a :: r) = totPr a + totPrL r := rfl
    rw [e] at h ⊢
    have ih := words_total r (by omega)
    have h1 := putStr_len a.name (by unfold totPr at h; omega)
    have h2 := putStr_len a.value (by unfold totPr at h; omega)
    have e2 : wordsP (a :: r) = putStr a.name :: putStr a.value :: wordsP r := rfl
    rw [e2, total_cons, total_cons, List.length_cons]
    unfold totPr at h ⊢
    omega
theorem totPr_mem {l : List Pr} {x : Pr} (h : x ∈ l) : totPr x ≤ totPrL l := by
  induction l with
  | nil => cases h
  | cons a r ih =>
    show totPr x ≤ totPr a + totPrL r
    rcases List.mem_cons.1 h with rfl | h
    · omega
    · have := ih h; omega
theorem words_pre (l : List Pr) (k : Nat) : total (wordsP (l.take k)) ≤ total (wordsP l) := by
  have : wordsP l = wordsP (l.take k) ++ wordsP (l.drop k) := by
    unfold wordsP
    rw [← List.flatMap_append, List.take_append_drop]
  rw [this, total_append]
  omega
/-- What stands behind k of them. -/
theorem words_join (l : List Pr) (k : Nat) (h : k < l.length) : joinB (wordsP (l.take (k + 1))) = (if k = 0 then [] else joinB (wordsP (l.take k)) ++ [32]) ++ putStr l[k].name ++ [32] ++ putStr l[k].value := by
  rw [words_take l k h]
  cases k with
  | zero => simp [wordsP, joinB, glueT]
  | succ j =>
    have hne : wordsP (l.take (j + 1)) ≠ [] := by
      intro hx
      have := (words_nil _).1 hx
      have := congrArg List.length this
      rw [List.length_take, List.length_nil] at this
      omega
    rw [show [putStr l[j + 1].name, putStr l[j + 1].value] = [putStr l[j + 1].name] ++ [putStr l[j + 1].value] from rfl, ← List.append_assoc, joinB_snoc _ _ (by simp), joinB_snoc _ _ hne, if_neg (by omega)]
    simp
end Go.Proofs.YtgebkpnieailbaaDoor
