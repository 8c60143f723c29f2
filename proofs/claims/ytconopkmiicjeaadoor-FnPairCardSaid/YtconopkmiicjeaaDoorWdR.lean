/-
  Words: what is quoted reads back.
-/
import Derived.Test.YtconopkmiicjeaaDoorWdQ
namespace Go.Proofs.YtconopkmiicjeaaDoor
set_option linter.unusedVariables false
open Go.RowKit

theorem getD_at (P S : List UInt8) (b : UInt8) (i : Nat) (h : i = P.length) : (P ++ b :: S).getD i 0 = b := by
  subst h
  rw [List.getD_eq_getElem?_getD, List.getElem?_append_right (Nat.le_refl _)]
  simp

theorem quotedGo_put (S : List UInt8) : ∀ (r P : List UInt8) (n i : Nat) (out l : List UInt8), l = P ++ (r.flatMap escB ++ 34 :: S) → i = P.length → (r.flatMap escB).length + 1 ≤ n →
    quotedGo l n i out = if 400 < (out ++ r).length ∨ plainAll (out ++ r) = false then none else some (out ++ r, i + (r.flatMap escB).length + 1)
  | [], P, n, i, out, l, hl, hi, hn => by
    obtain ⟨n, rfl⟩ : ∃ m, n = m + 1 := ⟨n - 1, by omega⟩
    have hil : i < l.length := by rw [hl, hi]; simp
    have hg : l.getD i 0 = 34 := by rw [hl]; exact getD_at P S 34 i hi
    rw [quotedGo, if_pos hil, hg, if_pos rfl]
    simp
  | b :: r, P, n, i, out, l, hl, hi, hn => by
    obtain ⟨n, rfl⟩ : ∃ m, n = m + 1 := ⟨n - 1, by omega⟩
    rw [List.flatMap_cons] at hl hn ⊢
    rw [List.length_append] at hn
    by_cases hb : b = 34 ∨ b = 92
    · have he : escB b = [92, b] := by unfold escB; rw [if_pos hb]
      rw [he] at hl hn ⊢
      have hl1 : l = P ++ 92 :: (b :: (r.flatMap escB ++ 34 :: S)) := by rw [hl]; simp
      have hl2 : l = (P ++ [92]) ++ b :: (r.flatMap escB ++ 34 :: S) := by rw [hl]; simp
      have hl3 : l = (P ++ [92, b]) ++ (r.flatMap escB ++ 34 :: S) := by rw [hl]; simp
      have hil : i + 1 < l.length := by rw [hl1, hi]; simp
      have hg : l.getD i 0 = 92 := by rw [hl1]; exact getD_at P _ 92 i hi
      have hg1 : l.getD (i + 1) 0 = b := by rw [hl2]; exact getD_at (P ++ [92]) _ b (i + 1) (by rw [hi]; simp)
      simp only [List.length_cons, List.length_nil] at hn
      have IH := quotedGo_put S r (P ++ [92, b]) n (i + 2) (out ++ [b]) l hl3 (by rw [hi]; simp) (by omega)
      rw [quotedGo, if_pos (by omega), hg, if_neg (by decide), if_pos rfl, hg1, if_pos ⟨hil, hb⟩, IH, List.append_assoc, List.singleton_append, show i + 2 + (r.flatMap escB).length + 1 = i + ([92, b] ++ r.flatMap escB).length + 1 by simp; omega]
    · have he : escB b = [b] := by unfold escB; rw [if_neg hb]
      rw [he] at hl hn ⊢
      have hl1 : l = P ++ b :: (r.flatMap escB ++ 34 :: S) := by rw [hl]; simp
      have hl3 : l = (P ++ [b]) ++ (r.flatMap escB ++ 34 :: S) := by rw [hl]; simp
      have hil : i < l.length := by rw [hl1, hi]; simp
      have hg : l.getD i 0 = b := by rw [hl1]; exact getD_at P _ b i hi
      simp only [List.length_cons, List.length_nil] at hn
      have IH := quotedGo_put S r (P ++ [b]) n (i + 1) (out ++ [b]) l hl3 (by rw [hi]; simp) (by omega)
      rw [quotedGo, if_pos hil, hg, if_neg (fun h => hb (.inl h)), if_neg (fun h => hb (.inr h)), IH, List.append_assoc, List.singleton_append, show i + 1 + (r.flatMap escB).length + 1 = i + ([b] ++ r.flatMap escB).length + 1 by simp; omega]

/-- What is quoted reads back, wherever it stands. -/
theorem quoted_put (P S l : List UInt8) (h4 : l.length ≤ 400) (hp : plainAll l = true) : quotedAt (P ++ quoteL l ++ S) P.length = some (l, P.length + (quoteL l).length) := by
  unfold quotedAt quoteL
  have hl : P ++ (34 :: l.flatMap escB ++ [34]) ++ S = (P ++ [34]) ++ (l.flatMap escB ++ 34 :: S) := by simp
  rw [hl, quotedGo_put S l (P ++ [34]) _ (P.length + 1) [] _ rfl (by simp) (by simp; omega), List.nil_append, if_neg (by rw [hp]; simp; omega)]
  simp
  omega
end Go.Proofs.YtconopkmiicjeaaDoor
