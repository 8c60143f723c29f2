/-
  Trim: plain facts.
-/
import Derived.Test.YtplaomiegkaaiaaDoorRows
import Derived.WalkKit
import Derived.WalkSpells
import Derived.Lib.Hide
import Derived.Lib.SlTrimSet
namespace Go.Proofs.YtplaomiegkaaiaaDoor
set_option linter.unusedVariables false
open Go.RowKit

theorem dw_fix (p : UInt8 → Bool) (l : List UInt8) (h : ∀ b, l.head? = some b → p b = false) : l.dropWhile p = l := by
  cases l with
  | nil => rfl
  | cons a l => rw [List.dropWhile_cons, h a rfl]; rfl
theorem dw_head (p : UInt8 → Bool) : ∀ (l : List UInt8) (b : UInt8), (l.dropWhile p).head? = some b → p b = false := by
  intro l
  induction l with
  | nil => intro b h; cases h
  | cons a l ih =>
    intro b h
    rw [List.dropWhile_cons] at h
    cases hp : p a
    · rw [hp] at h
      injection h with h
      subst h; exact hp
    · rw [hp] at h
      exact ih b h
theorem trim_twice (l cs : List UInt8) : Lib.trimS (Lib.trimS l cs) cs = Lib.trimS l cs := by
  unfold Lib.trimS
  generalize hy : Lib.trimRightS l cs = y
  have h1 : Lib.trimRightS (Lib.trimLeftS y cs) cs = Lib.trimLeftS y cs := by
    unfold Lib.trimRightS
    rw [dw_fix, List.reverse_reverse]
    intro b hb
    obtain ⟨t, ht⟩ := List.dropWhile_suffix (l := y) (cs.contains ·)
    have h2 : y.reverse.head? = some b := by
      rw [← ht, List.reverse_append]
      unfold Lib.trimLeftS at hb
      rw [List.head?_append, hb]; rfl
    rw [← hy] at h2
    unfold Lib.trimRightS at h2
    rw [List.reverse_reverse] at h2
    exact dw_head _ _ b h2
  rw [h1]
  unfold Lib.trimLeftS
  exact dw_fix _ _ (dw_head _ y)
theorem dw_out (p : UInt8 → Bool) (l : List UInt8) (a c : UInt8) (ha : p a = true) (hc : p c = true) : (([a] ++ l ++ [c]).reverse.dropWhile p).reverse.dropWhile p = (l.reverse.dropWhile p).reverse.dropWhile p := by
  have e : ([a] ++ l ++ [c]).reverse = c :: (l.reverse ++ [a]) := by simp
  rw [e, List.dropWhile_cons, if_pos hc, List.dropWhile_append]
  cases hd : l.reverse.dropWhile p with
  | nil => simp [ha]
  | cons x xs => simp [ha]
theorem trim_out (l cs : List UInt8) (a c : UInt8) (ha : cs.contains a = true) (hc : cs.contains c = true) : Lib.trimS ([a] ++ l ++ [c]) cs = Lib.trimS l cs :=
  dw_out (cs.contains ·) l a c ha hc
end Go.Proofs.YtplaomiegkaaiaaDoor
