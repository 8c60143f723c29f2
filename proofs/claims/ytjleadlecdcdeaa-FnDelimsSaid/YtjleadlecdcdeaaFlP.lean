/-
  Header fields: plain.
-/
import Derived.Test.YtjleadlecdcdeaaTrimS
import Derived.Test.YtjleadlecdcdeaaFindP
namespace Go.Proofs.Ytjleadlecdcdeaa
set_option linter.unusedVariables false
open Go.RowKit

/-- The lines of a text; what stands of the first one is in acc. -/
def linesA : List UInt8 → List UInt8 → List (List UInt8)
  | acc, [] => if acc = [] then [] else [acc]
  | acc, [b] => [acc ++ [b]]
  | acc, b :: c :: r => if b = 13 ∧ c = 10 then acc :: linesA [] r else linesA (acc ++ [b]) (c :: r)
termination_by _ l => l.length

def mkB (l : List UInt8) : ByteArray := ⟨l.toArray⟩
theorem mkB_list (l : List UInt8) : (mkB l).data.toList = l := rfl
theorem mkB_size (l : List UInt8) : (mkB l).size = l.length := by simp [mkB, ByteArray.size]
theorem mkB_extract (s : ByteArray) (a b : Nat) : s.extract a b = mkB ((s.data.toList.drop a).take (b - a)) := Lib.extract_eq s a b

/-- .. of a text from index i on, its line from index j on. -/
def linesAt (l : List UInt8) (j i : Nat) : List (List UInt8) := linesA ((l.drop j).take (i - j)) (l.drop i)
theorem linesAt_zero (l : List UInt8) : linesAt l 0 0 = linesA [] l := by simp [linesAt]
theorem linesAt_mark (l : List UInt8) (j i : Nat) (h0 : i + 1 < l.length) (hb : l[i]? = some 13) (hc : l[i + 1]? = some 10) :
    linesAt l j i = (l.drop j).take (i - j) :: linesAt l (i + 2) (i + 2) := by
  have e : l.drop i = 13 :: 10 :: l.drop (i + 2) := by
    rw [List.drop_eq_getElem_cons (by omega : i < l.length), List.drop_eq_getElem_cons (by omega : i + 1 < l.length)]
    rw [List.getElem?_eq_getElem (by omega)] at hb hc
    rw [Option.some.inj hb, Option.some.inj hc]
  unfold linesAt
  rw [e, linesA, if_pos ⟨rfl, rfl⟩]
  simp
theorem linesAt_next (l : List UInt8) (j i : Nat) (hji : j ≤ i) (h0 : i + 1 < l.length) (h : ¬ (l[i]? = some 13 ∧ l[i + 1]? = some 10)) : linesAt l j i = linesAt l j (i + 1) := by
  have e : l.drop i = l[i] :: l[i + 1] :: l.drop (i + 2) := by
    rw [List.drop_eq_getElem_cons (by omega : i < l.length), List.drop_eq_getElem_cons (by omega : i + 1 < l.length)]
  have e2 : l.drop (i + 1) = l[i + 1] :: l.drop (i + 2) := by rw [List.drop_eq_getElem_cons (by omega : i + 1 < l.length)]
  have hn : ¬ (l[i] = 13 ∧ l[i + 1] = 10) := by
    rw [List.getElem?_eq_getElem (by omega), List.getElem?_eq_getElem (by omega)] at h
    intro ⟨a, b⟩
    exact h ⟨by rw [a], by rw [b]⟩
  have e3 : (l.drop j).take (i + 1 - j) = (l.drop j).take (i - j) ++ [l[i]] := by
    rw [show i + 1 - j = i - j + 1 by omega, List.take_add_one, List.getElem?_drop, show j + (i - j) = i by omega, List.getElem?_eq_getElem (by omega)]
    rfl
  unfold linesAt
  rw [e, linesA, if_neg hn, e3, e2]
theorem linesAt_end (l : List UInt8) (j i : Nat) (hji : j ≤ i) (hi : i ≤ l.length) (h0 : l.length ≤ i + 1) : linesAt l j i = if j < l.length then [l.drop j] else [] := by
  unfold linesAt
  by_cases h1 : i = l.length
  · subst h1
    rw [List.drop_length, linesA]
    by_cases h2 : j < l.length
    · rw [if_pos h2, if_neg, List.take_of_length_le (by simp)]
      intro h3
      have := congrArg List.length h3
      simp at this
      omega
    · rw [if_neg h2, if_pos]
      rw [show l.length - j = 0 by omega, List.take_zero]
  · have e : l.drop i = [l[i]'(by omega)] := by
      rw [List.drop_eq_getElem_cons (by omega : i < l.length), List.drop_eq_nil_of_le (by omega)]
    rw [e, linesA, if_pos (by omega : j < l.length)]
    have e3 : (l.drop j).take (i + 1 - j) = (l.drop j).take (i - j) ++ [l[i]'(by omega)] := by
      rw [show i + 1 - j = i - j + 1 by omega, List.take_add_one, List.getElem?_drop, show j + (i - j) = i by omega, List.getElem?_eq_getElem (by omega)]
      rfl
    rw [← e3, List.take_of_length_le (by simp; omega)]

/-- The line begins with a blank. -/
def blankHead (l : List UInt8) : Bool := match l with | [] => false | b :: _ => blankB b
/-- A line more: it goes on, or begins. -/
def addLine (texts : List (List UInt8)) (l : List UInt8) : List (List UInt8) :=
  if blankHead l && decide (0 < texts.length) then texts.set (texts.length - 1) (texts.getD (texts.length - 1) [] ++ l) else texts ++ [l]
def joinT : List (List UInt8) → List (List UInt8) → List (List UInt8)
  | texts, [] => texts
  | texts, l :: r => joinT (addLine texts l) r

/-- A byte of a field's name. -/
def nameB (b : UInt8) : Bool := decide (33 ≤ b.toNat) && decide (b.toNat ≤ 126)
structure Fl where
  name : List UInt8
  body : List UInt8
/-- The field that a text is. -/
def fieldOf (t : List UInt8) : Option Fl :=
  if Lib.index t [58] < 1 then none
  else if (t.take (Lib.index t [58]).toNat).all nameB then some ⟨t.take (Lib.index t [58]).toNat, Lib.trimS (t.drop ((Lib.index t [58]).toNat + 1)) [32, 9]⟩
  else none
def fieldsL (s : List UInt8) : List Fl := (joinT [] (linesA [] s)).filterMap fieldOf

def flCells (l : List Fl) : List Value := l.flatMap fun x => [.string (mkB x.name), .string (mkB x.body)]
theorem flCells_len (l : List Fl) : (flCells l).length = l.length * 2 := by
  induction l with
  | nil => rfl
  | cons a r ih => simp [flCells] at ih ⊢; omega
theorem flCells_append (a b : List Fl) : flCells (a ++ b) = flCells a ++ flCells b := by simp [flCells]
theorem flCells_one (l : List Fl) : ∀ u ∈ flCells l, u.oneCell' = true := by
  intro u hu
  obtain ⟨x, hx, hy⟩ := List.mem_flatMap.1 hu
  simp only [List.mem_cons, List.not_mem_nil, or_false] at hy
  rcases hy with rfl | rfl <;> rfl

/-- How long all is together. -/
def total (l : List (List UInt8)) : Nat := (l.map List.length).foldr (· + ·) 0
theorem total_cons (a : List UInt8) (l : List (List UInt8)) : total (a :: l) = a.length + total l := rfl
theorem total_append (a b : List (List UInt8)) : total (a ++ b) = total a + total b := by
  induction a with
  | nil => simp [total]
  | cons x r ih => rw [List.cons_append, total_cons, total_cons, ih]; omega
theorem total_mem {l : List (List UInt8)} {x : List UInt8} (h : x ∈ l) : x.length ≤ total l := by
  induction l with
  | nil => cases h
  | cons a r ih =>
    rw [total_cons]
    rcases List.mem_cons.1 h with rfl | h
    · omega
    · have := ih h; omega
theorem total_set : ∀ (l : List (List UInt8)) (i : Nat) (x : List UInt8), i < l.length → total (l.set i (l.getD i [] ++ x)) = total l + x.length
  | [], _, _, h => by simp at h
  | a :: r, 0, x, _ => by simp [total_cons]; omega
  | a :: r, i + 1, x, h => by
    have := total_set r i x (by simpa using h)
    simp only [List.set_cons_succ, List.getD_cons_succ, total_cons, this]
    omega
theorem total_addLine (t : List (List UInt8)) (l : List UInt8) : total (addLine t l) = total t + l.length := by
  unfold addLine
  split
  · rename_i h
    have h2 : 0 < t.length := by
      simp at h
      exact h.2
    exact total_set t _ l (by omega)
  · rw [total_append, total_cons]
    simp [total]
theorem addLine_len (t : List (List UInt8)) (l : List UInt8) : (addLine t l).length ≤ t.length + 1 := by
  unfold addLine
  split <;> simp
theorem total_lines : ∀ (n : Nat) (acc l : List UInt8), l.length ≤ n → total (linesA acc l) ≤ acc.length + l.length ∧ (linesA acc l).length ≤ l.length + 1
  | n, acc, [], _ => by
    rw [linesA]
    split <;> simp [total]
  | n, acc, [b], _ => by
    rw [linesA]
    simp [total]
  | 0, acc, b :: c :: r, h => by simp at h
  | n + 1, acc, b :: c :: r, h => by
    rw [linesA]
    simp at h
    split
    · have := total_lines n [] r (by omega)
      rw [total_cons]
      simp at this ⊢
      omega
    · have := total_lines n (acc ++ [b]) (c :: r) (by simp; omega)
      simp at this ⊢
      omega
end Go.Proofs.Ytjleadlecdcdeaa
