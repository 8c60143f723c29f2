/-
  Addresses: plain (Unquote, Commas).
-/
import Derived.Test.YtplaomiegkaaiaaDoorFlP
import Derived.Test.YtplaomiegkaaiaaDoorTrimP
import Derived.Test.YtplaomiegkaaiaaDoorWdO
namespace Go.Proofs.YtplaomiegkaaiaaDoor
set_option linter.unusedVariables false
open Go.RowKit

/-- Backslashes struck, but the last one. -/
def unesc : List UInt8 → List UInt8
  | [] => []
  | [b] => [b]
  | b :: c :: r => if b = 92 then c :: unesc r else b :: unesc (c :: r)
/-- .. where the byte ahead was (e) a backslash that counts. -/
def unescA (e : Bool) (l : List UInt8) : List UInt8 :=
  if e then (match l with | [] => [] | c :: r => c :: unesc r) else unesc l
theorem unesc_cons (b : UInt8) (r : List UInt8) (h : b ≠ 92) : unesc (b :: r) = b :: unesc r := by
  cases r with
  | nil => simp [unesc]
  | cons c r => rw [unesc, if_neg h]
theorem unesc_len : ∀ (n : Nat) (l : List UInt8), l.length ≤ n → (unesc l).length ≤ l.length
  | _, [], _ => by simp [unesc]
  | _, [b], _ => by simp [unesc]
  | 0, b :: c :: r, h => by simp at h
  | n + 1, b :: c :: r, h => by
    rw [unesc]
    simp at h
    split
    · have := unesc_len n r (by omega)
      simp; omega
    · have := unesc_len n (c :: r) (by simp; omega)
      simp at this ⊢; omega
/-- It stands between two quotes. -/
def quotedL (t : List UInt8) : Bool := decide (2 ≤ t.length) && (t.getD 0 0 == 34) && (t.getD (t.length - 1) 0 == 34)
def unqT (t : List UInt8) : List UInt8 := if quotedL t then unesc ((t.drop 1).take (t.length - 2)) else t
def unqL (l : List UInt8) : List UInt8 := unqT (Lib.trimS l [32, 9])
theorem trimR_len (l cs : List UInt8) : (Lib.trimRightS l cs).length ≤ l.length := by
  unfold Lib.trimRightS
  rw [List.length_reverse]
  exact Nat.le_trans (List.dropWhile_suffix _).length_le (by rw [List.length_reverse]; exact Nat.le_refl _)
theorem trimLen (l cs : List UInt8) : (Lib.trimS l cs).length ≤ l.length := by
  unfold Lib.trimS Lib.trimLeftS
  exact Nat.le_trans (List.dropWhile_suffix _).length_le (trimR_len l cs)
theorem unqL_len (l : List UInt8) : (unqL l).length ≤ l.length := by
  unfold unqL unqT
  have := trimLen l [32, 9]
  split
  · have h := unesc_len _ (((Lib.trimS l [32, 9]).drop 1).take ((Lib.trimS l [32, 9]).length - 2)) (Nat.le_refl _)
    rw [List.length_take, List.length_drop] at h
    omega
  · exact this

theorem unesc_escs : ∀ (s : List UInt8), unesc (s.flatMap escB) = s
  | [] => rfl
  | b :: r => by
    rw [List.flatMap_cons]
    unfold escB
    split
    · have := unesc_escs r
      rw [List.cons_append, List.cons_append, unesc, if_pos rfl, List.nil_append]
      unfold escB at this
      rw [this]
    · rename_i h
      rw [List.cons_append, List.nil_append, unesc_cons b _ (fun h2 => h (.inr h2))]
      have := unesc_escs r
      unfold escB at this
      rw [this]
theorem quote_split (s : List UInt8) : quoteL s = 34 :: s.flatMap escB ++ [34] := rfl
theorem trim_fix (l : List UInt8) (h1 : ∀ b, l.head? = some b → blankB b = false) (h2 : ∀ b, l.getLast? = some b → blankB b = false) : Lib.trimS l [32, 9] = l := by
  have e : Lib.trimRightS l [32, 9] = l := by
    unfold Lib.trimRightS
    rw [dw_fix _ _ (fun b hb => ?_), List.reverse_reverse]
    rw [List.head?_reverse] at hb
    exact h2 b hb
  unfold Lib.trimS
  rw [e]
  exact dw_fix _ _ h1
theorem trim_quote (s : List UInt8) : Lib.trimS (quoteL s) [32, 9] = quoteL s :=
  trim_fix _ (fun b hb => by
    have : b = 34 := (Option.some.inj (by simpa [quoteL] using hb)).symm
    subst this; rfl) (fun b hb => by
    have : b = 34 := by
      unfold quoteL at hb
      rw [List.getLast?_append] at hb
      exact (Option.some.inj (by simpa using hb)).symm
    subst this; rfl)
theorem unqL_quote (s : List UInt8) : unqL (quoteL s) = s := by
  unfold unqL
  rw [trim_quote]
  have hl : (quoteL s).length = (s.flatMap escB).length + 2 := by simp [quoteL]
  have hq : quotedL (quoteL s) = true := by
    unfold quotedL
    rw [hl]
    have e1 : (quoteL s).getD 0 0 = 34 := rfl
    have e2 : (quoteL s).getD ((s.flatMap escB).length + 2 - 1) 0 = 34 := by
      rw [List.getD_eq_getElem?_getD]
      unfold quoteL
      rw [show (s.flatMap escB).length + 2 - 1 = (34 :: s.flatMap escB).length by simp, List.getElem?_append_right (Nat.le_refl _)]
      simp
    rw [e1, e2]
    simp
  unfold unqT
  rw [if_pos hq, hl]
  have e3 : ((quoteL s).drop 1).take ((s.flatMap escB).length + 2 - 2) = s.flatMap escB := by
    unfold quoteL
    rw [List.cons_append, List.drop_one, List.tail_cons, show (s.flatMap escB).length + 2 - 2 = (s.flatMap escB).length by omega, List.take_left]
  rw [e3, unesc_escs]

/-- Within quotes behind byte b. -/
def nextQ (q e : Bool) (b : UInt8) : Bool := if b = 34 ∧ e = false then !q else q
/-- A backslash that counts. -/
def nextE (e : Bool) (b : UInt8) : Bool := (b == 92) && !e
/-- The stretches between commas, the first one begun. -/
def comR (q e : Bool) (cur : List UInt8) : List UInt8 → List (List UInt8)
  | [] => [cur]
  | b :: r => if b = 44 ∧ nextQ q e b = false then cur :: comR (nextQ q e b) (nextE e b) [] r else comR (nextQ q e b) (nextE e b) (cur ++ [b]) r
def keepT (l : List (List UInt8)) : List (List UInt8) := (l.map (fun x => Lib.trimS x [32, 9])).filter fun x => !x.isEmpty
def comL (s : List UInt8) : List (List UInt8) := keepT (comR false false [] s)
/-- .. of a text from index i on, its stretch from index j on. -/
def comAt (l : List UInt8) (q e : Bool) (j i : Nat) : List (List UInt8) := comR q e ((l.drop j).take (i - j)) (l.drop i)
theorem comAt_zero (l : List UInt8) : keepT (comAt l false false 0 0) = comL l := by simp [comAt, comL]
theorem comAt_end (l : List UInt8) (q e : Bool) (j : Nat) : comAt l q e j l.length = [l.drop j] := by
  unfold comAt
  rw [List.drop_length, comR, List.take_of_length_le (by simp)]
theorem comAt_sep (l : List UInt8) (q e : Bool) (j i : Nat) (b : UInt8) (hi : l[i]? = some b) (h : b = 44 ∧ nextQ q e b = false) :
    comAt l q e j i = (l.drop j).take (i - j) :: comAt l (nextQ q e b) (nextE e b) (i + 1) (i + 1) := by
  have hlt : i < l.length := (List.getElem?_eq_some_iff.1 hi).1
  unfold comAt
  rw [List.drop_eq_getElem_cons hlt]
  rw [List.getElem?_eq_getElem hlt] at hi
  rw [Option.some.inj hi, comR, if_pos h]
  simp
theorem comAt_next (l : List UInt8) (q e : Bool) (j i : Nat) (b : UInt8) (hji : j ≤ i) (hi : l[i]? = some b) (h : ¬ (b = 44 ∧ nextQ q e b = false)) :
    comAt l q e j i = comAt l (nextQ q e b) (nextE e b) j (i + 1) := by
  have hlt : i < l.length := (List.getElem?_eq_some_iff.1 hi).1
  unfold comAt
  rw [List.drop_eq_getElem_cons hlt]
  have e3 : (l.drop j).take (i + 1 - j) = (l.drop j).take (i - j) ++ [b] := by
    rw [show i + 1 - j = i - j + 1 by omega, List.take_add_one, List.getElem?_drop, show j + (i - j) = i by omega, hi]
    rfl
  rw [List.getElem?_eq_getElem hlt] at hi
  rw [Option.some.inj hi, comR, if_neg h, e3]
theorem keepT_cons (x : List UInt8) (r : List (List UInt8)) : keepT (x :: r) = (if Lib.trimS x [32, 9] = [] then [] else [Lib.trimS x [32, 9]]) ++ keepT r := by
  unfold keepT
  rw [List.map_cons, List.filter_cons]
  cases h : Lib.trimS x [32, 9] with
  | nil => simp
  | cons a t => simp
theorem keepT_nil : keepT [] = [] := rfl

/-- Parts are no more than the text. -/
theorem comR_total : ∀ (l : List UInt8) (q e : Bool) (cur : List UInt8), total (comR q e cur l) ≤ cur.length + l.length ∧ (comR q e cur l).length ≤ l.length + 1
  | [], q, e, cur => by simp [comR, total]
  | b :: r, q, e, cur => by
    rw [comR]
    split
    · have := comR_total r (nextQ q e b) (nextE e b) []
      rw [total_cons]
      simp at this ⊢
      omega
    · have := comR_total r (nextQ q e b) (nextE e b) (cur ++ [b])
      simp at this ⊢
      omega
theorem keepT_total : ∀ (l : List (List UInt8)), total (keepT l) ≤ total l ∧ (keepT l).length ≤ l.length
  | [] => by simp [keepT, total]
  | x :: r => by
    have := keepT_total r
    have h := trimLen x [32, 9]
    rw [keepT_cons, total_append, total_cons]
    split
    · simp [total] at this ⊢
      omega
    · simp [total] at this ⊢
      omega
theorem comL_total (l : List UInt8) : total (comL l) ≤ l.length ∧ (comL l).length ≤ l.length + 1 := by
  have h1 := comR_total l false false []
  have h2 := keepT_total (comR false false [] l)
  unfold comL
  simp at h1
  omega

/-- Each part is trimmed, isn't empty, and stands in the text. -/
theorem comR_infix : ∀ (l : List UInt8) (q e : Bool) (cur x : List UInt8), x ∈ comR q e cur l → ∃ a b, cur ++ l = a ++ x ++ b
  | [], q, e, cur, x, h => by
    simp [comR] at h
    exact ⟨[], [], by simp [h]⟩
  | b :: r, q, e, cur, x, h => by
    rw [comR] at h
    split at h
    · rcases List.mem_cons.1 h with rfl | h
      · exact ⟨[], b :: r, by simp⟩
      · obtain ⟨a, c, hx⟩ := comR_infix r _ _ [] x h
        rw [List.nil_append] at hx
        exact ⟨cur ++ b :: a, c, by rw [hx]; simp⟩
    · obtain ⟨a, c, hx⟩ := comR_infix r _ _ _ x h
      exact ⟨a, c, by rw [← hx]; simp⟩
theorem trim_infix (l : List UInt8) : ∃ a b, l = a ++ Lib.trimS l [32, 9] ++ b := by
  unfold Lib.trimS Lib.trimLeftS Lib.trimRightS
  obtain ⟨b, hb⟩ := List.dropWhile_suffix (l := l.reverse) (([32, 9] : List UInt8).contains ·)
  have e1 : l = (l.reverse.dropWhile (([32, 9] : List UInt8).contains ·)).reverse ++ b.reverse := by
    rw [← List.reverse_append, hb, List.reverse_reverse]
  obtain ⟨a, ha⟩ := List.dropWhile_suffix (l := (l.reverse.dropWhile (([32, 9] : List UInt8).contains ·)).reverse) (([32, 9] : List UInt8).contains ·)
  exact ⟨a, b.reverse, by rw [ha]; exact e1⟩
theorem comL_mem {l x : List UInt8} (h : x ∈ comL l) : x ≠ [] ∧ Lib.trimS x [32, 9] = x ∧ ∃ a b, l = a ++ x ++ b := by
  unfold comL keepT at h
  rw [List.mem_filter, List.mem_map] at h
  obtain ⟨⟨y, hy, rfl⟩, hne⟩ := h
  refine ⟨fun h => by simp [h] at hne, trim_twice _ _, ?_⟩
  obtain ⟨a, b, h1⟩ := comR_infix _ _ _ _ _ hy
  obtain ⟨c, d, h2⟩ := trim_infix y
  rw [List.nil_append] at h1
  exact ⟨a ++ c, d ++ b, by rw [h1]; conv => lhs; rw [h2]
                            simp⟩

/-- A blank ahead makes no difference. -/
theorem trim_blank (x : List UInt8) : Lib.trimS (32 :: x) [32, 9] = Lib.trimS x [32, 9] := by
  unfold Lib.trimS Lib.trimLeftS Lib.trimRightS
  rw [List.reverse_cons, List.dropWhile_append]
  cases hd : x.reverse.dropWhile (([32, 9] : List UInt8).contains ·) with
  | nil => rfl
  | cons a t =>
    simp only [List.isEmpty_cons, Bool.false_eq_true, if_false]
    rw [List.reverse_append, List.reverse_singleton, List.singleton_append, List.dropWhile_cons]
    rfl
theorem keepT_blank : ∀ (l : List UInt8) (q e : Bool) (cur : List UInt8), keepT (comR q e (32 :: cur) l) = keepT (comR q e cur l)
  | [], q, e, cur => by rw [comR, comR, keepT_cons, keepT_cons, trim_blank]
  | b :: r, q, e, cur => by
    rw [comR, comR]
    split
    · rw [keepT_cons, keepT_cons, trim_blank]
    · rw [List.cons_append, keepT_blank r]

/-- Behind quotes, whatever stands in them, a comma separates. -/
theorem comR_escs : ∀ (s cur r : List UInt8), comR true false cur (s.flatMap escB ++ r) = comR true false (cur ++ s.flatMap escB) r
  | [], cur, r => by simp
  | b :: s, cur, r => by
    rw [List.flatMap_cons]
    unfold escB
    split
    · rename_i h
      rw [List.append_assoc, List.cons_append, List.cons_append, List.nil_append, comR, if_neg (by simp)]
      have e1 : nextQ true false 92 = true := rfl
      have e2 : nextE false 92 = true := rfl
      rw [e1, e2, comR]
      have e3 : nextQ true true b = true := by unfold nextQ; rw [if_neg (by simp)]
      have e4 : nextE true b = false := by unfold nextE; simp
      rw [e3, e4, if_neg (by simp)]
      have := comR_escs s (cur ++ [92] ++ [b]) r
      unfold escB at this
      rw [this]
      simp
    · rename_i h
      have h1 : b ≠ 34 := fun h2 => h (.inl h2)
      have h2 : b ≠ 92 := fun h2 => h (.inr h2)
      rw [List.append_assoc, List.cons_append, List.nil_append, comR]
      have e3 : nextQ true false b = true := by unfold nextQ; rw [if_neg (by simp [h1])]
      have e4 : nextE false b = false := by unfold nextE; simp [h2]
      rw [e3, e4, if_neg (by simp)]
      have := comR_escs s (cur ++ [b]) r
      unfold escB at this
      rw [this]
      simp
theorem comL_quote (s : List UInt8) : comL (quoteL s ++ [44]) = [quoteL s] := by
  unfold comL
  have e : comR false false [] (quoteL s ++ [44]) = [quoteL s, []] := by
    rw [quote_split, List.append_assoc, List.cons_append, comR, if_neg (by simp)]
    have e1 : nextQ false false 34 = true := rfl
    have e2 : nextE false 34 = false := rfl
    rw [e1, e2, comR_escs, List.singleton_append, comR, if_neg (by simp)]
    have e3 : nextQ true false 34 = false := rfl
    rw [e3, e2, comR, if_pos ⟨rfl, rfl⟩, comR]
    simp
  rw [e, keepT_cons, keepT_cons, keepT_nil, trim_quote, if_neg (by simp [quoteL])]
  rfl
end Go.Proofs.YtplaomiegkaaiaaDoor
