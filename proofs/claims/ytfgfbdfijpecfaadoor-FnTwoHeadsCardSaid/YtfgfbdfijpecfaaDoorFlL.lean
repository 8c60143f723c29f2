/-
  Header fields: what is written comes back; heads one behind the other; plain.
-/
import Derived.Test.YtfgfbdfijpecfaaDoorFlB
import Derived.Test.YtfgfbdfijpecfaaDoorTrimP
namespace Go.Proofs.YtfgfbdfijpecfaaDoor
set_option linter.unusedVariables false
open Go.RowKit

/-- No line end stands in it. -/
def noMark (l : List UInt8) : Prop := ∀ i : Nat, ¬ (l[i]? = some 13 ∧ l[i + 1]? = some 10)
theorem noMark_nil : noMark [] := fun i h => by simp at h
theorem noMark_append {a b : List UInt8} (ha : noMark a) (hb : noMark b) (h : ¬ (a.getLast? = some 13 ∧ b.head? = some 10)) : noMark (a ++ b) := by
  intro i ⟨h1, h2⟩
  rcases Nat.lt_or_ge (i + 1) a.length with h3 | h3
  · rw [List.getElem?_append_left (by omega)] at h1
    rw [List.getElem?_append_left h3] at h2
    exact ha i ⟨h1, h2⟩
  · rcases Nat.lt_or_ge i a.length with h4 | h4
    · rw [List.getElem?_append_left h4] at h1
      rw [List.getElem?_append_right h3, show i + 1 - a.length = 0 by omega] at h2
      refine h ⟨?_, ?_⟩
      · rw [List.getLast?_eq_getElem?, show a.length - 1 = i by omega]
        exact h1
      · rw [List.head?_eq_getElem?]
        exact h2
    · rw [List.getElem?_append_right h4] at h1
      rw [List.getElem?_append_right h3, show i + 1 - a.length = i - a.length + 1 by omega] at h2
      exact hb _ ⟨h1, h2⟩
theorem noMark_infix {a l : List UInt8} (h : a <:+: l) (hl : noMark l) : noMark a := by
  obtain ⟨x, y, rfl⟩ := h
  intro i ⟨h1, h2⟩
  have b1 : i + 1 < a.length := (List.getElem?_eq_some_iff.1 h2).1
  refine hl (x.length + i) ⟨?_, ?_⟩
  · rw [List.append_assoc, List.getElem?_append_right (by omega), show x.length + i - x.length = i by omega, List.getElem?_append_left (by omega)]
    exact h1
  · rw [List.append_assoc, List.getElem?_append_right (by omega), show x.length + i + 1 - x.length = i + 1 by omega, List.getElem?_append_left (by omega)]
    exact h2
theorem noMark_one (b : UInt8) : noMark [b] := fun i ⟨h1, h2⟩ => by
  have := (List.getElem?_eq_some_iff.1 h2).1
  simp at this
theorem noMark_two {b c : UInt8} {r : List UInt8} (h : noMark (b :: c :: r)) : ¬ (b = 13 ∧ c = 10) := fun ⟨h1, h2⟩ => h 0 ⟨by simp [h1], by simp [h2]⟩
theorem noMark_tail {b : UInt8} {r : List UInt8} (h : noMark (b :: r)) : noMark r := fun i ⟨h1, h2⟩ => h (i + 1) ⟨by simpa using h1, by simpa using h2⟩

/-- A line without a line end in it, and its end. -/
theorem linesA_line : ∀ (x acc r : List UInt8), noMark x → linesA acc (x ++ 13 :: 10 :: r) = (acc ++ x) :: linesA [] r
  | [], acc, r, _ => by rw [List.nil_append, linesA, if_pos ⟨rfl, rfl⟩, List.append_nil]
  | [b], acc, r, h => by
    rw [List.cons_append, List.nil_append, linesA, if_neg (by rintro ⟨_, h2⟩; cases h2), linesA, if_pos ⟨rfl, rfl⟩]
  | b :: c :: x, acc, r, h => by
    have ih := linesA_line (c :: x) (acc ++ [b]) r (noMark_tail h)
    rw [List.cons_append, List.cons_append, linesA, if_neg (noMark_two h)]
    rw [List.cons_append] at ih
    rw [ih, List.append_assoc]
    rfl
/-- In no line stands a line end. -/
theorem linesA_noMark : ∀ (n : Nat) (acc l : List UInt8), l.length ≤ n → noMark acc → ¬ (acc.getLast? = some 13 ∧ l.head? = some 10) → ∀ x ∈ linesA acc l, noMark x
  | n, acc, [], _, ha, _ => by
    rw [linesA]
    split
    · simp
    · intro x hx
      rw [List.mem_singleton.1 hx]
      exact ha
  | n, acc, [b], _, ha, hb => by
    rw [linesA]
    intro x hx
    rw [List.mem_singleton.1 hx]
    exact noMark_append ha (noMark_one b) hb
  | 0, acc, b :: c :: r, h, _, _ => by simp at h
  | n + 1, acc, b :: c :: r, h, ha, hb => by
    rw [linesA]
    simp at h
    split
    · intro x hx
      rcases List.mem_cons.1 hx with rfl | hx
      · exact ha
      · exact linesA_noMark n [] r (by omega) noMark_nil (by simp) x hx
    · rename_i hn
      refine linesA_noMark n (acc ++ [b]) (c :: r) (by simp; omega) (noMark_append ha (noMark_one b) hb) ?_
      intro ⟨h1, h2⟩
      simp at h1 h2
      exact hn ⟨h1, h2⟩
theorem blank_ne_ten {l : List UInt8} (h : blankHead l = true) : l.head? ≠ some 10 := by
  cases l with
  | nil => simp
  | cons b r =>
    intro h2
    have h3 : b = 10 := by simpa using h2
    subst h3
    change blankB 10 = true at h
    revert h
    decide
theorem addLine_noMark {t : List (List UInt8)} {l : List UInt8} (ht : ∀ x ∈ t, noMark x) (hl : noMark l) : ∀ x ∈ addLine t l, noMark x := by
  unfold addLine
  split
  · rename_i h
    intro x hx
    rw [Bool.and_eq_true] at h
    rcases List.mem_or_eq_of_mem_set hx with hx | rfl
    · exact ht x hx
    · refine noMark_append ?_ hl (fun ⟨_, h2⟩ => blank_ne_ten h.1 h2)
      have hp : 0 < t.length := by simpa using h.2
      rw [List.getD_eq_getElem?_getD, List.getElem?_eq_getElem (by omega)]
      exact ht _ (List.getElem_mem _)
  · intro x hx
    rcases List.mem_append.1 hx with hx | hx
    · exact ht x hx
    · rw [List.mem_singleton.1 hx]; exact hl
theorem joinT_noMark : ∀ (ls t : List (List UInt8)), (∀ x ∈ t, noMark x) → (∀ x ∈ ls, noMark x) → ∀ x ∈ joinT t ls, noMark x
  | [], t, ht, _ => by rw [joinT]; exact ht
  | l :: r, t, ht, hl => by
    rw [joinT]
    exact joinT_noMark r _ (addLine_noMark ht (hl l List.mem_cons_self)) (fun x hx => hl x (List.mem_cons_of_mem _ hx))

theorem trimS_infix (l cs : List UInt8) : Lib.trimS l cs <:+: l := by
  unfold Lib.trimS Lib.trimLeftS Lib.trimRightS
  have h1 := List.dropWhile_suffix (l := (List.dropWhile (cs.contains ·) l.reverse).reverse) (cs.contains ·)
  have h2 := List.dropWhile_suffix (l := l.reverse) (cs.contains ·)
  have h3 : (List.dropWhile (cs.contains ·) l.reverse).reverse <+: l := by
    have := List.reverse_prefix.2 h2
    rwa [List.reverse_reverse] at this
  exact h1.isInfix.trans h3.isInfix
theorem dw_left (p : UInt8 → Bool) (l : List UInt8) (a : UInt8) (ha : p a = true) : ((a :: l).reverse.dropWhile p).reverse.dropWhile p = (l.reverse.dropWhile p).reverse.dropWhile p := by
  rw [List.reverse_cons, List.dropWhile_append]
  cases hd : l.reverse.dropWhile p with
  | nil => simp [ha]
  | cons x xs => simp [ha]
theorem trimS_left (l cs : List UInt8) (a : UInt8) (ha : cs.contains a = true) : Lib.trimS (a :: l) cs = Lib.trimS l cs := dw_left (cs.contains ·) l a ha

/-- A field as it is told. -/
structure Good (f : Fl) : Prop where
  some : f.name ≠ []
  signs : f.name.all nameB = true
  colon : ∀ b ∈ f.name, b ≠ 58
  trimmed : Lib.trimS f.body [32, 9] = f.body
  line : noMark f.body
theorem occ_one (l : List UInt8) (b : UInt8) (j : Nat) : Lib.occAt l [b] j = true ↔ l[j]? = some b := by
  unfold Lib.occAt
  rw [List.isPrefixOf_iff_prefix]
  rcases Nat.lt_or_ge j l.length with h | h
  · rw [List.drop_eq_getElem_cons h, List.getElem?_eq_getElem h]
    constructor
    · rintro ⟨t, ht⟩
      rw [(List.cons.inj (show b :: t = l[j] :: l.drop (j + 1) from ht)).1]
    · intro h2
      exact ⟨l.drop (j + 1), by simp [Option.some.inj h2]⟩
  · rw [List.drop_eq_nil_of_le h, List.getElem?_eq_none h]
    simp
theorem fieldOf_good {t : List UInt8} {f : Fl} (h : fieldOf t = Option.some f) (ht : noMark t) : Good f := by
  unfold fieldOf at h
  split at h
  · cases h
  · rename_i h1
    split at h
    · rename_i h2
      obtain rfl := Option.some.inj h
      rcases Lib.index_spec t [58] with ⟨h3, _⟩ | ⟨i, h3, h4, h5, h6⟩
      · omega
      · rw [h3] at h2 ⊢
        rw [show ((i : Int)).toNat = i by omega] at h2 ⊢
        refine ⟨?_, h2, ?_, trim_twice _ _, noMark_infix ((trimS_infix _ _).trans (List.drop_suffix _ _).isInfix) ht⟩
        · intro he
          have := congrArg List.length he
          have h7 := (List.getElem?_eq_some_iff.1 ((occ_one t 58 i).1 h5)).1
          rw [List.length_take, List.length_nil] at this
          omega
        · intro b hb he
          subst he
          obtain ⟨j, hj, hjb⟩ := List.mem_iff_getElem.1 hb
          rw [List.length_take] at hj
          rw [List.getElem_take] at hjb
          have := h6 j (by omega)
          rw [(occ_one t 58 j).2 (by rw [List.getElem?_eq_getElem (by omega), hjb])] at this
          cases this
    · cases h
theorem fieldsL_good (s : List UInt8) : ∀ f ∈ fieldsL s, Good f := by
  intro f hf
  unfold fieldsL at hf
  obtain ⟨t, ht, hft⟩ := List.mem_filterMap.1 hf
  exact fieldOf_good hft (joinT_noMark _ [] (by simp) (linesA_noMark s.length [] s (Nat.le_refl _) noMark_nil (by simp)) t ht)

/-- A field's line. -/
def textF (f : Fl) : List UInt8 := f.name ++ [58, 32] ++ f.body
theorem putF_text (f : Fl) : putF f = textF f ++ [13, 10] := rfl
theorem nameB_no (b : UInt8) (h : nameB b = true) : b ≠ 13 ∧ b ≠ 10 ∧ blankB b = false := by
  unfold nameB at h
  simp at h
  refine ⟨?_, ?_, ?_⟩
  · rintro rfl; simp at h
  · rintro rfl; simp at h
  · rw [← Bool.not_eq_true]
    intro hb
    have := (blankB_iff b).1 hb
    omega
theorem Good.noMark {f : Fl} (h : Good f) : noMark (textF f) := by
  have hn : ∀ i : Nat, f.name[i]? ≠ Option.some 13 := fun i hi => by
    have hm := List.mem_iff_getElem?.2 ⟨i, hi⟩
    exact (nameB_no 13 (List.all_eq_true.1 h.signs _ hm)).1 rfl
  unfold textF
  refine noMark_append (noMark_append (fun i hi => hn i hi.1) (fun i hi => ?_) (fun hi => by simp at hi)) h.line (fun hi => by simp at hi)
  match i with
  | 0 => simp at hi
  | 1 => simp at hi
  | i + 2 => simp at hi
end Go.Proofs.YtfgfbdfijpecfaaDoor
