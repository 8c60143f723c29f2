/-
  Delimiters: what impl's readDelim tells, in the model's words. Plain.
-/
import Derived.Test.YtjleadlecdcdeaaDlP
import Derived.Test.YtjleadlecdcdeaaIwR
namespace Go.Proofs.Ytjleadlecdcdeaa
set_option linter.unusedVariables false
open Go.RowKit

def endD (T : List UInt8) (a e last : Nat) : Option Dl :=
  if Lib.hasPrefix (T.drop (runP blankB T T.length e)) [13, 10] = true then some ⟨a, runP blankB T T.length e + 2, last⟩ else if runP blankB T T.length e < T.length then none else some ⟨a, runP blankB T T.length e, last⟩
def rdD (T : List UInt8) (a : Nat) (start : List UInt8) : Option Dl :=
  if Lib.hasPrefix (T.drop a) start = true then
    if Lib.hasPrefix (T.drop (a + start.length)) [45, 45] = true then endD T a (a + start.length + 2) 1 else endD T a (a + start.length) 0
  else none
theorem prefix_sub (raw m : List UInt8) (a to : Nat) (ha : a ≤ to) (ht : to ≤ raw.length) : Lib.hasPrefix ((raw.take to).drop a) m = true ↔ a + m.length ≤ to ∧ sub2 raw a (a + m.length) = m := by
  unfold Lib.hasPrefix
  rw [List.isPrefixOf_iff_prefix, List.prefix_iff_eq_take]
  have hT : (raw.take to).drop a = (raw.drop a).take (to - a) := by rw [List.drop_take]
  rw [hT, List.take_take]
  unfold sub2
  rw [show a + m.length - a = m.length by omega]
  constructor
  · intro h
    have hl := congrArg List.length h
    rw [List.length_take, List.length_drop] at hl
    have h2 : a + m.length ≤ to := by omega
    rw [Nat.min_eq_left (by omega)] at h
    exact ⟨h2, h.symm⟩
  · rintro ⟨h1, h2⟩
    rw [Nat.min_eq_left (by omega)]
    exact h2.symm
theorem runP_skip (raw : List UInt8) (to : Nat) (ht : to ≤ raw.length) : ∀ n e, runP blankB (raw.take to) n e = skipB raw to n e
  | 0, e => rfl
  | n + 1, e => by
    rw [runP, skipB, runP_skip raw to ht n (e + 1), List.length_take, Nat.min_eq_left ht]
    by_cases h : e < to
    · have : (raw.take to).getD e 0 = raw.getD e 0 := by
        rw [List.getD_eq_getElem?_getD, List.getD_eq_getElem?_getD, List.getElem?_take, if_pos h]
      rw [this]
    · rw [if_neg (fun q => h q.1), if_neg (fun q => h q.1)]
theorem skipB_fuel (raw : List UInt8) (to : Nat) : ∀ n e, to - e ≤ n → skipB raw to n e = skipB raw to (to - e) e
  | 0, e, h => by rw [show to - e = 0 by omega]
  | n + 1, e, h => by
    by_cases hlt : e < to
    · rw [show to - e = (to - (e + 1)) + 1 by omega, skipB, skipB, skipB_fuel raw to n (e + 1) (by omega)]
    · rw [show to - e = 0 by omega]
      show (if e < to ∧ blankB (raw.getD e 0) = true then skipB raw to n (e + 1) else e) = e
      rw [if_neg (fun q => hlt q.1)]
theorem endD_eq (raw : List UInt8) (a to e last : Nat) (he : e ≤ to) (ht : to ≤ raw.length) : endD (raw.take to) a e last = delimEnd raw a to e last := by
  have hk := skipB_le raw to (to - e) e he
  unfold endD delimEnd
  rw [show (raw.take to).length = to by rw [List.length_take]; omega, runP_skip raw to ht, skipB_fuel raw to to e (by omega)]
  generalize skipB raw to (to - e) e = k at hk
  have hp := prefix_sub raw [13, 10] k to hk.1 ht
  rw [show ([13, 10] : List UInt8).length = 2 from rfl] at hp
  by_cases h1 : k = to
  · subst h1
    rw [if_neg (fun q => by have := (hp.1 q).1; omega), if_neg (Nat.lt_irrefl _), if_pos rfl]
  · rw [if_neg h1]
    by_cases h2 : Lib.hasPrefix ((raw.take to).drop k) [13, 10] = true
    · rw [if_pos h2, if_pos (hp.1 h2)]
    · rw [if_neg h2, if_neg (fun q => h2 (hp.2 q)), if_pos (by omega)]
theorem rdD_eq (raw mark : List UInt8) (a to : Nat) (ha : a ≤ to) (ht : to ≤ raw.length) : rdD (raw.take to) a (45 :: 45 :: mark) = delimAt raw a to mark := by
  have hp := prefix_sub raw (45 :: 45 :: mark) a to ha ht
  unfold rdD delimAt
  rw [show (45 :: 45 :: mark : List UInt8).length = mark.length + 2 from rfl] at *
  by_cases h1 : Lib.hasPrefix ((raw.take to).drop a) (45 :: 45 :: mark) = true
  · obtain ⟨q1, q2⟩ := hp.1 h1
    have hn : ¬ (to < a + (mark.length + 2) ∨ sub2 raw a (a + (mark.length + 2)) ≠ 45 :: 45 :: mark) := by
      rintro (h | h)
      · omega
      · exact h q2
    rw [if_pos h1, if_neg hn]
    have hp2 := prefix_sub raw [45, 45] (a + (mark.length + 2)) to q1 ht
    rw [show ([45, 45] : List UInt8).length = 2 from rfl] at hp2
    by_cases h2 : Lib.hasPrefix ((raw.take to).drop (a + (mark.length + 2))) [45, 45] = true
    · obtain ⟨r1, r2⟩ := hp2.1 h2
      rw [if_pos h2, if_pos (by unfold twoMarks; rw [r2]; simp; exact r1), endD_eq raw a to _ 1 r1 ht]
    · rw [if_neg h2, if_neg (fun h => h2 (hp2.2 (by unfold twoMarks at h; simpa using h))), endD_eq raw a to _ 0 q1 ht]
  · rw [if_neg h1, if_pos (by
      by_cases h2 : to < a + (mark.length + 2)
      · exact .inl h2
      · exact .inr (fun h3 => h1 (hp.2 ⟨by omega, h3⟩)))]
end Go.Proofs.Ytjleadlecdcdeaa
