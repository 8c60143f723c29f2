/-
  What Split and Trim hand back: plain lists of bytes.
-/
import Derived.Test.YtmaoieceonlkoaaDoorSplitA
import Derived.Test.YtmaoieceonlkoaaDoorJoin
import Derived.Lib.SlTrimSet
namespace Go.Proofs.YtmaoieceonlkoaaDoor
set_option linter.unusedVariables false
open Go.RowKit

theorem dw_fix (p : UInt8 → Bool) (l : List UInt8) (h : ∀ b, l.head? = some b → p b = false) : l.dropWhile p = l := by
  cases l with
  | nil => rfl
  | cons a l => rw [List.dropWhile_cons, h a rfl]; rfl
theorem dw_head (p : UInt8 → Bool) : ∀ (l : List UInt8) (b : UInt8), (l.dropWhile p).head? = some b → p b = false := by
  intro l
  induction l with
  | nil => intro b h; cases h
  | cons a l ih =>
    intro b h
    rw [List.dropWhile_cons] at h
    cases hp : p a
    · rw [hp] at h
      injection h with h
      subst h; exact hp
    · rw [hp] at h
      exact ih b h
theorem trim_twice (l cs : List UInt8) : Lib.trimS (Lib.trimS l cs) cs = Lib.trimS l cs := by
  unfold Lib.trimS
  generalize hy : Lib.trimRightS l cs = y
  have h1 : Lib.trimRightS (Lib.trimLeftS y cs) cs = Lib.trimLeftS y cs := by
    unfold Lib.trimRightS
    rw [dw_fix, List.reverse_reverse]
    intro b hb
    obtain ⟨t, ht⟩ := List.dropWhile_suffix (l := y) (cs.contains ·)
    have h2 : y.reverse.head? = some b := by
      rw [← ht, List.reverse_append]
      unfold Lib.trimLeftS at hb
      rw [List.head?_append, hb]; rfl
    rw [← hy] at h2
    unfold Lib.trimRightS at h2
    rw [List.reverse_reverse] at h2
    exact dw_head _ _ b h2
  rw [h1]
  unfold Lib.trimLeftS
  exact dw_fix _ _ (dw_head _ y)
theorem dw_out (p : UInt8 → Bool) (l : List UInt8) (a c : UInt8) (ha : p a = true) (hc : p c = true) : (([a] ++ l ++ [c]).reverse.dropWhile p).reverse.dropWhile p = (l.reverse.dropWhile p).reverse.dropWhile p := by
  have e : ([a] ++ l ++ [c]).reverse = c :: (l.reverse ++ [a]) := by simp
  rw [e, List.dropWhile_cons, if_pos hc, List.dropWhile_append]
  cases hd : l.reverse.dropWhile p with
  | nil => simp [ha]
  | cons x xs => simp [ha]
theorem trim_out (l cs : List UInt8) (a c : UInt8) (ha : cs.contains a = true) (hc : cs.contains c = true) : Lib.trimS ([a] ++ l ++ [c]) cs = Lib.trimS l cs :=
  dw_out (cs.contains ·) l a c ha hc

theorem take_cut (l : List UInt8) (o k : Nat) (h : o ≤ k) : l.take o ++ (l.drop o).take (k - o) = l.take k := by
  have := List.take_add (l := l) (i := o) (j := k - o)
  rw [← this]
  congr 1
  omega
theorem take_next {s : ByteArray} {b : UInt8} {k : Nat} (h : occB s b k = true) : s.data.toList.take k ++ [b] = s.data.toList.take (k + 1) := by
  unfold occB at h
  rw [beq_iff_eq] at h
  rw [List.take_add_one, h]
  rfl
theorem join_to (s : ByteArray) (b : UInt8) (pre : List ByteArray) (o k : Nat) (ho : o ≤ k) (h0 : pre = [] → o = 0) (h1 : pre ≠ [] → joinL [b] pre ++ [b] = s.data.toList.take o) :
    joinL [b] (pre ++ [s.extract o k]) = s.data.toList.take k := by
  by_cases hp : pre = []
  · rw [h0 hp]
    subst hp
    rw [List.nil_append, joinL_one, Lib.extract_data]
    simp
  · rw [joinL_snoc _ _ _ hp, h1 hp, Lib.extract_data, take_cut _ _ _ ho]
theorem join_pre (s : ByteArray) (b : UInt8) : ∀ k, ((spF s b k).1 = [] → (spF s b k).2 = 0) ∧ ((spF s b k).1 ≠ [] → joinL [b] (spF s b k).1 ++ [b] = s.data.toList.take (spF s b k).2) := by
  intro k
  induction k with
  | zero => exact ⟨fun _ => rfl, fun h => absurd rfl h⟩
  | succ k ih =>
    cases h : occB s b k
    · rw [spF_no h]; exact ih
    · rw [spF_yes h]
      refine ⟨fun e => absurd e (by simp), fun _ => ?_⟩
      simp only
      rw [join_to s b _ _ k (spF_le s b k).1 ih.1 ih.2, take_next h]
theorem join_split (s : ByteArray) (b : UInt8) : (⟨(joinL (one b).data.toList (splitAll s b)).toArray⟩ : ByteArray) = s := by
  have h : joinL [b] (splitAll s b) = s.data.toList := by
    unfold splitAll
    rw [join_to s b _ _ s.size (spF_le s b s.size).1 (join_pre s b s.size).1 (join_pre s b s.size).2]
    exact List.take_of_length_le (by simp)
  apply ByteArray.ext
  apply Array.ext'
  exact h
theorem pre_small (s : ByteArray) (b : UInt8) : ∀ k, ∀ y ∈ (spF s b k).1, y.size ≤ s.size := by
  intro k
  induction k with
  | zero => intro y hy; cases hy
  | succ k ih =>
    cases h : occB s b k
    · rw [spF_no h]; exact ih
    · rw [spF_yes h]
      intro y hy
      rcases List.mem_append.1 hy with hy | hy
      · exact ih y hy
      · rw [List.mem_singleton.1 hy]; simp; omega
theorem split_small (s : ByteArray) (b : UInt8) : ∀ y ∈ splitAll s b, y.size ≤ s.size := by
  intro y hy
  unfold splitAll at hy
  rcases List.mem_append.1 hy with hy | hy
  · exact pre_small s b _ y hy
  · rw [List.mem_singleton.1 hy]; simp
theorem split_len (s : ByteArray) (b : UInt8) : (splitAll s b).length ≤ s.size + 1 ∧ splitAll s b ≠ [] := by
  unfold splitAll
  have := (spF_le s b s.size).2
  exact ⟨by simp; omega, by simp⟩
theorem ValsAt.later {w w' : World} {v : Value} {xs : List Value} (h : ValsAt w v xs) (hb : Below w.heap.size w w') : ValsAt w' v xs := by
  rcases h with h | ⟨g, cap, h1, h2, h3⟩
  · exact .inl h
  · refine .inr ⟨g, cap, h1, Nat.lt_of_lt_of_le h2 hb.size, fun j hj => ?_⟩
    have := h3 j hj
    simp only [World.cell?, World.frozen?, hb.block g h2] at this ⊢
    exact this
end Go.Proofs.YtmaoieceonlkoaaDoor
