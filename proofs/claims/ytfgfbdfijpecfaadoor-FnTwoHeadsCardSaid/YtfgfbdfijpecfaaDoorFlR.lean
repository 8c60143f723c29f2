/-
  Header fields: what is written is read; heads one behind the other; plain.
-/
import Derived.Test.YtfgfbdfijpecfaaDoorFlL
namespace Go.Proofs.YtfgfbdfijpecfaaDoor
set_option linter.unusedVariables false
open Go.RowKit

theorem linesA_put : ∀ (l : List Fl) (y : List UInt8), (∀ f ∈ l, Good f) → linesA [] (putL l ++ y) = l.map textF ++ linesA [] y
  | [], y, _ => rfl
  | f :: r, y, h => by
    have h1 := linesA_line (textF f) [] (putL r ++ y) (h f List.mem_cons_self).noMark
    rw [putL_cons, putF_text, List.map_cons, List.cons_append]
    rw [show textF f ++ [13, 10] ++ putL r ++ y = textF f ++ 13 :: 10 :: (putL r ++ y) by simp, h1, List.nil_append, linesA_put r y (fun g hg => h g (List.mem_cons_of_mem _ hg))]
theorem Good.head {f : Fl} (h : Good f) : blankHead (textF f) = false := by
  unfold textF
  cases hn : f.name with
  | nil => exact absurd hn h.some
  | cons b r =>
    have hs := h.signs
    rw [hn] at hs
    simp at hs
    exact (nameB_no b hs.1).2.2
theorem addLine_no {t : List (List UInt8)} {l : List UInt8} (h : blankHead l = false) : addLine t l = t ++ [l] := by
  unfold addLine
  rw [h]
  rfl
theorem joinT_put : ∀ (l : List Fl) (T ls : List (List UInt8)), (∀ f ∈ l, Good f) → joinT T (l.map textF ++ ls) = joinT (T ++ l.map textF) ls
  | [], T, ls, _ => by simp
  | f :: r, T, ls, h => by
    rw [List.map_cons, List.cons_append, joinT, addLine_no (h f List.mem_cons_self).head, joinT_put r _ ls (fun g hg => h g (List.mem_cons_of_mem _ hg)), List.append_assoc]
    rfl
theorem addLine_behind (T u : List (List UInt8)) (l : List UInt8) (hu : u ≠ []) : addLine (T ++ u) l = T ++ addLine u l ∧ addLine u l ≠ [] := by
  have hp : 0 < u.length := List.length_pos_iff.2 hu
  unfold addLine
  cases hb : blankHead l with
  | false =>
    refine ⟨?_, ?_⟩
    · simp
    · simp
  | true =>
    rw [List.length_append, decide_eq_true (show 0 < T.length + u.length by omega), decide_eq_true hp]
    simp only [Bool.and_self, if_true]
    refine ⟨?_, ?_⟩
    · rw [List.getD_eq_getElem?_getD, List.getD_eq_getElem?_getD, List.getElem?_append_right (by omega), List.set_append_right _ _ (by omega), show T.length + u.length - 1 - T.length = u.length - 1 by omega]
    · intro he
      have := congrArg List.length he
      rw [List.length_set, List.length_nil] at this
      omega
theorem joinT_behind : ∀ (ls T u : List (List UInt8)), u ≠ [] → joinT (T ++ u) ls = T ++ joinT u ls
  | [], T, u, _ => by rw [joinT, joinT]
  | l :: r, T, u, hu => by
    obtain ⟨h1, h2⟩ := addLine_behind T u l hu
    rw [joinT, joinT, h1, joinT_behind r T _ h2]
/-- A head behind another one, where its first line doesn't go on. -/
theorem joinT_two (l : List Fl) (u : List UInt8) (ls : List (List UInt8)) (h : ∀ f ∈ l, Good f) (hu : blankHead u = false) : joinT [] (l.map textF ++ u :: ls) = l.map textF ++ joinT [] (u :: ls) := by
  rw [joinT_put l [] _ h, List.nil_append, joinT, joinT, addLine_no hu, addLine_no hu, List.nil_append, joinT_behind _ _ _ (by simp)]

theorem fieldOf_text (f : Fl) (e : List UInt8) (h : Good f) : fieldOf (textF f ++ e) = some ⟨f.name, Lib.trimS (f.body ++ e) [32, 9]⟩ := by
  have hpos : 0 < f.name.length := List.length_pos_iff.2 h.some
  have e0 : textF f ++ e = f.name ++ 58 :: 32 :: (f.body ++ e) := by simp [textF]
  have hix : Lib.index (textF f ++ e) [58] = (f.name.length : Nat) := by
    refine Lib.index_first ?_ ?_ ?_
    · rw [e0, List.length_append]; omega
    · rw [occ_one, e0, List.getElem?_append_right (Nat.le_refl _), Nat.sub_self]
      rfl
    · intro j hj
      rw [← Bool.not_eq_true, occ_one, e0, List.getElem?_append_left hj]
      intro h2
      exact h.colon 58 (List.mem_iff_getElem?.2 ⟨j, h2⟩) rfl
  have ht : (textF f ++ e).take f.name.length = f.name := by rw [e0, List.take_left]
  have hd : (textF f ++ e).drop (f.name.length + 1) = 32 :: (f.body ++ e) := by
    rw [e0, ← List.drop_drop, List.drop_left]
    rfl
  unfold fieldOf
  rw [hix, if_neg (by omega), show ((f.name.length : Nat) : Int).toNat = f.name.length by omega, ht, h.signs, if_pos rfl, hd, trimS_left _ _ _ (by decide)]
theorem fieldOf_text0 (f : Fl) (h : Good f) : fieldOf (textF f) = some f := by
  have := fieldOf_text f [] h
  rw [List.append_nil, List.append_nil, h.trimmed] at this
  exact this
theorem filter_text : ∀ (l : List Fl), (∀ f ∈ l, Good f) → (l.map textF).filterMap fieldOf = l
  | [], _ => rfl
  | f :: r, h => by
    rw [List.map_cons, List.filterMap_cons, fieldOf_text0 f (h f List.mem_cons_self), filter_text r (fun g hg => h g (List.mem_cons_of_mem _ hg))]

/-- Fields come back from how they are written. -/
theorem fields_put (l : List Fl) (h : ∀ f ∈ l, Good f) : fieldsL (putL l) = l := by
  have h1 := linesA_put l [] h
  rw [List.append_nil] at h1
  unfold fieldsL
  rw [h1, show linesA [] [] = [] by rw [linesA]; rfl, joinT_put l [] [] h, List.nil_append, joinT, filter_text l h]
/-- .. of heads one behind the other too. -/
theorem fields_two (l : List Fl) (u y : List UInt8) (h : ∀ f ∈ l, Good f) (hu : blankHead u = false) (hm : noMark u) : fieldsL (putL l ++ (u ++ 13 :: 10 :: y)) = l ++ fieldsL (u ++ 13 :: 10 :: y) := by
  unfold fieldsL
  rw [linesA_put l _ h, linesA_line u [] y hm, List.nil_append, joinT_two l u _ h hu, List.filterMap_append, filter_text l h]
/-- A line that goes on belongs to the one ahead. -/
theorem fields_more (l : List Fl) (f : Fl) (u : List UInt8) (h : ∀ g ∈ l, Good g) (hf : Good f) (hu : blankHead u = true) (hm : noMark u) :
    fieldsL (putL (l ++ [f]) ++ (u ++ [13, 10])) = l ++ [⟨f.name, Lib.trimS (f.body ++ u) [32, 9]⟩] := by
  have h2 : ∀ g ∈ l ++ [f], Good g := fun g hg => (List.mem_append.1 hg).elim (h g) (fun hg => by rw [List.mem_singleton.1 hg]; exact hf)
  unfold fieldsL
  rw [linesA_put _ _ h2, linesA_line u [] [] hm, show linesA [] [] = [] by rw [linesA]; rfl, joinT_put _ _ _ h2, List.nil_append, List.nil_append, joinT, joinT]
  rw [List.map_append, List.map_cons, List.map_nil, (addLine_behind _ _ _ (by simp)).1]
  rw [List.filterMap_append, filter_text l h]
  unfold addLine
  rw [hu]
  simp only [List.length_cons, List.length_nil, Bool.true_and]
  rw [if_pos (by simp)]
  simp only [Nat.zero_add, Nat.sub_self, List.set_cons_zero, List.getD_cons_zero]
  rw [List.filterMap_cons, fieldOf_text f u hf]
  rfl
/-- .. and to none where there is none. -/
theorem fields_lone (u : List UInt8) (hm : noMark u) (hc : ∀ b ∈ u, b ≠ 58) : fieldsL (u ++ [13, 10]) = [] := by
  unfold fieldsL
  rw [linesA_line u [] [] hm, show linesA [] [] = [] by rw [linesA]; rfl, List.nil_append, joinT, joinT]
  have ha : addLine [] u = [u] := by
    unfold addLine
    simp
  rw [ha, List.filterMap_cons]
  have hix : Lib.index u [58] = -1 := Lib.index_none (fun j hj => by
    rw [← Bool.not_eq_true, occ_one]
    intro h2
    exact hc 58 (List.mem_iff_getElem?.2 ⟨j, h2⟩) rfl)
  unfold fieldOf
  rw [hix, if_pos (by omega)]
  rfl
theorem joinT_first : ∀ (ls : List (List UInt8)) (u : List UInt8), ∃ e r, joinT [u] ls = (u ++ e) :: r
  | [], u => ⟨[], [], by rw [joinT, List.append_nil]⟩
  | l :: r, u => by
    rw [joinT]
    cases hb : blankHead l with
    | false =>
      rw [addLine_no hb]
      have := joinT_behind r [u] [l] (by simp)
      rw [show ([u] : List (List UInt8)) ++ [l] = [u] ++ [l] from rfl, this]
      exact ⟨[], joinT [l] r, by rw [List.append_nil]; rfl⟩
    | true =>
      have ha : addLine [u] l = [u ++ l] := by
        unfold addLine
        rw [hb]
        rfl
      rw [ha]
      obtain ⟨e, r2, h2⟩ := joinT_first r (u ++ l)
      exact ⟨l ++ e, r2, by rw [h2, List.append_assoc]⟩
/-- A head that begins with a field has one. -/
theorem fields_some (f : Fl) (y : List UInt8) (h : Good f) : 1 ≤ (fieldsL (textF f ++ 13 :: 10 :: y)).length := by
  unfold fieldsL
  rw [linesA_line (textF f) [] y h.noMark, List.nil_append, joinT, addLine_no h.head, List.nil_append]
  obtain ⟨e, r, h2⟩ := joinT_first (linesA [] y) (textF f)
  rw [h2, List.filterMap_cons, fieldOf_text f e h]
  simp
end Go.Proofs.YtfgfbdfijpecfaaDoor
