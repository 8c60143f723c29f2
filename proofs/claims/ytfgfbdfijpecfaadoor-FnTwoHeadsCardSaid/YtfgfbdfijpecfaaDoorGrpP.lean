/-
  Header fields: lines gathered in groups; plain.
-/
import Derived.Test.YtfgfbdfijpecfaaDoorFlR
import Derived.Test.YtfgfbdfijpecfaaDoorLinesA
import Derived.Lib.CutLaws
import Derived.Lib.JoinLaws
namespace Go.Proofs.YtfgfbdfijpecfaaDoor
set_option linter.unusedVariables false
open Go.RowKit

theorem noMark_of_index {l : List UInt8} (h : Lib.index l [13, 10] < 0) : noMark l := by
  intro i ⟨h1, h2⟩
  rcases Lib.index_spec l [13, 10] with ⟨_, hn⟩ | ⟨k, hk, _⟩
  · have hi : i < l.length := (List.getElem?_eq_some_iff.1 h1).1
    have := hn i (by omega)
    have ho : Lib.occAt l [13, 10] i = true := by
      unfold Lib.occAt
      rw [List.isPrefixOf_iff_prefix]
      have hi2 : i + 1 < l.length := (List.getElem?_eq_some_iff.1 h2).1
      refine ⟨l.drop (i + 2), ?_⟩
      rw [List.drop_eq_getElem_cons (by omega : i < l.length), List.drop_eq_getElem_cons (by omega : i + 1 < l.length)]
      rw [List.getElem?_eq_getElem (by omega)] at h1 h2
      rw [Option.some.inj h1, Option.some.inj h2]
      rfl
    rw [ho] at this
    cases this
  · omega
theorem linesA_lone : ∀ (x acc : List UInt8), noMark x → linesA acc x = if acc ++ x = [] then [] else [acc ++ x]
  | [], acc, _ => by rw [linesA, List.append_nil]
  | [b], acc, _ => by rw [linesA]; simp
  | b :: c :: r, acc, h => by
    rw [linesA, if_neg (noMark_two h), linesA_lone (c :: r) (acc ++ [b]) (noMark_tail h)]
    simp
/-- The parts between line ends are the lines, but for an empty one at the end. -/
theorem pcs_linesA {r : ByteArray} {ps : List ByteArray} (h : Pcs crlf r ps) : ps.map (·.data.toList) = linesA [] r.data.toList ∨ ps.map (·.data.toList) = linesA [] r.data.toList ++ [[]] := by
  induction h with
  | last r hn =>
    have hm := noMark_of_index (l := r.data.toList) hn
    rw [linesA_lone _ _ hm]
    by_cases he : r.data.toList = []
    · right; simp [he]
    · left; simp [he]
  | more r i ps hi hroom t ih =>
    obtain ⟨hle, hocc, hfirst⟩ := index_facts r crlf i hi
    have hlen : r.data.toList.length = r.size := by simp
    have h2 : crlf.size = 2 := rfl
    rw [h2] at hroom
    have hocc2 : Lib.occAt r.data.toList [13, 10] i = true := hocc
    have hp : [13, 10] <+: r.data.toList.drop i := by
      unfold Lib.occAt at hocc2
      rwa [List.isPrefixOf_iff_prefix] at hocc2
    obtain ⟨q, hq⟩ := hp
    have hq2 : r.data.toList.drop (i + 2) = q := by
      rw [← List.drop_drop, ← hq]
      rfl
    have hl : r.data.toList = r.data.toList.take i ++ 13 :: 10 :: r.data.toList.drop (i + 2) := by
      conv => lhs; rw [← List.take_append_drop i r.data.toList, ← hq]
      rw [hq2]
      rfl
    have hnm : noMark (r.data.toList.take i) := by
      intro j ⟨h1, h2'⟩
      have hj : j + 1 < i := by
        have := (List.getElem?_eq_some_iff.1 h2').1
        rw [List.length_take] at this
        omega
      rw [List.getElem?_take_of_lt (by omega)] at h1 h2'
      have := hfirst j (by omega)
      have ho : Lib.occAt r.data.toList crlf.data.toList j = true := by
        have := (occC_iff r j).2 ⟨h1, h2'⟩
        exact this
      rw [ho] at this
      cases this
    have e1 : (r.extract 0 i).data.toList = r.data.toList.take i := by rw [Lib.extract_data]; simp
    have e2 : (r.extract (i + crlf.size) r.size).data.toList = r.data.toList.drop (i + 2) := by
      rw [Lib.extract_data, h2, List.take_of_length_le (by simp)]
    rw [e2] at ih
    have hx := linesA_line (r.data.toList.take i) [] (r.data.toList.drop (i + 2)) hnm
    rw [← hl, List.nil_append] at hx
    rw [hx, List.map_cons, e1]
    rcases ih with ih | ih
    · left; rw [ih]
    · right; rw [ih]; rfl

theorem joinT_snoc : ∀ (ls T : List (List UInt8)) (l : List UInt8), joinT T (ls ++ [l]) = addLine (joinT T ls) l
  | [], T, l => rfl
  | x :: r, T, l => by rw [List.cons_append, joinT, joinT, joinT_snoc r]
theorem fieldOf_nil : fieldOf [] = none := by decide
/-- The fields of a text, by its parts. -/
theorem fields_pcs {r : ByteArray} {ps : List ByteArray} (h : Pcs crlf r ps) : (joinT [] (ps.map (·.data.toList))).filterMap fieldOf = fieldsL r.data.toList := by
  unfold fieldsL
  rcases pcs_linesA h with e | e
  · rw [e]
  · rw [e, joinT_snoc, addLine_no rfl, List.filterMap_append]
    simp [fieldOf_nil]

/-- A line goes on. -/
def goesB (ls : List (List UInt8)) (t : Nat) : Bool := blankHead (ls.getD t [])
/-- The groups of lines ahead of line k + 1, and where the next one begins. -/
def grpF (ls : List (List UInt8)) : Nat → List (Nat × Nat) × Nat
  | 0 => ([], 0)
  | t + 1 => if t + 1 = ls.length ∨ goesB ls (t + 1) = false then ((grpF ls t).1 ++ [((grpF ls t).2, t + 1)], t + 1) else grpF ls t
theorem grpF_cut {ls : List (List UInt8)} {t : Nat} (h : t + 1 = ls.length ∨ goesB ls (t + 1) = false) : grpF ls (t + 1) = ((grpF ls t).1 ++ [((grpF ls t).2, t + 1)], t + 1) := by rw [grpF, if_pos h]
theorem grpF_on {ls : List (List UInt8)} {t : Nat} (h1 : t + 1 ≠ ls.length) (h2 : goesB ls (t + 1) = true) : grpF ls (t + 1) = grpF ls t := by rw [grpF, if_neg (by rw [h2]; simp [h1])]
theorem grpF_le (ls : List (List UInt8)) : ∀ k, (grpF ls k).2 ≤ k ∧ (grpF ls k).1.length ≤ k ∧ ∀ x ∈ (grpF ls k).1, x.1 < x.2 ∧ x.2 ≤ k
  | 0 => by simp [grpF]
  | t + 1 => by
    obtain ⟨h1, h2, h3⟩ := grpF_le ls t
    rw [grpF]
    split
    · refine ⟨Nat.le_refl _, by simp; omega, fun x hx => ?_⟩
      rcases List.mem_append.1 hx with hx | hx
      · have := h3 x hx; omega
      · rw [List.mem_singleton.1 hx]
        simp
        omega
    · exact ⟨by omega, by omega, fun x hx => by have := h3 x hx; omega⟩
def textOf (ls : List (List UInt8)) (x : Nat × Nat) : List UInt8 := ((ls.take x.2).drop x.1).flatten
theorem textOf_more (ls : List (List UInt8)) (a k : Nat) (ha : a ≤ k) (hk : k < ls.length) : textOf ls (a, k + 1) = textOf ls (a, k) ++ ls.getD k [] := by
  unfold textOf
  simp only
  rw [List.take_add_one, List.getElem?_eq_getElem hk, List.drop_append_of_le_length (by simp; omega)]
  simp [List.getD_eq_getElem?_getD, hk]
theorem addLine_last (T : List (List UInt8)) (u l : List UInt8) (h : blankHead l = true) : addLine (T ++ [u]) l = T ++ [u ++ l] := by
  unfold addLine
  rw [h, if_pos (by simp)]
  simp [List.getD_eq_getElem?_getD]
theorem grp_joins (ls : List (List UInt8)) : ∀ k, k < ls.length → (grpF ls k).1.map (textOf ls) ++ [textOf ls ((grpF ls k).2, k + 1)] = joinT [] (ls.take (k + 1))
  | 0, h => by
    cases ls with
    | nil => simp at h
    | cons x r => simp [grpF, textOf, joinT, addLine]
  | t + 1, h => by
    have ih := grp_joins ls t (by omega)
    have hle := (grpF_le ls t).1
    have e : ls.take (t + 1 + 1) = ls.take (t + 1) ++ [ls.getD (t + 1) []] := by
      rw [List.take_add_one, List.getElem?_eq_getElem h]
      simp [List.getD_eq_getElem?_getD, h]
    rw [e, joinT_snoc, ← ih]
    cases hg : goesB ls (t + 1) with
    | true =>
      rw [grpF_on (by omega) hg, addLine_last _ _ _ hg, textOf_more _ _ _ (by omega) h]
    | false =>
      rw [grpF_cut (.inr hg), addLine_no hg, List.map_append]
      congr 1
      unfold textOf
      simp only
      rw [e, List.drop_append_of_le_length (by simp; omega), List.drop_of_length_le (by rw [List.length_take]; omega)]
      simp
theorem grp_all (ls : List (List UInt8)) (h : 0 < ls.length) : (grpF ls ls.length).1.map (textOf ls) = joinT [] ls := by
  obtain ⟨n, hn⟩ : ∃ n, ls.length = n + 1 := ⟨ls.length - 1, by omega⟩
  have := grp_joins ls n (by omega)
  rw [hn, grpF_cut (.inl hn.symm), List.map_append]
  rw [show ls.take (n + 1) = ls from List.take_of_length_le (by omega)] at this
  exact this
end Go.Proofs.YtfgfbdfijpecfaaDoor
