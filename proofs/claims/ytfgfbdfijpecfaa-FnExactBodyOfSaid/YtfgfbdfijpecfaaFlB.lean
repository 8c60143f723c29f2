/-
  Fields: how long they are; plain.
-/
import Derived.Test.YtfgfbdfijpecfaaPutL
namespace Go.Proofs.Ytfgfbdfijpecfaa
set_option linter.unusedVariables false
open Go.RowKit

theorem trimS_le (t : List UInt8) : (Lib.trimS t [32, 9]).length ≤ t.length := by
  unfold Lib.trimS Lib.trimLeftS Lib.trimRightS
  refine Nat.le_trans ((List.dropWhile_sublist _).length_le) ?_
  rw [List.length_reverse]
  refine Nat.le_trans ((List.dropWhile_sublist _).length_le) ?_
  rw [List.length_reverse]
  exact Nat.le_refl _
theorem fieldOf_len {t : List UInt8} {f : Fl} (h : fieldOf t = some f) : f.name.length + f.body.length ≤ t.length := by
  unfold fieldOf at h
  split at h
  · cases h
  · split at h
    · obtain rfl := Option.some.inj h
      have h1 := trimS_le (t.drop ((Lib.index t [58]).toNat + 1))
      dsimp only
      rw [List.length_take]
      rw [List.length_drop] at h1
      omega
    · cases h
theorem putL_filter : ∀ (T : List (List UInt8)), (putL (T.filterMap fieldOf)).length ≤ total T + 4 * T.length ∧ (T.filterMap fieldOf).length ≤ T.length
  | [] => by simp [putL, total]
  | t :: r => by
    obtain ⟨h1, h2⟩ := putL_filter r
    rw [total_cons, List.filterMap_cons]
    cases hf : fieldOf t with
    | none =>
      simp only [List.length_cons]
      omega
    | some f =>
      have := fieldOf_len hf
      simp only [putL_cons, List.length_append, putF_len, List.length_cons]
      omega
theorem joinT_total : ∀ (ls t : List (List UInt8)), total (joinT t ls) = total t + total ls
  | [], t => by simp [joinT, total]
  | l :: r, t => by
    rw [joinT, joinT_total r, total_addLine, total_cons]
    omega
theorem joinT_length : ∀ (ls t : List (List UInt8)), (joinT t ls).length ≤ t.length + ls.length
  | [], t => by simp [joinT]
  | l :: r, t => by
    have h1 := joinT_length r (addLine t l)
    have h2 := addLine_len t l
    rw [joinT, List.length_cons]
    omega
theorem fieldsL_bounds (s : List UInt8) : (putL (fieldsL s)).length ≤ 5 * s.length + 4 ∧ (fieldsL s).length ≤ s.length + 1 := by
  obtain ⟨h1, h2⟩ := putL_filter (joinT [] (linesA [] s))
  have h3 := joinT_total (linesA [] s) []
  have h4 := joinT_length (linesA [] s) []
  obtain ⟨h5, h6⟩ := total_lines s.length [] s (Nat.le_refl _)
  unfold fieldsL
  simp only [total, List.map_nil, List.foldr_nil, List.length_nil, Nat.zero_add] at h3 h4 h5 h6
  simp only [total] at h1
  omega
theorem putL_mem {l : List Fl} {f : Fl} (h : f ∈ l) : f.name.length + f.body.length ≤ (putL l).length := by
  induction l with
  | nil => cases h
  | cons a r ih =>
    rw [putL_cons, List.length_append, putF_len]
    rcases List.mem_cons.1 h with rfl | h
    · omega
    · have := ih h; omega
end Go.Proofs.Ytfgfbdfijpecfaa
