/-
  Words: a byte that is found stands there.
-/
import Derived.Test.YtgebkpnieailbaaDoorWdO
import Derived.Lib.IndexLaws
namespace Go.Proofs.YtgebkpnieailbaaDoor
set_option linter.unusedVariables false
open Go.RowKit

theorem index_has (l : List UInt8) (c : UInt8) : decide (Lib.indexByte l c < 0) = !hasL c l := by
  have hge := Lib.indexByte_ge l c
  cases h : hasL c l with
  | true =>
    have : ¬ Lib.indexByte l c < 0 := by
      intro hn
      have h1 : Lib.indexByte l c = -1 := by omega
      have h2 := Lib.indexByte_none h1
      unfold hasL at h
      rw [List.any_eq_true] at h
      obtain ⟨x, hx, hxc⟩ := h
      obtain ⟨k, hk⟩ := List.mem_iff_getElem?.1 hx
      exact h2 k (by rw [hk, beq_iff_eq.1 hxc])
    simp [this]
  | false =>
    have : Lib.indexByte l c < 0 := by
      rcases Int.lt_or_le (Lib.indexByte l c) 0 with h1 | h1
      · exact h1
      · obtain ⟨o, ho⟩ := Int.eq_ofNat_of_zero_le h1
        have h2 := (Lib.indexByte_some ho).1
        have : hasL c l = true := by
          unfold hasL
          rw [List.any_eq_true]
          exact ⟨c, List.mem_of_getElem? h2, beq_self_eq_true _⟩
        rw [h] at this
        cases this
    simp [this]
end Go.Proofs.YtgebkpnieailbaaDoor
