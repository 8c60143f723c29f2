/-
  HeadEnd: plain.
-/
import Derived.Test.YtjleadlecdcdeaaFindP
namespace Go.Proofs.Ytjleadlecdcdeaa
set_option linter.unusedVariables false
open Go.RowKit

/-- The text begins with a line end. -/
def crHead (l : List UInt8) : Bool := l.take 2 == [13, 10]
/-- Where the head ends. -/
def headN (l : List UInt8) : Nat := if crHead l then 2 else if Lib.index l [13, 10, 13, 10] < 0 then l.length else (Lib.index l [13, 10, 13, 10]).toNat + 4

theorem crHead_len (l : List UInt8) (h : crHead l = true) : 2 ≤ l.length := by
  unfold crHead at h
  have := congrArg List.length (eq_of_beq h)
  rw [List.length_take] at this
  simp at this
  omega
theorem headN_le (l : List UInt8) : headN l ≤ l.length := by
  unfold headN
  split
  · exact crHead_len l (by assumption)
  · split
    · exact Nat.le_refl _
    · have := Lib.index_room l [13, 10, 13, 10] (by omega)
      simp at this
      omega
theorem crHead_take (l : List UInt8) (n : Nat) (h : 2 ≤ n) : crHead (l.take n) = crHead l := by
  unfold crHead
  rw [List.take_take, Nat.min_eq_left h]
theorem occ_take {l t : List UInt8} {n j : Nat} (h : j + t.length ≤ n) : Lib.occAt (l.take n) t j = Lib.occAt l t j := by
  unfold Lib.occAt
  rw [List.drop_take, Bool.eq_iff_iff, List.isPrefixOf_iff_prefix, List.isPrefixOf_iff_prefix]
  constructor
  · intro h1
    exact h1.trans (List.take_prefix _ _)
  · intro h1
    rw [List.prefix_take_iff]
    exact ⟨h1, by omega⟩
/-- What is told of where the head ends. -/
theorem headN_tells (l : List UInt8) : headN l = l.length ∨
    (2 ≤ headN l ∧ (l.drop (headN l - 2)).take 2 = [13, 10] ∧ (headN l = 2 ∨ (4 ≤ headN l ∧ (l.drop (headN l - 4)).take 2 = [13, 10])) ∧ headN (l.take (headN l)) = headN l) := by
  cases hc : crHead l with
  | true =>
    have h2 : headN l = 2 := by unfold headN; rw [hc]; rfl
    rw [h2]
    refine .inr ⟨Nat.le_refl _, eq_of_beq hc, .inl rfl, ?_⟩
    unfold headN
    rw [crHead_take l 2 (Nat.le_refl _), hc]
    rfl
  | false =>
    rcases Lib.index_spec l [13, 10, 13, 10] with ⟨h, _⟩ | ⟨i, h, hi, ho, hn⟩
    · left
      unfold headN
      rw [hc, h]
      rfl
    · have hr := Lib.index_room l [13, 10, 13, 10] (by omega)
      rw [h] at hr
      simp at hr
      have hN : headN l = i + 4 := by
        unfold headN
        rw [hc, h, if_neg (by simp), if_neg (by omega)]
        simp
      have hp : [13, 10, 13, 10] <+: l.drop i := by
        unfold Lib.occAt at ho
        rwa [List.isPrefixOf_iff_prefix] at ho
      obtain ⟨q, hq⟩ := hp
      rw [hN]
      refine .inr ⟨by omega, ?_, .inr ⟨by omega, ?_⟩, ?_⟩
      · rw [show i + 4 - 2 = i + 2 by omega, ← List.drop_drop, ← hq]
        rfl
      · rw [show i + 4 - 4 = i by omega, ← hq]
        rfl
      · have hx : Lib.index (l.take (i + 4)) [13, 10, 13, 10] = i := Lib.index_first (by simp; omega) (by rw [occ_take (by simp)]; exact ho) (fun j hj => by rw [occ_take (by simp; omega)]; exact hn j hj)
        unfold headN
        rw [crHead_take l _ (by omega), hc, hx, if_neg (by simp), if_neg (by omega)]
        simp
end Go.Proofs.Ytjleadlecdcdeaa
