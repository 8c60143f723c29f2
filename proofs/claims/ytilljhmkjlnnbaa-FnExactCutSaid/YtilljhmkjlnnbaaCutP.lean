/-
  Cut: pieces of given sizes, plain.
-/
import Derived.Test.YtilljhmkjlnnbaaStrs
import Derived.Lib.Strings
namespace Go.Proofs.Ytilljhmkjlnnbaa
set_option linter.unusedVariables false
open Go.RowKit

/-- How many bytes a piece has. -/
def cutN (n : Int) (size : Nat) : Nat := if n < 0 then 0 else if (size : Int) < n then size else n.toNat
theorem cutN_le (n : Int) (size : Nat) : cutN n size ≤ size := by
  unfold cutN
  split
  · omega
  · split <;> omega
def cutL (s : ByteArray) : List Int → List ByteArray
  | [] => if s.size = 0 then [] else [s]
  | n :: r => if s.size = 0 then [] else s.extract 0 (cutN n s.size) :: cutL (s.extract (cutN n s.size) s.size) r
theorem cutL_empty (s : ByteArray) (l : List Int) (h : s.size = 0) : cutL s l = [] := by
  cases l with
  | nil => rw [cutL, if_pos h]
  | cons n r => rw [cutL, if_pos h]
theorem cutL_len : ∀ (l : List Int) (s : ByteArray), (cutL s l).length ≤ l.length + 1
  | [], s => by
    rw [cutL]
    split <;> simp
  | n :: r, s => by
    rw [cutL]
    split
    · simp
    · have := cutL_len r (s.extract (cutN n s.size) s.size)
      simp only [List.length_cons]
      omega
theorem cutL_all : ∀ (l : List Int) (s : ByteArray), (cutL s l).flatMap (fun x => x.data.toList) = s.data.toList
  | [], s => by
    rw [cutL]
    split
    · rename_i h
      exact (List.eq_nil_of_length_eq_zero (by simpa using h)).symm
    · simp
  | n :: r, s => by
    rw [cutL]
    split
    · rename_i h
      exact (List.eq_nil_of_length_eq_zero (by simpa using h)).symm
    · have hle := cutN_le n s.size
      have hlen : s.data.toList.length = s.size := by simp
      rw [List.flatMap_cons, cutL_all r, Lib.extract_data, Lib.extract_data, List.drop_zero, Nat.sub_zero, List.take_of_length_le (l := s.data.toList.drop _) (by simp)]
      exact List.take_append_drop _ _
theorem cutL_size : ∀ (l : List Int) (s : ByteArray), ∀ x ∈ cutL s l, x.size ≤ s.size
  | [], s, x, hx => by
    rw [cutL] at hx
    split at hx
    · cases hx
    · rw [List.mem_singleton.1 hx]
      exact Nat.le_refl _
  | n :: r, s, x, hx => by
    rw [cutL] at hx
    split at hx
    · cases hx
    · rcases List.mem_cons.1 hx with rfl | hx
      · rw [ByteArray.size_extract]
        omega
      · have := cutL_size r _ x hx
        rw [ByteArray.size_extract] at this
        omega
end Go.Proofs.Ytilljhmkjlnnbaa
