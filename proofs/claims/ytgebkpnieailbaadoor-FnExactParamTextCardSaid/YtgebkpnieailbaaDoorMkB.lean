/-
  Texts made of lists of bytes; how long several are together; plain.
-/
import Derived.Test.YtgebkpnieailbaaDoorRows
import Derived.WalkKit
import Derived.Lib.Strings
namespace Go.Proofs.YtgebkpnieailbaaDoor
set_option linter.unusedVariables false
open Go.RowKit

def mkB (l : List UInt8) : ByteArray := ⟨l.toArray⟩
theorem mkB_list (l : List UInt8) : (mkB l).data.toList = l := rfl
theorem mkB_size (l : List UInt8) : (mkB l).size = l.length := by simp [mkB, ByteArray.size]
theorem mkB_extract (s : ByteArray) (a b : Nat) : s.extract a b = mkB ((s.data.toList.drop a).take (b - a)) := Lib.extract_eq s a b

/-- How long all is together. -/
def total (l : List (List UInt8)) : Nat := (l.map List.length).foldr (· + ·) 0
theorem total_cons (a : List UInt8) (l : List (List UInt8)) : total (a :: l) = a.length + total l := rfl
theorem total_append (a b : List (List UInt8)) : total (a ++ b) = total a + total b := by
  induction a with
  | nil => simp [total]
  | cons x r ih => rw [List.cons_append, total_cons, total_cons, ih]; omega
theorem total_mem {l : List (List UInt8)} {x : List UInt8} (h : x ∈ l) : x.length ≤ total l := by
  induction l with
  | nil => cases h
  | cons a r ih =>
    rw [total_cons]
    rcases List.mem_cons.1 h with rfl | h
    · omega
    · have := ih h; omega
theorem total_set : ∀ (l : List (List UInt8)) (i : Nat) (x : List UInt8), i < l.length → total (l.set i (l.getD i [] ++ x)) = total l + x.length
  | [], _, _, h => by simp at h
  | a :: r, 0, x, _ => by simp [total_cons]; omega
  | a :: r, i + 1, x, h => by
    have := total_set r i x (by simpa using h)
    simp only [List.set_cons_succ, List.getD_cons_succ, total_cons, this]
    omega
end Go.Proofs.YtgebkpnieailbaaDoor
