/-
  Words: plain facts of a cursor's skip and run.
-/
import Derived.Test.YtjleadlecdcdeaaByteA
import Derived.Lib.CutLaws
namespace Go.Proofs.Ytjleadlecdcdeaa
set_option linter.unusedVariables false
open Go.RowKit

theorem prefix_room {s m : ByteArray} {k : Nat} (hk : k ≤ s.size) (h : Lib.hasPrefix (s.extract k s.size).data.toList m.data.toList = true) : k + m.size ≤ s.size := by
  unfold Lib.hasPrefix at h
  have := (List.isPrefixOf_iff_prefix.1 h).length_le
  have e : (s.extract k s.size).data.toList.length = s.size - k := by
    have : (s.extract k s.size).size = s.size - k := by rw [ByteArray.size_extract]; omega
    rw [← this]; simp
  have e2 : m.data.toList.length = m.size := by simp
  omega

/-- Where a run of fitting bytes ends. -/
def runP (p : UInt8 → Bool) (l : List UInt8) : Nat → Nat → Nat
  | 0, k => k
  | n + 1, k => if k < l.length ∧ p (l.getD k 0) = true then runP p l n (k + 1) else k
theorem runP_end (p : UInt8 → Bool) (l : List UInt8) (n k : Nat) (h : ¬ (k < l.length ∧ p (l.getD k 0) = true)) : runP p l n k = k := by
  cases n with
  | zero => rfl
  | succ n => rw [runP, if_neg h]
theorem runP_ge (p : UInt8 → Bool) (l : List UInt8) : ∀ n k, k ≤ runP p l n k
  | 0, k => Nat.le_refl _
  | n + 1, k => by
    rw [runP]
    split
    · have := runP_ge p l n (k + 1)
      omega
    · exact Nat.le_refl _
theorem runP_le (p : UInt8 → Bool) (l : List UInt8) : ∀ n k, k ≤ l.length → runP p l n k ≤ l.length
  | 0, k, h => h
  | n + 1, k, h => by
    rw [runP]
    split
    · rename_i hh
      exact runP_le p l n (k + 1) (by omega)
    · exact h

end Go.Proofs.Ytjleadlecdcdeaa
