/-
  Find: plain facts.
-/
import Derived.Test.YtjleadlecdcdeaaRows
import Derived.WalkKit
import Derived.WalkSpells
import Derived.Lib.Hide
import Derived.Lib.IndexMore
namespace Go.Proofs.Ytjleadlecdcdeaa
set_option linter.unusedVariables false
open Go.RowKit

theorem occ_piece (s t : ByteArray) (k : Nat) (h : k + t.size ≤ s.size) :
    Lib.occAt s.data.toList t.data.toList k = ((s.extract k (k + t.size)).toList == t.toList) := by
  rw [Lib.occAt_iff_take _ _ _ (by simpa using h), Lib.toList_data, Lib.toList_data, Lib.extract_data]
  have e : k + t.size - k = t.data.toList.length := by simp
  rw [e]

theorem no_room (s t : ByteArray) (k : Nat) (h : s.size < k + t.size) (hk : k ≤ s.size) : Lib.occAt s.data.toList t.data.toList k = false := by
  rw [← Bool.not_eq_true]
  intro hc
  rcases Lib.occAt_room hc with h1 | h1
  · simp at h1; omega
  · have : t.size = 0 := by
      have : t.data.toList.length = 0 := by rw [h1]; rfl
      simpa using this
    omega

end Go.Proofs.Ytjleadlecdcdeaa
