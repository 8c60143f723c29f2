/-
  The walk of spec.Find.
-/
import Derived.Test.YtjleadlecdcdeaaFindP
namespace Go.Proofs.Ytjleadlecdcdeaa
set_option linter.unusedVariables false
open Go.RowKit

set_option maxHeartbeats 400000 in
theorem specFind_any (s t : ByteArray) (w : World) (hs : s.size ≤ 1048576) (ht : t.size ≤ 1048576) :
    Calls Try.prog 75 #[.string s, .string t] w fun e w' => e = .returned (.int .i64 (Lib.index s.data.toList t.data.toList)) ∧ w' = w := by
  go_enter Try.func75, Try.ntmps75
  go_wp2
  go_loop [5] (fun i => ∃ k : Nat, k ≤ s.size + 1 ∧ i = .int .i64 k ∧ Hid (∀ j, j < k → Lib.occAt s.data.toList t.data.toList j = false)) (fun i => s.size + 1 - (intOf i).toNat)
  case atStart => exact ⟨0, Nat.zero_le _, rfl, Lib.hid (fun j hj => by omega)⟩
  case round =>
    obtain ⟨k, hk, rfl, hno⟩ := hrel
    by_cases hle : k + t.size ≤ s.size
    · cases hoc : Lib.occAt s.data.toList t.data.toList k
      · have hq : ((s.extract k (k + t.size)).toList == t.toList) = false := by rw [← occ_piece s t k hle]; exact hoc
        have Hoc := Lib.hid hoc
        clear hoc
        go_wp2
        go_round
        case rel => exact ⟨k + 1, by omega, by go_num, Lib.hid (fun j hj => by
          rcases Nat.lt_or_ge j k with h1 | h1
          · exact hno.out j h1
          · obtain rfl : j = k := by omega
            exact Hoc.out)⟩
        case measure => simp [intOf]; omega
      · have hq : ((s.extract k (k + t.size)).toList == t.toList) = true := by rw [← occ_piece s t k hle]; exact hoc
        have Hx := Lib.hid (Lib.index_first (s := s.data.toList) (sub := t.data.toList) (i := k) (by simp; omega) hoc hno.out)
        clear hoc
        go_wp2
        go_ret
        exact ⟨by rw [Hx.out]; rfl, rfl⟩
    · have Hx := Lib.hid (Lib.index_none (s := s.data.toList) (sub := t.data.toList) (fun j hj => by
        rcases Nat.lt_or_ge j k with h1 | h1
        · exact hno.out j h1
        · exact no_room s t j (by omega) (by simpa using hj)))
      go_wp2
      go_ret
      exact ⟨by rw [Hx.out]; rfl, rfl⟩
end Go.Proofs.Ytjleadlecdcdeaa
