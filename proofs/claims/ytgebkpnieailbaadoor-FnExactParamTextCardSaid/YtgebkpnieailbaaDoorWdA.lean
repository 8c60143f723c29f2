/-
  Words: the walk of spec's l03Plain.
-/
import Derived.Test.YtgebkpnieailbaaDoorPsP
import Derived.Test.YtgebkpnieailbaaDoorHasS
namespace Go.Proofs.YtgebkpnieailbaaDoor
set_option linter.unusedVariables false
open Go.RowKit

set_option maxHeartbeats 400000 in
theorem plain_any (s : ByteArray) (w : World) (hs : s.size ≤ 1000000000) :
    Calls Tryd.prog 16 #[.string s] w fun e w' => e = .returned (.bool (plainAll s.data.toList)) ∧ w' = w := by
  generalize hH : plainAll s.data.toList = H
  have HH := Lib.hid hH
  clear hH
  go_enter Tryd.func16, Tryd.ntmps16
  go_wp2
  go_loopw [3] (fun i wr => ∃ k : Nat, k ≤ s.size ∧ i = .int .i64 (k : Int) ∧ Hid ((s.data.toList.take k).all plainB = true) ∧ wr = w) (fun i _ => s.size - (intOf i).toNat)
  case atStart => exact ⟨0, by omega, rfl, Lib.hid rfl, rfl⟩
  case round =>
    obtain ⟨k, hk, rfl, HN, rfl⟩ := hrel
    have hlen : s.data.toList.length = s.size := by simp
    by_cases hlt : k < s.size
    · have hx : s[k].toNat < 256 := UInt8.toNat_lt _
      by_cases hin : 32 ≤ s[k].toNat ∧ s[k].toNat ≤ 126
      · have HN2 : Hid ((s.data.toList.take (k + 1)).all plainB = true) := Lib.hid (by
          rw [all_take plainB _ k (by omega), HN.out, byte_at s k hlt]
          unfold plainB
          rw [decide_eq_true hin]
          rfl)
        have IN := Lib.hid (fun w => in_yes (s[k].toNat : Int) 32 126 w (by omega) (by omega))
        clear hin hlen
        go_wp2_with fail
        refine (IN.out _).mono ?_
        rintro e w1 ⟨rfl, rfl⟩
        go_wp2_with fail
        go_roundw
        case rel => exact ⟨k + 1, by omega, by go_num, HN2, trivial⟩
        case measure => simp [intOf]; omega
      · have HT : Hid (H = false) := Lib.hid (by
          rw [← HH.out]
          refine all_false plainB _ k (by omega) ?_
          rw [byte_at s k hlt]
          unfold plainB
          rw [decide_eq_false hin])
        have IN := Lib.hid (fun w => in_no (s[k].toNat : Int) 32 126 w (by omega))
        clear hin hlen
        go_wp2_with fail
        refine (IN.out _).mono ?_
        rintro e w1 ⟨rfl, rfl⟩
        go_wp2_with fail
        go_ret
        exact ⟨by rw [HT.out]; rfl, rfl⟩
    · have HF : Hid (H = true) := Lib.hid (by
        have hall := HN.out
        rw [List.take_of_length_le (by omega)] at hall
        rw [← HH.out]
        exact hall)
      go_wp2_with fail
      go_ret
      exact ⟨by rw [HF.out]; rfl, rfl⟩
end Go.Proofs.YtgebkpnieailbaaDoor
