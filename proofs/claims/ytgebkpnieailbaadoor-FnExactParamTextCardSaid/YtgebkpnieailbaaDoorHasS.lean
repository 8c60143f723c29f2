/-
  Words: the walk of spec's l03Has.
-/
import Derived.Test.YtgebkpnieailbaaDoorByteA
import Derived.Lib.Hide
import Derived.Test.YtgebkpnieailbaaDoorIn
import Derived.Lib.Strings
namespace Go.Proofs.YtgebkpnieailbaaDoor
set_option linter.unusedVariables false
open Go.RowKit

theorem ne_byte {a b : UInt8} (h : a ≠ b) : ((a.toNat : Int) == (b.toNat : Int)) = false := by
  rw [beq_eq_false_iff_ne]
  intro e
  exact h (UInt8.toNat_inj.1 (by omega))

set_option maxHeartbeats 400000 in
theorem has_any (s : ByteArray) (b : UInt8) (w : World) (hs : s.size ≤ 1000000000) :
    Calls Tryd.prog 15 #[.string s, .int .u8 b.toNat] w fun e w' => e = .returned (.bool (hasL b s.data.toList)) ∧ w' = w := by
  generalize hH : hasL b s.data.toList = H
  have HH := Lib.hid hH
  clear hH
  go_enter Tryd.func15, Tryd.ntmps15
  go_wp2
  go_loopw [5] (fun i wr => ∃ k : Nat, k ≤ s.size ∧ i = .int .i64 (k : Int) ∧ Hid (hasL b (s.data.toList.take k) = false) ∧ wr = w) (fun i _ => s.size - (intOf i).toNat)
  case atStart => exact ⟨0, by omega, rfl, Lib.hid rfl, rfl⟩
  case round =>
    obtain ⟨k, hk, rfl, HN, rfl⟩ := hrel
    have hlen : s.data.toList.length = s.size := by simp
    by_cases hlt : k < s.size
    · by_cases he : s[k] = b
      · have t1 : ((s[k].toNat : Int) == (b.toNat : Int)) = true := by rw [he, beq_iff_eq]
        have HT : Hid (H = true) := Lib.hid (by rw [← HH.out]; exact has_true b _ k (by omega) (by rw [byte_at s k hlt, he]))
        clear he hlen
        go_wp2_with fail
        go_ret
        exact ⟨by rw [HT.out]; rfl, rfl⟩
      · have t1 := ne_byte he
        have HN2 : Hid (hasL b (s.data.toList.take (k + 1)) = false) := Lib.hid (by
          rw [hasL_take b _ k (by omega), HN.out, byte_at s k hlt]
          simpa using he)
        clear he hlen
        go_wp2_with fail
        go_roundw
        case rel => exact ⟨k + 1, by omega, by go_num, HN2, trivial⟩
        case measure => simp [intOf]; omega
    · have HF : Hid (H = false) := Lib.hid (by
        have := HN.out
        rw [List.take_of_length_le (by omega), HH.out] at this
        exact this)
      go_wp2_with fail
      go_ret
      exact ⟨by rw [HF.out]; rfl, rfl⟩
end Go.Proofs.YtgebkpnieailbaaDoor
