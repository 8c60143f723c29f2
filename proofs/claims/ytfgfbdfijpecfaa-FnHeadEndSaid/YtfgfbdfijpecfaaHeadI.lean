/-
  HeadEnd: the walk of impl's.
-/
import Derived.Test.YtfgfbdfijpecfaaLawHe
import Derived.Test.YtfgfbdfijpecfaaFindI
namespace Go.Proofs.Ytfgfbdfijpecfaa
set_option linter.unusedVariables false
open Go.RowKit

theorem prefix_crHead (l : List UInt8) : Lib.hasPrefix l [13, 10] = crHead l := by
  unfold Lib.hasPrefix crHead
  rw [Bool.eq_iff_iff, beq_iff_eq]
  constructor
  · intro h
    have := List.isPrefixOf_iff_prefix.1 h
    exact (List.prefix_iff_eq_take.1 this).symm
  · intro h
    exact List.isPrefixOf_iff_prefix.2 (List.prefix_iff_eq_take.2 h.symm)

set_option maxRecDepth 100000 in
set_option maxHeartbeats 1000000 in
theorem implHead_is : HeadIs := by
  intro s w hML hs
  have HP := Lib.hid (fun w => Try.strings_HasPrefix s ⟨#[13, 10]⟩ w)
  have HF := Lib.hid (implFind_any s ⟨#[13, 10, 13, 10]⟩ w hML (by omega))
  rw [show (⟨#[13, 10]⟩ : ByteArray).data.toList = [13, 10] from rfl, prefix_crHead] at HP
  obtain ⟨N, hN⟩ : ∃ N, headN s.data.toList = N := ⟨_, rfl⟩
  rw [hN]
  unfold headN at hN
  cases hc : crHead s.data.toList with
  | true =>
    rw [hc] at HP hN
    obtain rfl : 2 = N := hN
    clear hc
    go_enter Try.func12, Try.ntmps12
    go_wp2_with (go_at_call 30; refine (HP.out _).mono ?_; rintro e w' ⟨rfl, rfl⟩)
    go_ret
    exact ⟨rfl, Below.refl _ _⟩
  | false =>
    rw [hc] at HP
    rw [hc, if_neg (by simp)] at hN
    have HN := Lib.hid hN
    rw [show (⟨#[13, 10, 13, 10]⟩ : ByteArray).data.toList = [13, 10, 13, 10] from rfl] at HF
    generalize hx : Lib.index s.data.toList [13, 10, 13, 10] = x at HF HN
    have hx2 : -1 ≤ x ∧ x ≤ (s.size : Int) := by
      have : s.data.toList.length = s.size := by simp
      rcases Lib.index_spec s.data.toList [13, 10, 13, 10] with ⟨h, _⟩ | ⟨i, h, hi, _⟩ <;> omega
    obtain ⟨hx3, hx4⟩ := hx2
    clear hN hx hc
    by_cases hneg : x < 0
    · have g2 : decide (x < 0) = true := by simpa using hneg
      have HM : Hid ((s.size : Int) = (N : Int)) := Lib.hid (by rw [← HN.out, if_pos hneg]; simp)
      clear hneg
      go_enter Try.func12, Try.ntmps12
      go_wp2_with (first | (go_at_call 30; refine (HP.out _).mono ?_; rintro e w' ⟨rfl, rfl⟩) | (go_at_call 31; refine HF.out.mono ?_; rintro e w' ⟨rfl, rfl⟩))
      go_ret
      exact ⟨by rw [← HM.out] <;> rfl, Below.refl _ _⟩
    · have g2 : decide (x < 0) = false := by simpa using hneg
      have HM : Hid (x + 4 = (N : Int)) := Lib.hid (by rw [← HN.out, if_neg hneg]; omega)
      have g3 : IntKind.i64.wrap (x + 4) = x + 4 := by rw [IntKind.wrap_i64]; omega
      clear hneg
      go_enter Try.func12, Try.ntmps12
      go_wp2_with (first | (go_at_call 30; refine (HP.out _).mono ?_; rintro e w' ⟨rfl, rfl⟩) | (go_at_call 31; refine HF.out.mono ?_; rintro e w' ⟨rfl, rfl⟩))
      go_ret
      exact ⟨by rw [← HM.out] <;> rfl, Below.refl _ _⟩
end Go.Proofs.Ytfgfbdfijpecfaa
