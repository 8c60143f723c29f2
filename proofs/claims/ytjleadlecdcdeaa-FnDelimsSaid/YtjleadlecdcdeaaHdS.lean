/-
  HeadEnd: the walk of spec's.
-/
import Derived.Test.YtjleadlecdcdeaaHdP
import Derived.Test.YtjleadlecdcdeaaFindS
namespace Go.Proofs.Ytjleadlecdcdeaa
set_option linter.unusedVariables false
open Go.RowKit

theorem crHead_piece (s : ByteArray) : ((s.extract 0 2).toList == [13, 10]) = crHead s.data.toList := by
  rw [Lib.toList_data, Lib.extract_data]
  rfl

set_option maxRecDepth 100000 in
set_option maxHeartbeats 1000000 in
theorem specHead_any (s : ByteArray) (w : World) (hs : s.size ≤ 1048576) :
    Calls Try.prog 46 #[.string s] w fun e w' => e = .returned (.int .i64 (headN s.data.toList : Int)) ∧ w' = w := by
  have HF := Lib.hid (fun w => specFind_any s ⟨#[13, 10, 13, 10]⟩ w hs (by decide))
  have hpc := crHead_piece s
  obtain ⟨N, hN⟩ : ∃ N, headN s.data.toList = N := ⟨_, rfl⟩
  rw [hN]
  unfold headN at hN
  cases hc : crHead s.data.toList with
  | true =>
    rw [hc] at hpc hN
    have h2 := crHead_len _ hc
    have h1 : decide ((1 : Int) < (s.size : Int)) = true := by
      have : s.data.toList.length = s.size := by simp
      simp; omega
    have h3 : (2 : Int) ≤ (s.size : Int) := by
      have : s.data.toList.length = s.size := by simp
      omega
    obtain rfl : 2 = N := hN
    clear hc h2
    go_enter Try.func46, Try.ntmps46
    go_wp2_with fail
    go_ret
    exact ⟨rfl, rfl⟩
  | false =>
    rw [hc, if_neg (by simp)] at hN
    rw [hc] at hpc
    have HN := Lib.hid hN
    generalize hx : Lib.index s.data.toList [13, 10, 13, 10] = x at HF HN
    have hx2 : -1 ≤ x ∧ x ≤ (s.size : Int) := by
      have : s.data.toList.length = s.size := by simp
      rcases Lib.index_spec s.data.toList [13, 10, 13, 10] with ⟨h, _⟩ | ⟨i, h, hi, _⟩ <;> omega
    obtain ⟨hx3, hx4⟩ := hx2
    clear hN hx hc
    by_cases h1 : 1 < s.size
    · have g1 : decide ((1 : Int) < (s.size : Int)) = true := by simp; omega
      have h3 : (2 : Int) ≤ (s.size : Int) := by omega
      by_cases hneg : x < 0
      · have g2 : decide (x < 0) = true := by simpa using hneg
        have HM : Hid ((s.size : Int) = (N : Int)) := Lib.hid (by rw [← HN.out, if_pos hneg]; simp)
        clear hneg
        go_enter Try.func46, Try.ntmps46
        go_wp2_with (go_at_call 75; refine (HF.out _).mono ?_; rintro e w' ⟨rfl, rfl⟩)
        go_ret
        exact ⟨by rw [← HM.out] <;> rfl, rfl⟩
      · have g2 : decide (x < 0) = false := by simpa using hneg
        have HM : Hid (x + 4 = (N : Int)) := Lib.hid (by rw [← HN.out, if_neg hneg]; omega)
        have g3 : IntKind.i64.wrap (x + 4) = x + 4 := by rw [IntKind.wrap_i64]; omega
        clear hneg
        go_enter Try.func46, Try.ntmps46
        go_wp2_with (go_at_call 75; refine (HF.out _).mono ?_; rintro e w' ⟨rfl, rfl⟩)
        go_ret
        exact ⟨by rw [← HM.out] <;> rfl, rfl⟩
    · have g1 : decide ((1 : Int) < (s.size : Int)) = false := by simp; omega
      by_cases hneg : x < 0
      · have g2 : decide (x < 0) = true := by simpa using hneg
        have HM : Hid ((s.size : Int) = (N : Int)) := Lib.hid (by rw [← HN.out, if_pos hneg]; simp)
        clear hneg
        go_enter Try.func46, Try.ntmps46
        go_wp2_with (go_at_call 75; refine (HF.out _).mono ?_; rintro e w' ⟨rfl, rfl⟩)
        go_ret
        exact ⟨by rw [← HM.out] <;> rfl, rfl⟩
      · have g2 : decide (x < 0) = false := by simpa using hneg
        have HM : Hid (x + 4 = (N : Int)) := Lib.hid (by rw [← HN.out, if_neg hneg]; omega)
        have g3 : IntKind.i64.wrap (x + 4) = x + 4 := by rw [IntKind.wrap_i64]; omega
        clear hneg
        go_enter Try.func46, Try.ntmps46
        go_wp2_with (go_at_call 75; refine (HF.out _).mono ?_; rintro e w' ⟨rfl, rfl⟩)
        go_ret
        exact ⟨by rw [← HM.out] <;> rfl, rfl⟩
end Go.Proofs.Ytjleadlecdcdeaa
