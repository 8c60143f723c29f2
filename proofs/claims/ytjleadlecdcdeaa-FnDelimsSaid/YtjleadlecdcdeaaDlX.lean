/-
  Delimiters: impl's Delims tells what the model's does.
-/
import Derived.Test.YtjleadlecdcdeaaDlW
import Derived.Test.YtjleadlecdcdeaaLawDx
namespace Go.Proofs.Ytjleadlecdcdeaa
set_option linter.unusedVariables false
open Go.RowKit

set_option maxRecDepth 100000 in
set_option maxHeartbeats 1000000 in
theorem implDelims_is : DelimsIs := by
  intro s a b mk w hM hs hmk ha hb
  have hsl : s.data.toList.length = s.size := by simp
  have hml : mk.data.toList.length = mk.size := by simp
  by_cases h1 : 0 ≤ a ∧ a ≤ b ∧ b ≤ (s.size : Int)
  · by_cases h2 : 1 ≤ mk.size
    · by_cases h3 : mk.size ≤ 70
      · obtain ⟨x, rfl⟩ := Int.eq_ofNat_of_zero_le h1.1
        obtain ⟨y, rfl⟩ := Int.eq_ofNat_of_zero_le (Int.le_trans h1.1 h1.2.1)
        obtain ⟨full, hf⟩ := pcs_exists crlf (by decide) _ (s.extract x y) (Nat.le_refl _)
        have h := callsIn_wide.1 (delims_in s x y mk full hf hs (by omega) (by omega) h2 h3 w hM)
        rw [walkD_eq (st := x) (by omega) hf x (Nat.le_refl _) (by omega) (by rw [Lib.extract_data]; rfl) (by simp [mayBegin])] at h
        have e : delimsL s.data.toList (x : Int) (y : Int) mk.data.toList = delimsF s.data.toList x y mk.data.toList (y - x) x := by
          unfold delimsL
          rw [if_neg (by omega), Int.toNat_natCast, Int.toNat_natCast]
        rw [e]
        exact h
      · have e : delimsL s.data.toList a b mk.data.toList = [] := by
          unfold delimsL
          rw [if_pos (by omega)]
        rw [e]
        have IR := Lib.hid (fun w => isRange_any s a b w hs)
        rw [decide_eq_true h1] at IR
        have g1 : (mk.toList == []) = false := by
          rw [beq_eq_false_iff_ne]
          intro e
          rw [← Lib.toList_data, e] at hml
          simp at hml
          omega
        have g2 : decide ((70 : Int) < (mk.size : Int)) = true := by simp; omega
        have BB := Lib.hid (((Below.refl w.heap.size w).alloc (Nat.le_refl _) (.cells #[.string s] 9)).alloc (by simp) (.cells #[.int .i64 b] 3))
        clear hM h1 h2 h3 hsl hml e
        go_enter Try.func15, Try.ntmps15
        go_wp2_with (go_at_call 48; refine (IR.out _).mono ?_; rintro e w1 ⟨rfl, rfl⟩)
        go_ret
        exact ⟨_, rfl, World.ownsRow_nil _ _ _ _, BB.out⟩
    · have e : delimsL s.data.toList a b mk.data.toList = [] := by
        unfold delimsL
        rw [if_pos (by omega)]
      rw [e]
      have IR := Lib.hid (fun w => isRange_any s a b w hs)
      rw [decide_eq_true h1] at IR
      have g1 : (mk.toList == []) = true := by
        rw [beq_iff_eq, Lib.toList_data]
        exact List.eq_nil_of_length_eq_zero (by omega)
      have BB := Lib.hid (((Below.refl w.heap.size w).alloc (Nat.le_refl _) (.cells #[.string s] 9)).alloc (by simp) (.cells #[.int .i64 b] 3))
      clear hM h1 h2 hsl hml e
      go_enter Try.func15, Try.ntmps15
      go_wp2_with (go_at_call 48; refine (IR.out _).mono ?_; rintro e w1 ⟨rfl, rfl⟩)
      go_ret
      exact ⟨_, rfl, World.ownsRow_nil _ _ _ _, BB.out⟩
  · have e : delimsL s.data.toList a b mk.data.toList = [] := by
      unfold delimsL
      rw [if_pos (by omega)]
    rw [e]
    have IR := Lib.hid (fun w => isRange_any s a b w hs)
    rw [decide_eq_false h1] at IR
    have BB := Lib.hid (((Below.refl w.heap.size w).alloc (Nat.le_refl _) (.cells #[.string s] 9)).alloc (by simp) (.cells #[.int .i64 b] 3))
    clear hM h1 hsl hml e
    go_enter Try.func15, Try.ntmps15
    go_wp2_with (go_at_call 48; refine (IR.out _).mono ?_; rintro e w1 ⟨rfl, rfl⟩)
    go_ret
    exact ⟨_, rfl, World.ownsRow_nil _ _ _ _, BB.out⟩
end Go.Proofs.Ytjleadlecdcdeaa
