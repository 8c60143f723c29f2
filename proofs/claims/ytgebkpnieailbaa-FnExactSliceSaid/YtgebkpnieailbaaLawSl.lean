/-
  A stretch of a text: Slice of both, and its exact law.
-/
import Derived.Test.YtgebkpnieailbaaIsR
import Derived.Below
namespace Go.Proofs.Ytgebkpnieailbaa
set_option linter.unusedVariables false
open Go.RowKit

def sliceA (s : ByteArray) (a b : Int) : ByteArray := if 0 ≤ a ∧ a ≤ b ∧ b ≤ (s.size : Int) then s.extract a.toNat b.toNat else ⟨#[]⟩

set_option maxHeartbeats 400000 in
theorem implSlice_any (s : ByteArray) (a b : Int) (w : World) (hs : s.size ≤ 1048576) :
    Calls Try.prog 20 #[.string s, .int .i64 a, .int .i64 b] w fun e w' => e = .returned (.string (sliceA s a b)) ∧ Below w.heap.size w w' := by
  have IR := Lib.hid (fun w => isRange_any s a b w hs)
  unfold sliceA
  by_cases h : 0 ≤ a ∧ a ≤ b ∧ b ≤ (s.size : Int)
  · rw [if_pos h]
    rw [decide_eq_true h] at IR
    obtain ⟨h1, h2, h3⟩ := h
    obtain ⟨k, rfl⟩ := Int.eq_ofNat_of_zero_le h1
    obtain ⟨m, rfl⟩ := Int.eq_ofNat_of_zero_le (Int.le_trans h1 h2)
    have g2 : k ≤ m := by omega
    have g3 : m ≤ s.size := by omega
    go_enter Try.func20, Try.ntmps20
    go_wp2_with (go_at_call 42; refine (IR.out _).mono ?_; rintro e w1 ⟨rfl, rfl⟩)
    go_ret
    exact ⟨rfl, Below.refl _ _⟩
  · rw [if_neg h]
    rw [decide_eq_false h] at IR
    clear h
    go_enter Try.func20, Try.ntmps20
    go_wp2_with (go_at_call 42; refine (IR.out _).mono ?_; rintro e w1 ⟨rfl, rfl⟩)
    go_ret
    exact ⟨rfl, Below.refl _ _⟩

set_option maxHeartbeats 400000 in
theorem specSlice_any (s : ByteArray) (a b : Int) (w : World) (hs : s.size ≤ 1048576) :
    Calls Try.prog 19 #[.string s, .int .i64 a, .int .i64 b] w fun e w' => e = .returned (.string (sliceA s a b)) ∧ Below w.heap.size w w' := by
  unfold sliceA
  by_cases h1 : a < 0
  · rw [if_neg (by omega)]
    go_enter Try.func19, Try.ntmps19
    go_wp2_with fail
    go_ret
    exact ⟨rfl, Below.refl _ _⟩
  · by_cases h2 : b < a
    · rw [if_neg (by omega)]
      go_enter Try.func19, Try.ntmps19
      go_wp2_with fail
      go_ret
      exact ⟨rfl, Below.refl _ _⟩
    · by_cases h3 : (s.size : Int) < b
      · rw [if_neg (by omega)]
        go_enter Try.func19, Try.ntmps19
        go_wp2_with fail
        go_ret
        exact ⟨rfl, Below.refl _ _⟩
      · rw [if_pos (by omega)]
        obtain ⟨k, rfl⟩ := Int.eq_ofNat_of_zero_le (show 0 ≤ a by omega)
        obtain ⟨m, rfl⟩ := Int.eq_ofNat_of_zero_le (show 0 ≤ b by omega)
        have g2 : k ≤ m := by omega
        have g3 : m ≤ s.size := by omega
        go_enter Try.func19, Try.ntmps19
        go_wp2_with fail
        go_ret
        exact ⟨rfl, Below.refl _ _⟩

set_option maxHeartbeats 400000 in
theorem exactSlice_walk (s : ByteArray) (a b : Int) (w : World) (hs : s.size ≤ maxLen) (ha : (Lit.int .i64 a).wf = true) (hb : (Lit.int .i64 b).wf = true) :
    Calls Try.prog 5 #[.string s, .int .i64 a, .int .i64 b] w fun e w' => e = .returned (.bool true) ∧ Below w.heap.size w w' := by
  unfold maxLen at hs
  clear ha hb
  by_cases h1 : s.size ≤ 1048576
  · have H1 := Lib.hid (fun w => specSlice_any s a b w h1)
    have H2 := Lib.hid (fun w => implSlice_any s a b w h1)
    generalize sliceA s a b = r at H1 H2
    go_enter Try.func5, Try.ntmps5
    go_wp2_with fail
    refine (H1.out _).mono ?_
    rintro e w1 ⟨rfl, hB1⟩
    go_wp2_with fail
    refine (H2.out _).mono ?_
    rintro e w2 ⟨rfl, hB2⟩
    have B2 := Lib.hid (hB1.trans (hB2.mono hB1.size))
    clear hB1 hB2
    go_wp2_with fail
    go_ret
    exact ⟨rfl, B2.out⟩
  · go_enter Try.func5, Try.ntmps5
    go_wp2
    go_ret
    exact ⟨rfl, Below.refl _ _⟩
end Go.Proofs.Ytgebkpnieailbaa
