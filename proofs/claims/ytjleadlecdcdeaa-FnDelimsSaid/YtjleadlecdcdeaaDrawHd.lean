/-
  The draws of heads: l05Head.
-/
import Derived.Test.YtjleadlecdcdeaaStrCur
namespace Go.Proofs.Ytjleadlecdcdeaa
set_option linter.unusedVariables false
open Go.RowKit

set_option maxRecDepth 100000 in
set_option maxHeartbeats 2000000 in
theorem head5_any {K : Code} {w0 w : World} {g i : Nat} {h : Int} (c : Cur K w0 w g i h) :
    Calls Try.prog 67 #[.pointer (some ⟨g, 0, none⟩)] w (DrawnStr K w0 g 500 w) := by
  have C := Lib.hid c
  clear c
  go_enter Try.func67, Try.ntmps67
  go_wp2_with fail
  refine (below_any C.out 7 (by decide) (by decide)).mono ?_
  rintro e w1 ⟨n0, i1, h1, rfl, hn0, hn1, hc1, hg1, _⟩
  obtain ⟨n, rfl⟩ := Int.eq_ofNat_of_zero_le hn0
  have hn7 : n ≤ 6 := by omega
  have C1 := Lib.hid hc1
  have G1 := Lib.hid hg1
  clear hc1 hg1 hn0 hn1
  go_wp2_with fail
  go_loopw [3, 5] (fun v j wr => ∃ k : Nat, k ≤ n ∧ j = .int .i64 (k : Int) ∧ Hid (StrCur K w0 w g (62 * k) v wr)) (fun _ j _ => n - (intOf j).toNat)
  case atStart => exact ⟨0, Nat.zero_le _, rfl, Lib.hid ⟨⟨#[]⟩, i1, h1, rfl, Nat.zero_le _, C1.out, G1.out⟩⟩
  case round =>
    obtain ⟨k, hk, rfl, HS⟩ := hrel
    obtain ⟨s, i2, h2, rfl, hs, hc2, hg2⟩ := HS.out
    have C2 := Lib.hid hc2
    have G2 := Lib.hid hg2
    clear hc2 hg2 HS
    by_cases hlt : k < n
    · have g1 : decide ((k : Int) < (n : Int)) = true := by simp; omega
      go_wp2_with fail
      refine (pick_lit C2.out 60 (by decide) (by rfl) (by decide) (by decide)).mono ?_
      rintro e w3 ⟨t, i3, h3, rfl, ht, hc3, hg3⟩
      have HS3 : Hid (StrCur K w0 w g (62 * (k + 1)) (.string (s ++ t ++ ⟨#[13, 10]⟩)) w3) := Lib.hid ⟨_, i3, h3, rfl, by rw [ByteArray.size_append, ByteArray.size_append]; have hcr : (⟨#[13, 10]⟩ : ByteArray).size = 2 := rfl; omega, hc3, grownBy_trans G2.out hg3⟩
      have q1 : ¬ 9223372036854775807 < s.size + t.size := by omega
      have q2 : ¬ 9223372036854775807 < s.size + t.size + 2 := by omega
      clear hc3 hg3
      go_wp2_with fail
      go_roundw
      case rel => exact ⟨k + 1, by omega, by go_num, HS3⟩
      case measure => simp [intOf]; omega
    · obtain rfl : k = n := by omega
      have g1 : decide ((k : Int) < (k : Int)) = false := by simp
      go_wp2_with fail
      go_ret
      exact ⟨s, i2, h2, rfl, by omega, C2.out, G2.out⟩
end Go.Proofs.Ytjleadlecdcdeaa
