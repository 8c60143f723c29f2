/-
  The draws of frames: l04Bytes.
-/
import Derived.Test.YtilljhmkjlnnbaaPickA
namespace Go.Proofs.Ytilljhmkjlnnbaa
set_option linter.unusedVariables false
open Go.RowKit

/-- Between two rounds: a text of at most m bytes, and the cursor. -/
def StrCur (K : Code) (w0 w : World) (g m : Nat) (v : Value) (wr : World) : Prop :=
  ∃ (s : ByteArray) (i : Nat) (h : Int), v = .string s ∧ s.size ≤ m ∧ Cur K w0 wr g i h ∧ w.grownBy wr (some g)

set_option maxRecDepth 100000 in
set_option maxHeartbeats 2000000 in
theorem bytes4_any {K : Code} {w0 w : World} {g i : Nat} {h : Int} (c : Cur K w0 w g i h) :
    Calls Try.prog 23 #[.pointer (some ⟨g, 0, none⟩)] w (DrawnStr K w0 g 1500 w) := by
  have C := Lib.hid c
  clear c
  go_enter Try.func23, Try.ntmps23
  go_wp2_with fail
  refine (below_any C.out 8 (by decide) (by decide)).mono ?_
  rintro e w1 ⟨n0, i1, h1, rfl, hn0, hn1, hc1, hg1, _⟩
  obtain ⟨n, rfl⟩ := Int.eq_ofNat_of_zero_le hn0
  have hn7 : n ≤ 7 := by omega
  have C1 := Lib.hid hc1
  have G1 := Lib.hid hg1
  clear hc1 hg1 hn0 hn1
  go_wp2_with fail
  go_loopw [3, 5] (fun v j wr => ∃ k : Nat, k ≤ n ∧ j = .int .i64 (k : Int) ∧ Hid (StrCur K w0 w g (40 * k) v wr)) (fun _ j _ => n - (intOf j).toNat)
  case atStart => exact ⟨0, Nat.zero_le _, rfl, Lib.hid ⟨⟨#[]⟩, i1, h1, rfl, Nat.zero_le _, C1.out, G1.out⟩⟩
  case round =>
    obtain ⟨k, hk, rfl, HS⟩ := hrel
    obtain ⟨s, i2, h2, rfl, hs, hc2, hg2⟩ := HS.out
    have C2 := Lib.hid hc2
    have G2 := Lib.hid hg2
    clear hc2 hg2 HS
    by_cases hlt : k < n
    · have g1 : decide ((k : Int) < (n : Int)) = true := by simp; omega
      go_wp2_with fail
      refine (pick_lit C2.out 40 (by decide) (by rfl) (by decide) (by decide)).mono ?_
      rintro e w3 ⟨t, i3, h3, rfl, ht, hc3, hg3⟩
      have HS3 : Hid (StrCur K w0 w g (40 * (k + 1)) (.string (s ++ t)) w3) := Lib.hid ⟨_, i3, h3, rfl, by rw [ByteArray.size_append]; omega, hc3, grownBy_trans G2.out hg3⟩
      have q1 : ¬ 9223372036854775807 < s.size + t.size := by omega
      clear hc3 hg3
      go_wp2_with fail
      go_roundw
      case rel => exact ⟨k + 1, by omega, by go_num, HS3⟩
      case measure => simp [intOf]; omega
    · obtain rfl : k = n := by omega
      have g1 : decide ((k : Int) < (k : Int)) = false := by simp
      go_wp2_with fail
      refine (once_any C2.out 8 (by decide) (by decide)).mono ?_
      rintro e w4 ⟨o4, i4, h4, rfl, hc4, hg4⟩
      have C4 := Lib.hid hc4
      have G4 := Lib.hid (grownBy_trans G2.out hg4)
      clear hc4 hg4
      cases o4 with
      | false =>
        go_wp2_with fail
        go_ret
        exact ⟨s, i4, h4, rfl, by omega, C4.out, G4.out⟩
      | true =>
        go_wp2_with fail
        obtain ⟨A, hAe⟩ : ∃ A : ByteArray, A = ⟨(List.append [48, 49, 50, 51, 52, 53, 54, 55, 56, 57, 48, 49, 50, 51, 52, 53, 54, 55, 56, 57, 48, 49, 50, 51, 52, 53, 54, 55, 56, 57, 48, 49, 50, 51, 52, 53, 54, 55, 56, 57, 48, 49, 50, 51, 52, 53, 54, 55, 56, 57] [48, 49, 50, 51, 52, 53, 54, 55, 56, 57, 48, 49, 50, 51, 52, 53, 54, 55, 56, 57, 48, 49, 50, 51, 52, 53, 54, 55, 56, 57, 48, 49, 50, 51, 52, 53, 54, 55, 56, 57, 48, 49, 50, 51, 52, 53, 54, 55, 56, 57]).toArray⟩ := ⟨_, rfl⟩
        have hA : A.size ≤ 100 := by rw [hAe]; decide
        rw [← hAe]
        clear hAe
        go_loopw [3, 7] (fun v j wr => ∃ m : Nat, m ≤ 10 ∧ j = .int .i64 (m : Int) ∧ Hid (StrCur K w0 w g (280 + 100 * m) v wr)) (fun _ j _ => 10 - (intOf j).toNat)
        case atStart => exact ⟨0, Nat.zero_le _, rfl, Lib.hid ⟨s, i4, h4, rfl, by omega, C4.out, G4.out⟩⟩
        case round =>
          obtain ⟨m, hm, rfl, HS⟩ := hrel
          obtain ⟨s, i5, h5, rfl, hs, hc5, hg5⟩ := HS.out
          have C5 := Lib.hid hc5
          have G5 := Lib.hid hg5
          clear hc5 hg5 HS
          by_cases hlt : m < 10
          · have g1 : decide ((m : Int) < 10) = true := by simp; omega
            have q1 : ¬ 9223372036854775807 < s.size + A.size := by omega
            have HS3 : Hid (StrCur K w0 w g (280 + 100 * (m + 1)) (.string (s ++ A)) wr) := Lib.hid ⟨_, i5, h5, rfl, by rw [ByteArray.size_append]; omega, C5.out, G5.out⟩
            go_wp2_with fail
            go_roundw
            case rel => exact ⟨m + 1, by omega, by go_num, HS3⟩
            case measure => simp [intOf]; omega
          · have g1 : decide ((m : Int) < 10) = false := by simp; omega
            go_wp2_with fail
            refine (pick_lit C5.out 20 (by decide) (by rfl) (by decide) (by decide)).mono ?_
            rintro e w6 ⟨t, i6, h6, rfl, ht, hc6, hg6⟩
            have C6 := Lib.hid hc6
            have G6 := Lib.hid (grownBy_trans G5.out hg6)
            have q1 : ¬ 9223372036854775807 < s.size + t.size := by omega
            clear hc6 hg6
            go_wp2_with fail
            go_ret
            exact ⟨s ++ t, i6, h6, rfl, by rw [ByteArray.size_append]; omega, C6.out, G6.out⟩
end Go.Proofs.Ytilljhmkjlnnbaa
