/-
  The walk of spec.DecText: the decimal numeral.
-/
import Derived.Test.YtgebkpnieailbaaDoorRows
import Derived.WalkKit
import Derived.WalkSpells
import Derived.Lib.Hide
import Derived.Lib.ItoaNum
import Derived.Lib.Strings
namespace Go.Proofs.YtgebkpnieailbaaDoor
set_option linter.unusedVariables false
open Go.RowKit

def digAll (u : Nat) (acc : List UInt8) : List UInt8 := if u = 0 then acc else Lib.decDigits u ++ acc
theorem digAll_step (u : Nat) (acc : List UInt8) (hu : 0 < u) : digAll u acc = digAll (u / 10) (UInt8.ofNat (48 + u % 10) :: acc) := by
  unfold digAll
  rw [if_neg (by omega)]
  by_cases h : u < 10
  · rw [if_pos (by omega), Lib.decDigits, dif_pos h, show u % 10 = u by omega]; rfl
  · rw [if_neg (by omega), Lib.decDigits, dif_neg h]; simp
def tenDig : ByteArray := ⟨#[48, 49, 50, 51, 52, 53, 54, 55, 56, 57]⟩
theorem tenDig_at (d : Nat) (h : d < 10) : tenDig.extract d (d + 1) = ⟨#[UInt8.ofNat (48 + d)]⟩ := by
  have : d = 0 ∨ d = 1 ∨ d = 2 ∨ d = 3 ∨ d = 4 ∨ d = 5 ∨ d = 6 ∨ d = 7 ∨ d = 8 ∨ d = 9 := by omega
  rcases this with rfl | rfl | rfl | rfl | rfl | rfl | rfl | rfl | rfl | rfl <;> rfl

set_option maxRecDepth 100000 in
set_option maxHeartbeats 1000000 in
theorem decText_pos (n : Nat) (w : World) (hn : n ≤ 9223372036854775807) (h0 : 0 < n) :
    Calls Tryd.prog 18 #[.int .i64 n] w fun e w' => e = .returned (.string ⟨(Lib.itoa n).toArray⟩) ∧ w' = w := by
  have HV : Hid (Lib.itoa n = digAll n []) := Lib.hid (by unfold Lib.itoa digAll; rw [if_neg (by omega), if_neg (by omega)]; simp)
  have hne : ((n : Int) == 0) = false := by rw [beq_eq_false_iff_ne]; omega
  have hten := tenDig_at
  unfold tenDig at hten
  have HTEN := Lib.hid hten
  clear hten
  go_enter Tryd.func18, Tryd.ntmps18
  go_wp2
  go_loop [3, 4] (fun o m => ∃ (u : Nat) (acc : List UInt8), acc.length + u ≤ n ∧ o = .string ⟨acc.toArray⟩ ∧ m = .int .i64 u ∧ Hid (digAll u acc = digAll n [])) (fun _ m => (intOf m).toNat)
  case atStart => exact ⟨n, [], by simp, rfl, rfl, Lib.hid rfl⟩
  case round =>
    obtain ⟨u, acc, hlen, rfl, rfl, hd⟩ := hrel
    by_cases hu : 0 < u
    · have hue : ((u : Int) == 0) = false := by rw [beq_eq_false_iff_ne]; omega
      have hut : ((u : Int) != 0) = true := by rw [bne, hue]; rfl
      have hstep := digAll_step u acc hu
      rw [hd.out] at hstep
      have HSTEP := Lib.hid hstep.symm
      clear hstep
      have hx := HTEN.out (u % 10) (by omega)
      have hr1 : ¬ ((u : Int) % 10 < 0) := by omega
      generalize UInt8.ofNat (48 + u % 10) = c at hx HSTEP
      go_wp2
      go_round
      case rel => exact ⟨u / 10, c :: acc, by simp; omega, by congr 1, by go_num, HSTEP⟩
      case measure => simp [intOf]; omega
    · obtain rfl : u = 0 := by omega
      have hn0 : ¬ (n : Int) < 0 := by omega
      have HA : Hid (acc = digAll n []) := Lib.hid (by rw [← hd.out]; rfl)
      go_wp2
      go_ret
      exact ⟨by rw [HV.out, ← HA.out]; rfl, rfl⟩

set_option maxRecDepth 100000 in
set_option maxHeartbeats 1000000 in
theorem decText_neg (n : Nat) (w : World) (hn : n ≤ 9223372036854775808) (h0 : 0 < n) :
    Calls Tryd.prog 18 #[.int .i64 (-(n : Int))] w fun e w' => e = .returned (.string ⟨(Lib.itoa (-(n : Int))).toArray⟩) ∧ w' = w := by
  have HV : Hid (Lib.itoa (-(n : Int)) = 45 :: digAll n []) := Lib.hid (by unfold Lib.itoa digAll; rw [if_pos (by omega), if_neg (by omega)]; simp)
  have hne : (-(n : Int) == 0) = false := by rw [beq_eq_false_iff_ne]; omega
  have hten := tenDig_at
  unfold tenDig at hten
  have HTEN := Lib.hid hten
  clear hten
  go_enter Tryd.func18, Tryd.ntmps18
  go_wp2
  go_loop [3, 4] (fun o m => ∃ (u : Nat) (acc : List UInt8), acc.length ≤ 5000000000000000000 ∧ (0 < u → 2 * acc.length + u ≤ n + 1) ∧ u ≤ n ∧ o = .string ⟨acc.toArray⟩ ∧ m = .int .i64 (-(u : Int)) ∧ Hid (digAll u acc = digAll n [])) (fun _ m => (-(intOf m)).toNat)
  case atStart => exact ⟨n, [], by simp, by simp, Nat.le_refl _, rfl, rfl, Lib.hid rfl⟩
  case round =>
    obtain ⟨u, acc, hl1, hl2, hun, rfl, rfl, hd⟩ := hrel
    by_cases hu : 0 < u
    · have hl3 := hl2 hu
      clear hl2
      have hue : (-(u : Int) == 0) = false := by rw [beq_eq_false_iff_ne]; omega
      have hut : (-(u : Int) != 0) = true := by rw [bne, hue]; rfl
      have hstep := digAll_step u acc hu
      rw [hd.out] at hstep
      have HSTEP := Lib.hid hstep.symm
      clear hstep
      have hx := HTEN.out (u % 10) (by omega)
      generalize UInt8.ofNat (48 + u % 10) = c at hx HSTEP
      have hmod : (-(u : Int)).tmod 10 = -((u : Int) % 10) := by rw [Int.neg_tmod, Int.tmod_eq_emod_of_nonneg (by omega)]
      have hdiv : (-(u : Int)).tdiv 10 = -((u : Int) / 10) := by rw [Int.neg_tdiv, Int.tdiv_eq_ediv_of_nonneg (by omega)]
      by_cases hz : 0 < u % 10
      · have hr1 : -((u : Int) % 10) < 0 := by omega
        go_wp2
        go_round
        case rel => exact ⟨u / 10, c :: acc, by simp; omega, fun _ => by simp; omega, by omega, by congr 1, by go_num, HSTEP⟩
        case measure => simp [intOf]; omega
      · have hz0 : (u : Int) % 10 = 0 := by omega
        have hz1 : u % 10 = 0 := by omega
        rw [hz0] at hmod
        rw [hz1] at hx
        simp only [Nat.zero_add] at hx
        clear hz0 hz1 hz
        go_wp2
        go_round
        case rel => exact ⟨u / 10, c :: acc, by simp; omega, fun _ => by simp; omega, by omega, by congr 1, by go_num, HSTEP⟩
        case measure => simp [intOf]; omega
    · obtain rfl : u = 0 := by omega
      have hn0 : -(n : Int) < 0 := by omega
      have HA : Hid (acc = digAll n []) := Lib.hid (by rw [← hd.out]; rfl)
      clear hl2
      go_wp2
      go_ret
      exact ⟨by rw [HV.out, ← HA.out]; rfl, rfl⟩

theorem decText_any (n : Int) (w : World) (h1 : -9223372036854775808 ≤ n) (h2 : n ≤ 9223372036854775807) :
    Calls Tryd.prog 18 #[.int .i64 n] w fun e w' => e = .returned (.string ⟨(Lib.itoa n).toArray⟩) ∧ w' = w := by
  rcases Int.lt_trichotomy n 0 with h | rfl | h
  · obtain ⟨k, rfl⟩ : ∃ k : Nat, n = -(k : Int) := ⟨n.natAbs, by omega⟩
    exact decText_neg k w (by omega) (by omega)
  · go_enter Tryd.func18, Tryd.ntmps18
    go_wp2
    go_ret
    exact ⟨by rw [show Lib.itoa 0 = [48] by simp [Lib.itoa, Lib.decDigits]]; rfl, rfl⟩
  · obtain ⟨k, rfl⟩ : ∃ k : Nat, n = (k : Int) := ⟨n.toNat, by omega⟩
    exact decText_pos k w (by omega) (by omega)
end Go.Proofs.YtgebkpnieailbaaDoor
