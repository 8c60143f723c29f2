/-
  The numbers behind the draws: from every number, each number comes in less than 2^64 + 1 steps.
-/
import Derived.Test.YtdgdflbhjbgmdaaDrawB
namespace Go.Proofs.Ytdgdflbhjbgmdaa
set_option linter.unusedVariables false
open Go.RowKit

namespace Lcg
/-- The multiplier less one, a quarter of it. -/
def m4 : Int := 1591034055961698251
def A : Int := 4 * m4 + 1
def C : Int := 1442695040888963407
def S : Nat → Int
  | 0 => 0
  | n + 1 => A * S n + 1
def gIt (x : Int) : Nat → Int
  | 0 => x
  | n + 1 => A * gIt x n + C

theorem gIt_eq (x : Int) (n : Nat) : gIt x n = x + S n * (4 * m4 * x + C) := by
  induction n with
  | zero => simp [gIt, S]
  | succ n ih =>
    rw [gIt, ih, S]
    unfold A
    grind

/-- The powers, told by S: A^n = 1 + 4 m4 S n. -/
theorem S_add (a b : Nat) : S (a + b) = S a + (1 + 4 * m4 * S a) * S b := by
  induction b with
  | zero => simp [S]
  | succ b ih =>
    rw [← Nat.add_assoc, S, ih, S]
    unfold A
    grind

theorem S_pow (k : Nat) : ∃ q : Int, S (2 ^ k) = 2 ^ k * (2 * q + 1) := by
  induction k with
  | zero => exact ⟨0, by simp [S, A]⟩
  | succ k ih =>
    obtain ⟨q, hq⟩ := ih
    have e : (2 : Nat) ^ (k + 1) = 2 ^ k + 2 ^ k := by omega
    have e' : (2 : Int) ^ (k + 1) = 2 * 2 ^ k := by rw [Int.pow_succ]; omega
    rw [e, S_add, e']
    generalize hs : S (2 ^ k) = s at hq
    generalize (2 : Int) ^ k = p at hq
    refine ⟨q + m4 * s * (2 * q + 1), ?_⟩
    rw [hq]
    grind

/-- Multiples of an odd number by S meet every number, up to a power of two. -/
theorem S_all (u y : Int) (hu : ∃ a, u = 2 * a + 1) : ∀ k : Nat, ∃ n : Nat, n < 2 ^ k ∧ ∃ t : Int, S n * u - y = 2 ^ k * t := by
  obtain ⟨a, ha⟩ := hu
  intro k
  induction k with
  | zero => exact ⟨0, by decide, S 0 * u - y, by simp⟩
  | succ k ih =>
    obtain ⟨n, hn, t, ht⟩ := ih
    have e : (2 : Nat) ^ (k + 1) = 2 ^ k + 2 ^ k := by omega
    have e' : (2 : Int) ^ (k + 1) = 2 * 2 ^ k := by rw [Int.pow_succ]; omega
    rcases Int.emod_two_eq t with h | h
    · exact ⟨n, by omega, t / 2, by rw [ht, e']; have : t = 2 * (t / 2) := by omega
                                    generalize (2 : Int) ^ k = p
                                    generalize t / 2 = r at this
                                    subst this; grind⟩
    · obtain ⟨q, hq⟩ := S_pow k
      refine ⟨n + 2 ^ k, by omega, ?_⟩
      have ht2 : t = 2 * (t / 2) + 1 := by omega
      generalize t / 2 = r at ht2
      rw [S_add, hq, e']
      generalize S n = s at ht
      generalize (2 : Int) ^ k = p at ht
      subst ht2
      subst ha
      refine ⟨r + q + a + 2 * q * a + 1 + 2 * m4 * s * (2 * q + 1) * (2 * a + 1), ?_⟩
      have : y = s * (2 * a + 1) - p * (2 * r + 1) := by omega
      subst this
      grind
end Lcg

theorem nextH_eq (h : Int) : ∃ q : Int, nextH h = Lcg.A * h + Lcg.C - 18446744073709551616 * q := by
  unfold nextH wrap64 Lcg.A Lcg.C Lcg.m4
  refine ⟨?_, ?_⟩
  · exact (h * 6364136223846793005 + 9223372036854775808) / 18446744073709551616 + ((h * 6364136223846793005 + 9223372036854775808) % 18446744073709551616 - 9223372036854775808 + 1442695040888963407 + 9223372036854775808) / 18446744073709551616
  · omega
theorem nextH_range (h : Int) : -9223372036854775808 ≤ nextH h ∧ nextH h < 9223372036854775808 := by
  unfold nextH wrap64
  omega
def nextN (h : Int) : Nat → Int
  | 0 => h
  | n + 1 => nextH (nextN h n)
theorem nextN_in (h : Int) (n : Nat) : nextN (nextH h) n = nextN h (n + 1) := by
  induction n with
  | zero => rfl
  | succ n ih => rw [nextN, ih]; rfl
theorem nextN_git (h : Int) (n : Nat) : ∃ q : Int, nextN h n = Lcg.gIt h n - 18446744073709551616 * q := by
  induction n with
  | zero => exact ⟨0, by simp [nextN, Lcg.gIt]⟩
  | succ n ih =>
    obtain ⟨q, hq⟩ := ih
    obtain ⟨r, hr⟩ := nextH_eq (nextN h n)
    rw [nextN, hr, hq, Lcg.gIt]
    generalize Lcg.gIt h n = x
    generalize Lcg.A = a
    refine ⟨a * q + r, ?_⟩
    grind

/-- From every number each other comes. -/
theorem nextN_comes (h t : Int) (ht : -9223372036854775808 ≤ t ∧ t < 9223372036854775808) : ∃ n : Nat, n ≤ 18446744073709551616 ∧ nextN h n = t := by
  obtain ⟨n, hn, r, hr⟩ := Lcg.S_all (4 * Lcg.m4 * nextH h + Lcg.C) (t - nextH h) ⟨2 * Lcg.m4 * nextH h + 721347520444481703, by unfold Lcg.C; generalize Lcg.m4 = m; generalize nextH h = z; grind⟩ 64
  refine ⟨n + 1, by have h2 : (2 : Nat) ^ 64 = 18446744073709551616 := by decide
                    omega, ?_⟩
  rw [← nextN_in]
  obtain ⟨q, hq⟩ := nextN_git (nextH h) n
  rw [Lcg.gIt_eq] at hq
  have hrange : -9223372036854775808 ≤ nextN (nextH h) n ∧ nextN (nextH h) n < 9223372036854775808 := by
    cases n with
    | zero => exact nextH_range h
    | succ n => exact nextH_range _
  generalize Lcg.S n * (4 * Lcg.m4 * nextH h + Lcg.C) = z at hr hq
  have e : (2 : Int) ^ 64 = 18446744073709551616 := by decide
  rw [e] at hr
  omega
end Go.Proofs.Ytdgdflbhjbgmdaa
