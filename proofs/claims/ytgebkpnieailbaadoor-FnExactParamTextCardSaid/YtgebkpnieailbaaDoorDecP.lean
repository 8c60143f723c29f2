/-
  Plain: decimal numerals read.
-/
import Derived.Test.YtgebkpnieailbaaDoorDecA
import Derived.Lib.AtoiAll
namespace Go.Proofs.YtgebkpnieailbaaDoor
set_option linter.unusedVariables false
open Go.RowKit

def isDig (c : UInt8) : Prop := 48 ≤ c.toNat ∧ c.toNat ≤ 57
def decStep (a : Nat) (c : UInt8) : Nat := a * 10 + (c.toNat - 48)
def decVal (acc : Nat) (l : List UInt8) : Nat := l.foldl decStep acc
theorem decVal_nil (acc : Nat) : decVal acc [] = acc := rfl
theorem decVal_cons (acc : Nat) (c : UInt8) (r : List UInt8) : decVal acc (c :: r) = decVal (decStep acc c) r := by simp only [decVal, List.foldl_cons]
theorem val_snoc (c : UInt8) (l : List UInt8) (acc : Nat) : decVal acc (l ++ [c]) = decStep (decVal acc l) c := by
  unfold decVal
  rw [List.foldl_append]
  rfl
theorem val_lt : ∀ (l : List UInt8) (acc : Nat), (∀ c ∈ l, isDig c) → decVal acc l < (acc + 1) * 10 ^ l.length
  | [], acc, _ => by rw [decVal_nil]; simp
  | c :: r, acc, h => by
    have hc := h c (by simp)
    unfold isDig at hc
    have := val_lt r (acc * 10 + (c.toNat - 48)) (fun d hd => h d (by simp [hd]))
    rw [decVal_cons, List.length_cons, Nat.pow_succ]
    refine Nat.lt_of_lt_of_le this ?_
    have : acc * 10 + (c.toNat - 48) + 1 ≤ (acc + 1) * 10 := by omega
    calc (acc * 10 + (c.toNat - 48) + 1) * 10 ^ r.length ≤ ((acc + 1) * 10) * 10 ^ r.length := Nat.mul_le_mul_right _ this
      _ = (acc + 1) * (10 ^ r.length * 10) := by rw [Nat.mul_assoc, Nat.mul_comm 10]
theorem val_small {l : List UInt8} (h : ∀ c ∈ l, isDig c) (hl : l.length ≤ 9) : decVal 0 l ≤ 999999999 := by
  have h1 := val_lt l 0 h
  have h2 : 10 ^ l.length ≤ 10 ^ 9 := Nat.pow_le_pow_right (by decide) hl
  have h3 : (10 : Nat) ^ 9 = 1000000000 := by decide
  omega

theorem dig_byte (d : Nat) (h : d < 10) : (UInt8.ofNat (48 + d)).toNat = 48 + d := by
  rw [UInt8.toNat_ofNat', Nat.mod_eq_of_lt (by omega)]
theorem dec_dig : ∀ (n : Nat), (∀ c ∈ Lib.decDigits n, isDig c) ∧ decVal 0 (Lib.decDigits n) = n := by
  intro n
  induction n using Nat.strongRecOn with
  | _ n ih =>
    rw [Lib.decDigits]
    by_cases h : n < 10
    · rw [dif_pos h]
      refine ⟨fun c hc => ?_, ?_⟩
      · obtain rfl : c = UInt8.ofNat (48 + n) := by simpa using hc
        unfold isDig; rw [dig_byte n h]; omega
      · rw [decVal_cons, decVal_nil]; unfold decStep; rw [dig_byte n h]; omega
    · rw [dif_neg h]
      obtain ⟨h1, h2⟩ := ih (n / 10) (by omega)
      refine ⟨fun c hc => ?_, ?_⟩
      · rcases List.mem_append.1 hc with hc | hc
        · exact h1 c hc
        · obtain rfl : c = UInt8.ofNat (48 + n % 10) := by simpa using hc
          unfold isDig; rw [dig_byte _ (by omega)]; omega
      · rw [val_snoc, h2]; unfold decStep; rw [dig_byte _ (by omega)]; omega
theorem dec_len : ∀ (k n : Nat), n < 10 ^ (k + 1) → (Lib.decDigits n).length ≤ k + 1 := by
  intro k
  induction k with
  | zero => intro n h; rw [Lib.decDigits, dif_pos (by omega)]; simp
  | succ k ih =>
    intro n h
    rw [Lib.decDigits]
    by_cases h10 : n < 10
    · rw [dif_pos h10]; simp
    · rw [dif_neg h10, List.length_append]
      have : n / 10 < 10 ^ (k + 1) := by
        rw [Nat.pow_succ] at h
        omega
      have := ih _ this
      simp
      omega
theorem dec_pos (n : Nat) : 0 < (Lib.decDigits n).length := by
  rw [Lib.decDigits]
  split <;> simp

/-- The texts that are read. -/
def goodDec (l : List UInt8) (n : Nat) : Prop := n ≤ 999999999 ∧ Lib.decDigits n = l
theorem goodDec_facts {l : List UInt8} {n : Nat} (h : goodDec l n) : (∀ c ∈ l, isDig c) ∧ decVal 0 l = n ∧ l.length ≤ 9 ∧ 0 < l.length := by
  obtain ⟨h1, rfl⟩ := h
  obtain ⟨a, b⟩ := dec_dig n
  exact ⟨a, b, dec_len 8 n (by have : (10 : Nat) ^ (8 + 1) = 1000000000 := by decide
                               omega), dec_pos n⟩

theorem parse_ok : ∀ (l : List UInt8) (acc : Nat), (∀ c ∈ l, isDig c) → (acc + 1) * 10 ^ l.length ≤ 9223372036854775807 → Lib.parseUint10 acc l = .ok (decVal acc l)
  | [], acc, _, _ => rfl
  | c :: r, acc, h, hb => by
    have hc := h c (by simp)
    unfold isDig at hc
    rw [List.length_cons, Nat.pow_succ] at hb
    have hp : 1 ≤ 10 ^ r.length := Nat.pos_of_ne_zero (by simp)
    have h1 : (acc * 10 + (c.toNat - 48) + 1) * 10 ^ r.length ≤ 9223372036854775807 := by
      have : acc * 10 + (c.toNat - 48) + 1 ≤ (acc + 1) * 10 := by omega
      calc (acc * 10 + (c.toNat - 48) + 1) * 10 ^ r.length ≤ ((acc + 1) * 10) * 10 ^ r.length := Nat.mul_le_mul_right _ this
        _ = (acc + 1) * (10 ^ r.length * 10) := by rw [Nat.mul_assoc, Nat.mul_comm 10]
        _ ≤ _ := hb
    have h2 : acc * 10 + (c.toNat - 48) + 1 ≤ 9223372036854775807 := Nat.le_trans (Nat.le_mul_of_pos_right _ hp) h1
    rw [Lib.parseUint10, if_pos hc, if_neg (by omega), if_neg (by omega), decVal_cons]
    exact parse_ok r _ (fun d hd => h d (by simp [hd])) h1
theorem atoi_good {l : List UInt8} {n : Nat} (h : goodDec l n) : Lib.atoiAll l = .ok (n : Int) := by
  obtain ⟨h1, h2, h3, h4⟩ := goodDec_facts h
  have h9 : 10 ^ l.length ≤ 10 ^ 9 := Nat.pow_le_pow_right (by decide) h3
  have h10 : (10 : Nat) ^ 9 = 1000000000 := by decide
  have hp := parse_ok l 0 h1 (by omega)
  have hn := h.1
  rw [h2] at hp
  cases l with
  | nil => simp at h4
  | cons c r =>
    have hc := h1 c (by simp)
    unfold isDig at hc
    have hs : ¬ (c.toNat = 43 ∨ c.toNat = 45) := by omega
    unfold Lib.atoiAll Lib.parseMag
    simp only [if_neg hs, hp, if_neg (show ¬ (c :: r = []) by simp)]
    have h45 : ¬ c.toNat = 45 := by omega
    simp only [h45, not_false_eq_true, true_and, false_and, if_false]
    rw [if_neg (by omega)]
theorem not_good_itoa {l : List UInt8} (h : ¬ ∃ n, goodDec l n) (v : Int) (h0 : 0 ≤ v) (h1 : v ≤ 999999999) : Lib.itoa v ≠ l := by
  intro e
  apply h
  refine ⟨v.toNat, by omega, ?_⟩
  unfold Lib.itoa at e
  rw [if_neg (by omega)] at e
  exact e
end Go.Proofs.YtgebkpnieailbaaDoor
