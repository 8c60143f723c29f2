/-
  Bytes in signs of six bits, reckoned byte by byte: plain lists of bytes.
-/
import Derived.Test.YtdgdflbhjbgmdaaDoorBsD
namespace Go.Proofs.YtdgdflbhjbgmdaaDoor
set_option linter.unusedVariables false
open Go.RowKit

/-- The signs that go out while six bits or more wait, and what still waits. -/
def emits (n c : Nat) (o : List UInt8) : Nat × List UInt8 :=
  if 12 ≤ c then (c - 12, o ++ [sg (n / 2 ^ (c - 6) % 64)] ++ [sg (n / 2 ^ (c - 12) % 64)]) else if 6 ≤ c then (c - 6, o ++ [sg (n / 2 ^ (c - 6) % 64)]) else (c, o)
theorem emits_more (n c : Nat) (o : List UInt8) (h : 6 ≤ c) (h2 : c < 18) : emits n c o = emits n (c - 6) (o ++ [sg (n / 2 ^ (c - 6) % 64)]) := by
  unfold emits
  by_cases h3 : 12 ≤ c
  · rw [if_pos h3, if_neg (by omega), if_pos (by omega), show c - 6 - 6 = c - 12 by omega]
  · rw [if_neg h3, if_pos h, if_neg (by omega), if_neg (by omega)]
theorem emits_end (n c : Nat) (o : List UInt8) (h : c < 6) : emits n c o = (c, o) := by
  unfold emits
  rw [if_neg (by omega), if_neg (by omega)]
/-- Bits that wait, the number, and the signs that are out behind k bytes. -/
def encS (l : List UInt8) : Nat → Nat × Nat × List UInt8
  | 0 => (0, 0, [])
  | k + 1 =>
    let n := ((encS l k).2.1 * 256 + byteAt l k) % 65536
    ((emits n ((encS l k).1 + 8) (encS l k).2.2).1, n, (emits n ((encS l k).1 + 8) (encS l k).2.2).2)
theorem encS_bits (l : List UInt8) : ∀ k, (encS l k).1 = 0 ∨ (encS l k).1 = 2 ∨ (encS l k).1 = 4 := by
  intro k
  induction k with
  | zero => simp [encS]
  | succ k ih =>
    simp only [encS, emits]
    rcases ih with h | h | h <;> rw [h] <;> simp
theorem encS_n (l : List UInt8) : ∀ k, (encS l k).2.1 < 65536 := by
  intro k
  cases k with
  | zero => simp [encS]
  | succ k => simp only [encS]; exact Nat.mod_lt _ (by decide)
theorem emits_len (n c : Nat) (o : List UInt8) : (emits n c o).2.length ≤ o.length + 2 := by
  unfold emits
  split
  · simp
  · split <;> simp
theorem encS_len (l : List UInt8) : ∀ k, (encS l k).2.2.length ≤ 2 * k := by
  intro k
  induction k with
  | zero => simp [encS]
  | succ k ih =>
    simp only [encS]
    have := emits_len (((encS l k).2.1 * 256 + byteAt l k) % 65536) ((encS l k).1 + 8) (encS l k).2.2
    omega
/-- What is out at the end. -/
def encEnd (l : List UInt8) : List UInt8 :=
  if (encS l l.length).1 = 0 then (encS l l.length).2.2 else (encS l l.length).2.2 ++ [sg ((encS l l.length).2.1 * 2 ^ (6 - (encS l l.length).1) % 64)]

theorem enc_one (l : List UInt8) (k n : Nat) (o : List UInt8) (h0 : encS l k = (0, n, o)) :
    ∃ n', encS l (k + 1) = (2, n', o ++ [sg (byteAt l k / 4)]) ∧ n' % 256 = byteAt l k := by
  have hb := byteAt_lt l k
  refine ⟨(n * 256 + byteAt l k) % 65536, ?_, by omega⟩
  simp only [encS, h0, emits]
  simp
  congr 1
  omega
theorem enc_two (l : List UInt8) (k n a : Nat) (o : List UInt8) (h0 : encS l k = (2, n, o)) (hn : n % 256 = a) :
    ∃ n', encS l (k + 1) = (4, n', o ++ [sg (a % 4 * 16 + byteAt l k / 16)]) ∧ n' % 256 = byteAt l k := by
  have hb := byteAt_lt l k
  refine ⟨(n * 256 + byteAt l k) % 65536, ?_, by omega⟩
  simp only [encS, h0, emits]
  simp
  congr 1
  omega
theorem enc_three (l : List UInt8) (k n b : Nat) (o : List UInt8) (h0 : encS l k = (4, n, o)) (hn : n % 256 = b) :
    ∃ n', encS l (k + 1) = (0, n', o ++ [sg (b % 16 * 4 + byteAt l k / 64)] ++ [sg (byteAt l k % 64)]) := by
  have hb := byteAt_lt l k
  refine ⟨(n * 256 + byteAt l k) % 65536, ?_⟩
  simp only [encS, h0, emits]
  simp
  constructor
  · congr 1
    omega
  · congr 1
    omega
theorem grp_two (N : Nat) : grp N 2 = [sg (sixAt N 0)] ++ [sg (sixAt N 1)] := by simp [grp, List.range_succ]
theorem grp_three (N : Nat) : grp N 3 = [sg (sixAt N 0)] ++ [sg (sixAt N 1)] ++ [sg (sixAt N 2)] := by simp [grp, List.range_succ]
theorem grp_four (N : Nat) : grp N 4 = [sg (sixAt N 0)] ++ [sg (sixAt N 1)] ++ [sg (sixAt N 2)] ++ [sg (sixAt N 3)] := by simp [grp, List.range_succ]

theorem enc_full (y : List UInt8) : ∀ m, 3 * m ≤ y.length → ∃ n, encS y (3 * m) = (0, n, preB y m) := by
  intro m
  induction m with
  | zero => intro _; exact ⟨0, rfl⟩
  | succ m ih =>
    intro h
    obtain ⟨n, h0⟩ := ih (by omega)
    obtain ⟨g0, g1, g2, g3⟩ := six_bytes y (3 * m)
    obtain ⟨n1, h1, k1⟩ := enc_one y _ _ _ h0
    obtain ⟨n2, h2, k2⟩ := enc_two y _ _ _ _ h1 k1
    obtain ⟨n3, h3⟩ := enc_three y _ _ _ _ h2 k2
    refine ⟨n3, ?_⟩
    rw [preB, show min 3 (y.length - 3 * m) + 1 = 4 by omega, grp_four, g0, g1, g2, g3]
    rw [show 3 * (m + 1) = 3 * m + 1 + 1 + 1 by omega, h3]
    simp
theorem enc_b64 (y : List UInt8) : encEnd y = b64 y := by
  obtain ⟨m, hm⟩ : ∃ m, m = y.length / 3 := ⟨_, rfl⟩
  obtain ⟨n, h0⟩ := enc_full y m (by omega)
  obtain ⟨g0, g1, g2, g3⟩ := six_bytes y (3 * m)
  unfold encEnd b64
  by_cases c0 : y.length = 3 * m
  · rw [show (y.length + 2) / 3 = m by omega, c0, h0]
    rfl
  · obtain ⟨n1, h1, k1⟩ := enc_one y _ _ _ h0
    rw [show (y.length + 2) / 3 = m + 1 by omega, preB]
    by_cases c1 : y.length = 3 * m + 1
    · rw [show min 3 (y.length - 3 * m) + 1 = 2 by omega, grp_two, g0, g1, byteAt_out y (3 * m + 1) (by omega), c1, h1]
      simp
      congr 1
      omega
    · obtain ⟨n2, h2, k2⟩ := enc_two y _ _ _ _ h1 k1
      have c2 : y.length = 3 * m + 1 + 1 := by omega
      rw [show min 3 (y.length - 3 * m) + 1 = 3 by omega, grp_three, g0, g1, g2, byteAt_out y (3 * m + 2) (by omega), c2, h2]
      simp
      congr 1
      omega
end Go.Proofs.YtdgdflbhjbgmdaaDoor
