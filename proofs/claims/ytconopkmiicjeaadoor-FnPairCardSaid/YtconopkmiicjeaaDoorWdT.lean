/-
  Words: a text comes back from its word.
-/
import Derived.Test.YtconopkmiicjeaaDoorWdR
import Derived.Test.YtconopkmiicjeaaDoorWdS
namespace Go.Proofs.YtconopkmiicjeaaDoor
set_option linter.unusedVariables false
open Go.RowKit

theorem runGo_put (S : List UInt8) (hS : ∀ b T, S = b :: T → atomB b = false) : ∀ (r P : List UInt8) (n i : Nat) (l : List UInt8), l = P ++ (r ++ S) → i = P.length → r.length ≤ n → r.all atomB = true → runGo l n i = i + r.length
  | [], P, n, i, l, hl, hi, hn, _ => by
    rw [List.nil_append] at hl
    rw [runGo_end]
    · rfl
    · rintro ⟨h1, h2⟩
      cases S with
      | nil =>
        rw [hl, hi] at h1
        simp at h1
      | cons b T =>
        rw [hl, getD_at P T b i hi, hS b T rfl] at h2
        cases h2
  | b :: r, P, n, i, l, hl, hi, hn, ha => by
    rw [List.length_cons] at hn
    obtain ⟨n, rfl⟩ : ∃ m, n = m + 1 := ⟨n - 1, by omega⟩
    rw [List.all_cons, Bool.and_eq_true] at ha
    have hl1 : l = P ++ b :: (r ++ S) := by rw [hl]; rfl
    have hl3 : l = (P ++ [b]) ++ (r ++ S) := by rw [hl]; simp
    have hil : i < l.length := by rw [hl1, hi]; simp
    have hg : l.getD i 0 = b := by rw [hl1]; exact getD_at P _ b i hi
    rw [runGo, if_pos ⟨hil, by rw [hg]; exact ha.1⟩, runGo_put S hS r (P ++ [b]) n (i + 1) l hl3 (by rw [hi]; simp) (by omega) ha.2, List.length_cons]
    omega

/-- A string's word, wherever it stands, is the string. -/
theorem word_putStr (s : ByteArray) (P S l : List UInt8) (hne : putStr l ≠ []) (hs : s.data.toList = P ++ putStr l ++ S) : getWd s (P.length : Int) = some (l, P.length + (putStr l).length) := by
  have hsz : s.size = P.length + (putStr l).length + S.length := by
    have := congrArg List.length hs
    simp at this
    omega
  have hpos : 0 < (putStr l).length := List.length_pos_iff.2 hne
  unfold getWd
  rw [if_pos (by omega), Int.toNat_natCast]
  clear hsz hpos
  unfold putStr at hne hs ⊢
  by_cases h0 : hasL 0 l = true ∨ 400 < l.length
  · rw [if_pos h0] at hne
    exact absurd rfl hne
  · rw [if_neg h0] at hs ⊢
    by_cases h6 : l.length ≤ 60 ∧ plainAll l = true
    · rw [if_pos h6] at hs ⊢
      unfold wordAt
      have hg : s.data.toList.getD P.length 0 = 34 := by
        rw [hs]
        unfold quoteL
        rw [List.append_assoc]
        exact getD_at P _ 34 _ rfl
      rw [hg, if_pos rfl, hs]
      exact quoted_put P S l (by omega) h6.2
    · rw [if_neg h6] at hs ⊢
      have hit : Lib.itoa (l.length : Int) = Lib.decDigits l.length := by
        unfold Lib.itoa
        rw [if_neg (by omega), Int.toNat_natCast]
      rw [hit] at hs ⊢
      unfold wordAt
      have hg : s.data.toList.getD P.length 0 = 123 := by
        rw [hs, List.append_assoc]
        exact getD_at P _ 123 _ rfl
      rw [hg, if_neg (by decide), if_pos rfl]
      have hz : hasL 0 l = false := by
        cases h : hasL 0 l with
        | false => rfl
        | true => exact absurd (.inl h) h0
      exact told_put s P S l (by omega) hz (by rw [hs]; rfl)

/-- A word that stands alone is the text. -/
theorem word_putWd (s : ByteArray) (l : List UInt8) (hne : putWd l ≠ []) (hs : s.data.toList = putWd l) : getWd s 0 = some (l, (putWd l).length) := by
  unfold putWd at hne hs ⊢
  by_cases ha : atomOk l = true ∧ sameB l nilL = false
  · rw [if_pos ha] at hne hs ⊢
    have h1 := ha.1
    unfold atomOk at h1
    rw [Bool.and_eq_true] at h1
    have hsz : s.size = l.length := by
      have := congrArg List.length hs
      simpa using this
    have hR := runGo_put [] (fun b T h => by cases h) l [] s.size 0 s.data.toList (by rw [hs]; simp) rfl (by omega) h1.1
    cases l with
    | nil => exact absurd rfl hne
    | cons b r =>
      have hb : atomB b = true := by
        have := h1.1
        rw [List.all_cons, Bool.and_eq_true] at this
        exact this.1
      have h34 : b ≠ 34 := fun e => by subst e; revert hb; decide
      have h123 : b ≠ 123 := fun e => by subst e; revert hb; decide
      have hg : s.data.toList.getD 0 0 = b := by rw [hs]; rfl
      unfold getWd
      rw [List.length_cons] at hsz
      rw [if_pos (by omega)]
      unfold wordAt atomAt
      dsimp only
      rw [show (0 : Int).toNat = 0 from rfl, hg, if_neg h34, if_neg h123, hR, if_neg (by simp)]
      have hx : (s.extract 0 (0 + (b :: r).length)).data.toList = b :: r := piece_at s [] (b :: r) [] _ _ (by rw [hs]; simp) rfl (by simp)
      rw [hx]
      simp
  · rw [if_neg ha] at hne hs ⊢
    have := word_putStr s [] [] l hne (by rw [hs]; simp)
    simpa using this
end Go.Proofs.YtconopkmiicjeaaDoor
