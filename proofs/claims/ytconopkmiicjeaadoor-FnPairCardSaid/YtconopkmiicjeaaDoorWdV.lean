/-
  Words: what is told of a word that is read; two words one behind the other.
-/
import Derived.Test.YtconopkmiicjeaaDoorWdT
import Derived.Test.YtconopkmiicjeaaDoorWdB
namespace Go.Proofs.YtconopkmiicjeaaDoor
set_option linter.unusedVariables false
open Go.RowKit

theorem drop_head (l : List UInt8) (a : Nat) (h : a < l.length) : l.drop a = l.getD a 0 :: l.drop (a + 1) := by
  rw [List.drop_eq_getElem_cons h, List.getD_eq_getElem?_getD, List.getElem?_eq_getElem h]
  rfl
theorem wd_len (s : ByteArray) (a k : Nat) : (s.extract a k).data.toList.length = min k s.size - a :=
  (Array.length_toList).trans (ByteArray.size_extract)

/-- A word, wherever it stands: behind it no byte of an atom's. -/
theorem word_putWd_at (s : ByteArray) (P S l : List UInt8) (hS : ∀ b T, S = b :: T → atomB b = false) (hne : putWd l ≠ []) (hs : s.data.toList = P ++ putWd l ++ S) : getWd s (P.length : Int) = some (l, P.length + (putWd l).length) := by
  unfold putWd at hne hs ⊢
  by_cases ha : atomOk l = true ∧ sameB l nilL = false
  · rw [if_pos ha] at hne hs ⊢
    have h1 := ha.1
    unfold atomOk at h1
    rw [Bool.and_eq_true] at h1
    have hsz : s.size = P.length + l.length + S.length := by
      have := congrArg List.length hs
      simp at this
      omega
    have hR := runGo_put S hS l P s.size P.length s.data.toList (by rw [hs]; simp) rfl (by omega) h1.1
    cases l with
    | nil => exact absurd rfl hne
    | cons b r =>
      have hb : atomB b = true := by
        have := h1.1
        rw [List.all_cons, Bool.and_eq_true] at this
        exact this.1
      have h34 : b ≠ 34 := fun e => by subst e; revert hb; decide
      have h123 : b ≠ 123 := fun e => by subst e; revert hb; decide
      have hg : s.data.toList.getD P.length 0 = b := by rw [hs, List.append_assoc]; exact getD_at P _ b _ rfl
      unfold getWd
      rw [List.length_cons] at hsz
      rw [if_pos (by omega)]
      unfold wordAt atomAt
      dsimp only
      rw [Int.toNat_natCast, hg, if_neg h34, if_neg h123, hR, if_neg (by simp)]
      have hx : (s.extract P.length (P.length + (b :: r).length)).data.toList = b :: r := piece_at s P (b :: r) S _ _ (by rw [hs]) rfl rfl
      rw [hx]
  · rw [if_neg ha] at hne hs ⊢
    exact word_putStr s P S l hne hs

theorem quotedGo_facts (l : List UInt8) : ∀ (n i : Nat) (out o : List UInt8) (j : Nat), quotedGo l n i out = some (o, j) → i < j ∧ j ≤ l.length ∧ o.length ≤ 400 ∧ plainAll o = true
  | 0, i, out, o, j, h => by cases h
  | n + 1, i, out, o, j, h => by
    rw [quotedGo] at h
    split at h
    · rename_i hi
      split at h
      · split at h
        · cases h
        · rename_i hno
          rw [not_or] at hno
          injection h with h
          injection h with h1 h2
          subst h1 h2
          exact ⟨by omega, by omega, by omega, by simpa using hno.2⟩
      · split at h
        · split at h
          · obtain ⟨h1, h2, h3, h4⟩ := quotedGo_facts l n _ _ _ _ h
            exact ⟨by omega, h2, h3, h4⟩
          · cases h
        · obtain ⟨h1, h2, h3, h4⟩ := quotedGo_facts l n _ _ _ _ h
          exact ⟨by omega, h2, h3, h4⟩
    · cases h
theorem has_of_all {p : UInt8 → Bool} {l : List UInt8} (h : l.all p = true) (h0 : p 0 = false) : hasL 0 l = false := by
  cases hh : hasL 0 l with
  | false => rfl
  | true =>
    unfold hasL at hh
    rw [List.any_eq_true] at hh
    obtain ⟨x, hx, e⟩ := hh
    rw [List.all_eq_true] at h
    have h1 := h x hx
    rw [beq_iff_eq.1 e, h0] at h1
    cases h1
theorem runGo_ge (l : List UInt8) : ∀ n k, k ≤ runGo l n k
  | 0, k => Nat.le_refl _
  | n + 1, k => by
    rw [runGo]
    split
    · have := runGo_ge l n (k + 1)
      omega
    · exact Nat.le_refl _
theorem runGo_le (l : List UInt8) : ∀ n k, k ≤ l.length → runGo l n k ≤ l.length
  | 0, k, h => h
  | n + 1, k, h => by
    rw [runGo]
    split
    · rename_i hh
      exact runGo_le l n (k + 1) (by omega)
    · exact h
theorem runGo_all (s : ByteArray) : ∀ n a, a ≤ s.size → (s.extract a (runGo s.data.toList n a)).data.toList.all atomB = true
  | 0, a, _ => by
    rw [runGo, List.eq_nil_of_length_eq_zero (l := (s.extract a a).data.toList) (by rw [wd_len]; omega)]
    rfl
  | n + 1, a, ha => by
    rw [runGo]
    split
    · rename_i hh
      have hlen : s.data.toList.length = s.size := by simp
      have hge := runGo_ge s.data.toList n (a + 1)
      have e : (s.extract a (runGo s.data.toList n (a + 1))).data.toList = s.data.toList.getD a 0 :: (s.extract (a + 1) (runGo s.data.toList n (a + 1))).data.toList := by
        rw [Lib.extract_data, Lib.extract_data, drop_head _ _ hh.1, show runGo s.data.toList n (a + 1) - a = (runGo s.data.toList n (a + 1) - (a + 1)) + 1 by omega, List.take_succ_cons]
      rw [e, List.all_cons, hh.2, runGo_all s n (a + 1) (by omega)]
      rfl
    · rw [List.eq_nil_of_length_eq_zero (l := (s.extract a a).data.toList) (by rw [wd_len]; omega)]
      rfl

/-- What is read as a word in a short text. -/
structure WordFacts (s : ByteArray) (a : Nat) (o : List UInt8) (j : Nat) : Prop where
  lt : a < s.size
  on : a < j
  le : j ≤ s.size
  few : o.length ≤ 400
  clean : hasL 0 o = false
  kind : s.data.toList.getD a 0 = 34 ∨ s.data.toList.getD a 0 = 123 ∨ (s.data.toList.getD a 0 ≠ 34 ∧ s.data.toList.getD a 0 ≠ 123 ∧ atomOk o = true ∧ (s.extract a j).data.toList = o)
theorem getWd_facts {s : ByteArray} {p : Int} {o : List UInt8} {j : Nat} (hs : s.size ≤ 400) (h : getWd s p = some (o, j)) : ∃ a : Nat, p = a ∧ WordFacts s a o j := by
  have hlen : s.data.toList.length = s.size := by simp
  unfold getWd at h
  split at h
  · rename_i hp
    refine ⟨p.toNat, by omega, ?_⟩
    have ha : p.toNat < s.size := by omega
    generalize p.toNat = a at h ha ⊢
    unfold wordAt at h
    split at h
    · rename_i h34
      obtain ⟨h1, h2, h3, h4⟩ := quotedGo_facts _ _ _ _ _ _ h
      exact ⟨ha, by omega, by omega, h3, has_of_all (p := plainB) h4 (by decide), .inl h34⟩
    · rename_i h34
      split at h
      · rename_i h123
        cases hL : lenAt s a with
        | none => rw [hL] at h; cases h
        | some r =>
          obtain ⟨v, i⟩ := r
          have hf := lenAt_facts hL
          rw [hL] at h
          unfold toldAt at h
          dsimp only at h
          split at h
          · cases h
          · rename_i hno
            rw [not_or] at hno
            injection h with h
            injection h with h1 h2
            subst h1 h2
            have hi : a < i := by
              unfold lenAt at hL
              dsimp only at hL
              split at hL
              · cases hL
              · split at hL
                · cases hL
                · injection hL with hL
                  injection hL with _ hL
                  omega
            exact ⟨ha, by omega, by omega, by rw [wd_len]; omega, by simpa using hno.2, .inr (.inl h123)⟩
      · rename_i h123
        unfold atomAt at h
        dsimp only at h
        split at h
        · cases h
        · rename_i hne
          injection h with h
          injection h with h1 h2
          have hge := runGo_ge s.data.toList s.size a
          have hle := runGo_le s.data.toList s.size a (by omega)
          have hall := runGo_all s s.size a (by omega)
          rw [h2] at h1 hne hge hle hall
          rw [h1] at hall
          have hol : o.length = j - a := by rw [← h1, wd_len]; omega
          refine ⟨ha, by omega, by omega, by omega, has_of_all (p := atomB) hall (by decide), .inr (.inr ⟨h34, h123, ?_, h1⟩)⟩
          unfold atomOk
          rw [hall]
          cases o with
          | nil => simp at hol; omega
          | cons b r => rfl
  · cases h

theorem putStr_ne {l : List UInt8} (h4 : l.length ≤ 400) (h0 : hasL 0 l = false) : putStr l ≠ [] := by
  unfold putStr
  rw [if_neg (by rw [h0]; simp; omega)]
  split
  · unfold quoteL; simp
  · simp
/-- Where a text has no word of its own, and isn't a long atom, it has none at all. -/
theorem putWd_nil {l : List UInt8} (h : putStr l = []) (hd : l.length ≤ 61 ∨ hasL 0 l = true) : putWd l = [] := by
  unfold putWd
  rw [if_neg ?_]
  · exact h
  · rintro ⟨ha, _⟩
    have h0 : hasL 0 l = true := by
      rcases hd with hd | hd
      · cases h0 : hasL 0 l with
        | true => rfl
        | false => exact absurd h (putStr_ne (by omega) h0)
      · exact hd
    unfold atomOk at ha
    rw [Bool.and_eq_true] at ha
    rw [has_of_all ha.1 (by decide)] at h0
    cases h0
theorem putWd_ne {l : List UInt8} (h : putStr l ≠ []) : putWd l ≠ [] := by
  unfold putWd
  split
  · rename_i ha
    intro e
    subst e
    have := ha.1
    revert this
    decide
  · exact h
/-- How long a text's word may be. -/
theorem putStr_len {l : List UInt8} (h : l.length ≤ 500) : (putStr l).length ≤ 1100 := by
  unfold putStr
  split
  · simp
  · split
    · have := quote_len l
      omega
    · have := itoa_len l.length (by omega)
      simp
      omega
theorem putWd_len {l : List UInt8} (h : l.length ≤ 500) : (putWd l).length ≤ 1100 := by
  have h1 := putStr_len h
  unfold putWd
  split
  · omega
  · exact h1
/-- .. where the text is short, or has a zero byte. -/
theorem putWd_short {l : List UInt8} (h : l.length ≤ 61 ∨ hasL 0 l = true) : (putWd l).length ≤ 130 := by
  have hz : hasL 0 l = true → putStr l = [] := by
    intro h0
    unfold putStr
    rw [if_pos (.inl h0)]
  rcases h with h | h
  · have h1 : (putStr l).length ≤ 130 := by
      unfold putStr
      split
      · simp
      · split
        · have := quote_len l
          omega
        · have := itoa_len l.length (by omega)
          simp
          omega
    unfold putWd
    split
    · omega
    · exact h1
  · rw [putWd_nil (hz h) (.inr h)]
    simp
end Go.Proofs.YtconopkmiicjeaaDoor
