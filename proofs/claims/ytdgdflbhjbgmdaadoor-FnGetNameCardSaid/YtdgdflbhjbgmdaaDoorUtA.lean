/-
  Signs and their bytes: what is read at a place, and the library's own decoder: plain lists of bytes.
-/
import Derived.Test.YtdgdflbhjbgmdaaDoorPuB
import Derived.Lib.MapLaws
import Derived.Lib.ValidLaws
namespace Go.Proofs.YtdgdflbhjbgmdaaDoor
set_option linter.unusedVariables false
open Go.RowKit

/-- A number that is a sign's. -/
def Scalar (c : Nat) : Prop := c ≤ 1114111 ∧ ¬ (55296 ≤ c ∧ c ≤ 57343)
theorem ofNat_iff (x : Nat) (y : UInt8) (hx : x < 256) : UInt8.ofNat x = y ↔ x = y.toNat := by
  rw [← UInt8.toNat_inj, UInt8.toNat_ofNat', Nat.mod_eq_of_lt hx]
theorem six_iff (n : Nat) (y : UInt8) : six n = y ↔ 128 + n % 64 = y.toNat := ofNat_iff _ _ (by omega)
theorem put_one (R : Nat) (h : R < 128) : putL R = [UInt8.ofNat R] := by unfold putL; rw [if_neg (by omega), if_pos h]
theorem put_two (R : Nat) (h1 : 128 ≤ R) (h2 : R < 2048) : putL R = [UInt8.ofNat (192 + R / 64), six R] := by unfold putL; rw [if_neg (by omega), if_neg (by omega), if_pos h2]
theorem put_three (R : Nat) (h1 : 2048 ≤ R) (h2 : R < 65536) (h3 : ¬ (55296 ≤ R ∧ R ≤ 57343)) : putL R = [UInt8.ofNat (224 + R / 4096), six (R / 64), six R] := by
  unfold putL; rw [if_neg (by omega), if_neg (by omega), if_neg (by omega), if_pos h2]
theorem put_four (R : Nat) (h1 : 65536 ≤ R) (h2 : R ≤ 1114111) : putL R = [UInt8.ofNat (240 + R / 262144), six (R / 4096), six (R / 64), six R] := by
  unfold putL; rw [if_neg (by omega), if_neg (by omega), if_neg (by omega), if_neg (by omega)]
theorem put_none (R : Nat) (h : ¬ Scalar R) : putL R = [] := by
  unfold putL; rw [if_pos]
  unfold Scalar at h
  omega
theorem decN (l : List UInt8) (i : Nat) : Lib.decodeL (l.drop i) = Lib.decodeN (l.length - i) (byteAt l i) (byteAt l (i + 1)) (byteAt l (i + 2)) (byteAt l (i + 3)) := by
  rw [Lib.decodeL_N, Lib.getD_dropU, Lib.getD_dropU, Lib.getD_dropU, Lib.getD_dropU, List.length_drop]
  rfl
theorem takeN (l : List UInt8) (i : Nat) : (1 ≤ l.length - i → (l.drop i).take 1 = [l.getD i 0]) ∧ (2 ≤ l.length - i → (l.drop i).take 2 = [l.getD i 0, l.getD (i + 1) 0]) ∧
    (3 ≤ l.length - i → (l.drop i).take 3 = [l.getD i 0, l.getD (i + 1) 0, l.getD (i + 2) 0]) ∧ (4 ≤ l.length - i → (l.drop i).take 4 = [l.getD i 0, l.getD (i + 1) 0, l.getD (i + 2) 0, l.getD (i + 3) 0]) := by
  refine ⟨fun h => ?_, fun h => ?_, fun h => ?_, fun h => ?_⟩
  · rw [Lib.takeA _ (by rw [List.length_drop]; omega), Lib.getD_dropU]; rfl
  · rw [Lib.takeB _ (by rw [List.length_drop]; omega), Lib.getD_dropU, Lib.getD_dropU]; rfl
  · rw [Lib.takeC _ (by rw [List.length_drop]; omega), Lib.getD_dropU, Lib.getD_dropU, Lib.getD_dropU]; rfl
  · rw [Lib.takeD _ (by rw [List.length_drop]; omega), Lib.getD_dropU, Lib.getD_dropU, Lib.getD_dropU, Lib.getD_dropU]; rfl
set_option maxRecDepth 100000 in
set_option maxHeartbeats 4000000 in
theorem dec_lead2 (n b0 b1 b2 b3 : Nat) (h0 : 192 ≤ b0) (h1 : b0 < 224) :
    Lib.decodeN n b0 b1 b2 b3 = if 1 < n ∧ b1 / 64 = 2 ∧ 128 ≤ (b0 - 192) * 64 + b1 % 64 then ((b0 - 192) * 64 + b1 % 64, 2) else (65533, 1) := by
  unfold Lib.decodeN
  repeat' split
  all_goals first | rfl | (exfalso; omega) | (apply Prod.ext <;> simp only <;> omega)
set_option maxRecDepth 100000 in
set_option maxHeartbeats 4000000 in
theorem dec_lead3 (n b0 b1 b2 b3 : Nat) (h0 : 224 ≤ b0) (h1 : b0 < 240) :
    Lib.decodeN n b0 b1 b2 b3 = if 2 < n ∧ b1 / 64 = 2 ∧ b2 / 64 = 2 ∧ 2048 ≤ ((b0 - 224) * 64 + b1 % 64) * 64 + b2 % 64 ∧ ¬ (55296 ≤ ((b0 - 224) * 64 + b1 % 64) * 64 + b2 % 64 ∧ ((b0 - 224) * 64 + b1 % 64) * 64 + b2 % 64 ≤ 57343) then (((b0 - 224) * 64 + b1 % 64) * 64 + b2 % 64, 3) else (65533, 1) := by
  unfold Lib.decodeN
  repeat' split
  all_goals first | rfl | (exfalso; omega) | (apply Prod.ext <;> simp only <;> omega)
set_option maxRecDepth 100000 in
set_option maxHeartbeats 4000000 in
theorem dec_lead4 (n b0 b1 b2 b3 : Nat) (h0 : 240 ≤ b0) (h1 : b0 < 248) :
    Lib.decodeN n b0 b1 b2 b3 = if 3 < n ∧ b1 / 64 = 2 ∧ b2 / 64 = 2 ∧ b3 / 64 = 2 ∧ 65536 ≤ (((b0 - 240) * 64 + b1 % 64) * 64 + b2 % 64) * 64 + b3 % 64 ∧ (((b0 - 240) * 64 + b1 % 64) * 64 + b2 % 64) * 64 + b3 % 64 ≤ 1114111 then ((((b0 - 240) * 64 + b1 % 64) * 64 + b2 % 64) * 64 + b3 % 64, 4) else (65533, 1) := by
  unfold Lib.decodeN
  repeat' split
  all_goals first | rfl | (exfalso; omega) | (apply Prod.ext <;> simp only <;> omega)
/-- What nextL tells, by the library's decoder's answer. -/
def told (p : Nat × Nat) : Nat × Nat := if p.1 = 65533 ∧ p.2 = 1 then (0, 0) else p

theorem next_dec (l : List UInt8) (i : Nat) (h : i < l.length) : nextL l i = told (Lib.decodeL (l.drop i)) := by
  rw [decN]
  obtain ⟨t1, t2, t3, t4⟩ := takeN l i
  have e0 : (l.getD i 0).toNat = byteAt l i := rfl
  have e1 : (l.getD (i + 1) 0).toNat = byteAt l (i + 1) := rfl
  have e2 : (l.getD (i + 2) 0).toNat = byteAt l (i + 2) := rfl
  have e3 : (l.getD (i + 3) 0).toNat = byteAt l (i + 3) := rfl
  have l0 := byteAt_lt l i
  have l1 := byteAt_lt l (i + 1)
  have l2 := byteAt_lt l (i + 2)
  have l3 := byteAt_lt l (i + 3)
  have m0 : moreR l i 0 = leadR (byteAt l i) := rfl
  have m1 : moreR l i 1 = leadR (byteAt l i) * 64 + byteAt l (i + 1) % 64 := rfl
  have m2 : moreR l i 2 = (leadR (byteAt l i) * 64 + byteAt l (i + 1) % 64) * 64 + byteAt l (i + 2) % 64 := rfl
  have m3 : moreR l i 3 = ((leadR (byteAt l i) * 64 + byteAt l (i + 1) % 64) * 64 + byteAt l (i + 2) % 64) * 64 + byteAt l (i + 3) % 64 := rfl
  unfold nextL
  generalize byteAt l i = b0 at *
  generalize byteAt l (i + 1) = b1 at *
  generalize byteAt l (i + 2) = b2 at *
  generalize byteAt l (i + 3) = b3 at *
  generalize l.getD i 0 = c0 at *
  generalize l.getD (i + 1) 0 = c1 at *
  generalize l.getD (i + 2) 0 = c2 at *
  generalize l.getD (i + 3) 0 = c3 at *
  obtain ⟨n, hn⟩ : ∃ n, n = l.length - i := ⟨_, rfl⟩
  rw [← hn] at t1 t2 t3 t4 ⊢
  by_cases k1 : b0 < 192
  · have hl : leadN b0 = 1 := by unfold leadN; rw [if_neg (by omega), if_neg (by omega), if_neg (by omega)]
    have hr : leadR b0 = b0 := by unfold leadR; rw [if_neg (by omega), if_neg (by omega), if_neg (by omega)]
    rw [hl, if_neg (by omega), t1 (by omega), show 1 - 1 = 0 from rfl, m0, hr]
    by_cases k2 : b0 < 128
    · rw [Lib.decodeN_ascii _ _ _ _ _ k2, put_one _ k2, if_pos (by rw [List.cons.injEq]; exact ⟨(ofNat_iff _ _ (by omega)).2 e0.symm, rfl⟩)]
      unfold told
      rw [if_neg (by simp only; omega)]
    · rw [Lib.decodeN_bad _ _ _ _ _ (by omega), put_two _ (by omega) (by omega), if_neg (by simp)]
      rfl
  · by_cases k2 : b0 < 224
    · have hl : leadN b0 = 2 := by unfold leadN; rw [if_neg (by omega), if_neg (by omega), if_pos (by omega)]
      have hr : leadR b0 = b0 - 192 := by unfold leadR; rw [if_neg (by omega), if_neg (by omega), if_pos (by omega)]
      rw [hl]
      by_cases hroom : l.length < i + 2
      · rw [if_pos hroom, Lib.decodeN_alone _ _ _ _ _ (by omega) (by omega)]
        rfl
      · rw [dec_lead2 _ _ _ _ _ (by omega) k2, if_neg hroom, t2 (by omega), show 2 - 1 = 1 from rfl, m1, hr]
        by_cases h1 : b1 / 64 = 2 ∧ 128 ≤ (b0 - 192) * 64 + b1 % 64
        · rw [put_two _ (by omega) (by omega), if_pos (by rw [List.cons.injEq, List.cons.injEq]; exact ⟨(ofNat_iff _ _ (by omega)).2 (by omega), (six_iff _ _).2 (by omega), rfl⟩), if_pos (by omega)]
          unfold told
          rw [if_neg (by simp only; omega)]
        · rw [if_neg, if_neg (by omega)]
          · rfl
          · by_cases h2 : (b0 - 192) * 64 + b1 % 64 < 128
            · rw [put_one _ h2]; simp
            · rw [put_two _ (by omega) (by omega), List.cons.injEq, List.cons.injEq]
              rintro ⟨_, q, _⟩
              have := (six_iff _ _).1 q
              omega
    · by_cases k3 : b0 < 240
      · have hl : leadN b0 = 3 := by unfold leadN; rw [if_neg (by omega), if_pos (by omega)]
        have hr : leadR b0 = b0 - 224 := by unfold leadR; rw [if_neg (by omega), if_pos (by omega)]
        rw [hl]
        by_cases hroom : l.length < i + 3
        · rw [dec_lead3 _ _ _ _ _ (by omega) k3, if_pos hroom, if_neg (by omega)]
          rfl
        · rw [dec_lead3 _ _ _ _ _ (by omega) k3, if_neg hroom, t3 (by omega), show 3 - 1 = 2 from rfl, m2, hr]
          obtain ⟨R, hR⟩ : ∃ R, R = ((b0 - 224) * 64 + b1 % 64) * 64 + b2 % 64 := ⟨_, rfl⟩
          rw [← hR]
          by_cases h1 : b1 / 64 = 2 ∧ b2 / 64 = 2 ∧ 2048 ≤ R ∧ ¬ (55296 ≤ R ∧ R ≤ 57343)
          · rw [put_three _ (by omega) (by omega) (by omega), if_pos (by rw [List.cons.injEq, List.cons.injEq, List.cons.injEq]; exact ⟨(ofNat_iff _ _ (by omega)).2 (by omega), (six_iff _ _).2 (by omega), (six_iff _ _).2 (by omega), rfl⟩), if_pos (by omega)]
            unfold told
            rw [if_neg (by simp only; omega)]
          · rw [if_neg, if_neg (by omega)]
            · rfl
            · by_cases h3 : R < 128
              · rw [put_one _ h3]; simp
              · by_cases h4 : R < 2048
                · rw [put_two _ (by omega) h4]; simp
                · by_cases h5 : 55296 ≤ R ∧ R ≤ 57343
                  · rw [put_none _ (by unfold Scalar; omega)]; simp
                  · rw [put_three _ (by omega) (by omega) h5, List.cons.injEq, List.cons.injEq, List.cons.injEq]
                    rintro ⟨_, q1, q2, _⟩
                    have a1 := (six_iff _ _).1 q1
                    have a2 := (six_iff _ _).1 q2
                    omega
      · have hl : leadN b0 = 4 := by unfold leadN; rw [if_pos (by omega)]
        have hr : leadR b0 = b0 - 240 := by unfold leadR; rw [if_pos (by omega)]
        rw [hl]
        by_cases hroom : l.length < i + 4
        · rw [if_pos hroom]
          by_cases h0 : b0 < 248
          · rw [dec_lead4 _ _ _ _ _ (by omega) h0, if_neg (by omega)]
            rfl
          · rw [Lib.decodeN_bad _ _ _ _ _ (by omega)]
            rfl
        · rw [if_neg hroom, t4 (by omega), show 4 - 1 = 3 from rfl, m3, hr]
          obtain ⟨R, hR⟩ : ∃ R, R = (((b0 - 240) * 64 + b1 % 64) * 64 + b2 % 64) * 64 + b3 % 64 := ⟨_, rfl⟩
          by_cases h0 : b0 < 248
          · rw [dec_lead4 _ _ _ _ _ (by omega) h0, ← hR]
            by_cases h1 : b1 / 64 = 2 ∧ b2 / 64 = 2 ∧ b3 / 64 = 2 ∧ 65536 ≤ R ∧ R ≤ 1114111
            · rw [put_four _ (by omega) (by omega), if_pos (by rw [List.cons.injEq, List.cons.injEq, List.cons.injEq, List.cons.injEq]; exact ⟨(ofNat_iff _ _ (by omega)).2 (by omega), (six_iff _ _).2 (by omega), (six_iff _ _).2 (by omega), (six_iff _ _).2 (by omega), rfl⟩), if_pos (by omega)]
              unfold told
              rw [if_neg (by simp only; omega)]
            · rw [if_neg, if_neg (by omega)]
              · rfl
              · by_cases h3 : R < 128
                · rw [put_one _ h3]; simp
                · by_cases h4 : R < 2048
                  · rw [put_two _ (by omega) h4]; simp
                  · by_cases h5 : Scalar R
                    · by_cases h6 : R < 65536
                      · rw [put_three _ (by omega) h6 (by unfold Scalar at h5; omega)]; simp
                      · rw [put_four _ (by omega) (by unfold Scalar at h5; omega), List.cons.injEq, List.cons.injEq, List.cons.injEq, List.cons.injEq]
                        unfold Scalar at h5
                        rintro ⟨_, q1, q2, q3, _⟩
                        have a1 := (six_iff _ _).1 q1
                        have a2 := (six_iff _ _).1 q2
                        have a3 := (six_iff _ _).1 q3
                        omega
                    · rw [put_none _ h5]; simp
          · rw [← hR, Lib.decodeN_bad _ _ _ _ _ (by omega), put_none _ (by unfold Scalar; omega), if_neg (by simp)]
            rfl

/-- A sign's bytes are read as the sign. -/
theorem dec_put (c : Nat) (rest : List UInt8) (hc : Scalar c) : Lib.decodeL (putL c ++ rest) = (c, (putL c).length) := by
  unfold Scalar at hc
  rw [Lib.decodeL_N]
  have nat : ∀ x : Nat, x < 256 → (UInt8.ofNat x).toNat = x := fun x hx => by rw [UInt8.toNat_ofNat', Nat.mod_eq_of_lt hx]
  have sx : ∀ n : Nat, (six n).toNat = 128 + n % 64 := fun n => nat _ (by omega)
  by_cases h1 : c < 128
  · rw [put_one c h1]
    simp only [List.cons_append, List.nil_append, List.getD_cons_zero, nat c (by omega)]
    rw [Lib.decodeN_ascii _ _ _ _ _ h1]
    rfl
  · by_cases h2 : c < 2048
    · rw [put_two c (by omega) h2]
      simp only [List.cons_append, List.nil_append, List.getD_cons_zero, List.getD_cons_succ, nat (192 + c / 64) (by omega), sx, List.length_cons]
      rw [dec_lead2 _ _ _ _ _ (by omega) (by omega), if_pos (by omega)]
      apply Prod.ext
      · simp only; omega
      · rfl
    · by_cases h3 : c < 65536
      · rw [put_three c (by omega) h3 (by omega)]
        simp only [List.cons_append, List.nil_append, List.getD_cons_zero, List.getD_cons_succ, nat (224 + c / 4096) (by omega), sx, List.length_cons]
        rw [dec_lead3 _ _ _ _ _ (by omega) (by omega), if_pos (by omega)]
        apply Prod.ext
        · simp only; omega
        · rfl
      · rw [put_four c (by omega) (by omega)]
        simp only [List.cons_append, List.nil_append, List.getD_cons_zero, List.getD_cons_succ, nat (240 + c / 262144) (by omega), sx, List.length_cons]
        rw [dec_lead4 _ _ _ _ _ (by omega) (by omega), if_pos (by omega)]
        apply Prod.ext
        · simp only; omega
        · rfl
theorem put_ne (c : Nat) (hc : Scalar c) : putL c ≠ [] := by
  intro e
  have h := dec_put c [] hc
  rw [e] at h
  simp only [List.append_nil, List.length_nil] at h
  have h2 := Lib.decodeN_ge1 0 0 0 0 0
  have h3 : Lib.decodeL [] = (0, 1) ∨ (Lib.decodeL []).2 ≠ 0 := .inr (by rw [Lib.decodeL_N]; have := Lib.decodeN_ge1 ([] : List UInt8).length (List.getD [] 0 (0 : UInt8)).toNat (List.getD [] 1 (0 : UInt8)).toNat (List.getD [] 2 (0 : UInt8)).toNat (List.getD [] 3 (0 : UInt8)).toNat; omega)
  rcases h3 with h3 | h3
  · rw [h3] at h; cases h
  · rw [h] at h3; exact h3 rfl
theorem put_good (c : Nat) (hc : Scalar c) : ¬ (c = 65533 ∧ (putL c).length = 1) := by
  rintro ⟨rfl, h⟩
  rw [put_three 65533 (by omega) (by omega) (by omega)] at h
  cases h
/-- What is read as a sign is that sign in its bytes. -/
theorem dec_sound (l : List UInt8) (hl : l ≠ []) (hg : ¬ ((Lib.decodeL l).1 = 65533 ∧ (Lib.decodeL l).2 = 1)) :
    Scalar (Lib.decodeL l).1 ∧ l = putL (Lib.decodeL l).1 ++ l.drop (Lib.decodeL l).2 ∧ (putL (Lib.decodeL l).1).length = (Lib.decodeL l).2 := by
  have hpos : 0 < l.length := List.length_pos_iff.2 hl
  have h := next_dec l 0 hpos
  rw [List.drop_zero] at h
  unfold told at h
  rw [if_neg hg] at h
  have hw := Lib.decodeL_le l hl
  have hge : 1 ≤ (Lib.decodeL l).2 := by rw [Lib.decodeL_N]; exact Lib.decodeN_ge1 _ _ _ _ _
  unfold nextL at h
  split at h
  · rw [← h] at hge
    simp only at hge
    omega
  · split at h
    · rename_i h1 h2
      rw [List.drop_zero] at h2
      rw [← h] at hw ⊢
      simp only at hw ⊢
      have hlen : (putL (moreR l 0 (leadN (byteAt l 0) - 1))).length = leadN (byteAt l 0) := by rw [h2, List.length_take]; omega
      refine ⟨?_, ?_, hlen⟩
      · by_cases hs : Scalar (moreR l 0 (leadN (byteAt l 0) - 1))
        · exact hs
        · rw [put_none _ hs] at hlen
          rw [← h] at hge
          simp only [List.length_nil] at hlen hge
          omega
      · rw [h2, List.take_append_drop]
    · rw [← h] at hge
      simp only at hge
      omega
end Go.Proofs.YtdgdflbhjbgmdaaDoor
