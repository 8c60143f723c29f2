/-
  Words: what the program takes for a word is what the document's model takes for one.
-/
import Derived.Test.YtconopkmiicjeaaDoorIwG
import Derived.Test.YtconopkmiicjeaaDoorWdT
import Derived.Lib.IndexMore
import Derived.Lib.IndexLaws
import Derived.Lib.IndexBytes
namespace Go.Proofs.YtconopkmiicjeaaDoor
set_option linter.unusedVariables false
open Go.RowKit

theorem runP_atom (l : List UInt8) : ∀ n k, runP atomB l n k = runGo l n k
  | 0, k => rfl
  | n + 1, k => by rw [runP, runGo, runP_atom l n (k + 1)]
theorem runP_put (p : UInt8 → Bool) (S : List UInt8) (hS : ∀ b T, S = b :: T → p b = false) : ∀ (r P : List UInt8) (n i : Nat) (l : List UInt8), l = P ++ (r ++ S) → i = P.length → r.length ≤ n → r.all p = true → runP p l n i = i + r.length
  | [], P, n, i, l, hl, hi, hn, _ => by
    rw [List.nil_append] at hl
    rw [runP_end]
    · rfl
    · rintro ⟨h1, h2⟩
      cases S with
      | nil =>
        rw [hl, hi] at h1
        simp at h1
      | cons b T =>
        rw [hl, getD_at P T b i hi, hS b T rfl] at h2
        cases h2
  | b :: r, P, n, i, l, hl, hi, hn, ha => by
    rw [List.length_cons] at hn
    obtain ⟨n, rfl⟩ : ∃ m, n = m + 1 := ⟨n - 1, by omega⟩
    rw [List.all_cons, Bool.and_eq_true] at ha
    have hl1 : l = P ++ b :: (r ++ S) := by rw [hl]; rfl
    have hl3 : l = (P ++ [b]) ++ (r ++ S) := by rw [hl]; simp
    have hil : i < l.length := by rw [hl1, hi]; simp
    have hg : l.getD i 0 = b := by rw [hl1]; exact getD_at P _ b i hi
    rw [runP, if_pos ⟨hil, by rw [hg]; exact ha.1⟩, runP_put p S hS r (P ++ [b]) n (i + 1) l hl3 (by rw [hi]; simp) (by omega) ha.2, List.length_cons]
    omega

/-- A text told by its length stands at the end of P. -/
structure Told (s : ByteArray) (P D Q V S : List UInt8) : Prop where
  text : s.data.toList = P ++ (123 :: D ++ Q ++ [125, 13, 10] ++ V) ++ S
  plus : Q = [] ∨ Q = [43]
  num : decV D = (V.length : Int)
  few : V.length ≤ 400
  clean : hasL 0 V = false
/-- Where it ends. -/
def toldEnd (P D Q V : List UInt8) : Nat := P.length + (D.length + Q.length + 4 + V.length)

theorem decV_good {D : List UInt8} (h : 0 ≤ decV D) : (∀ c ∈ D, isDig c) ∧ 0 < D.length := by
  unfold decV at h
  split at h
  · rename_i hh
    obtain ⟨h1, _, _, h4⟩ := goodDec_facts (l := D) (n := decVal 0 D) hh
    exact ⟨h1, h4⟩
  · omega
theorem dig_digB (c : UInt8) : isDig c ↔ digB c = true := by
  unfold isDig digB
  simp

theorem Told.size {s : ByteArray} {P D Q V S : List UInt8} (h : Told s P D Q V S) : s.size = toldEnd P D Q V + S.length := by
  have := congrArg List.length h.text
  unfold toldEnd
  simp at this
  omega

theorem Told.spec {s : ByteArray} {P D Q V S : List UInt8} (h : Told s P D Q V S) : toldAt s (lenAt s P.length) = some (V, toldEnd P D Q V) := by
  have hsz := h.size
  obtain ⟨hs, hQ, hV, h4, h0⟩ := h
  obtain ⟨hdig, hd0⟩ := decV_good (D := D) (by omega)
  unfold toldEnd at hsz ⊢
  have hX : (s.extract P.length s.size).data.toList = (123 :: D ++ Q) ++ 125 :: (13 :: 10 :: V ++ S) := by
    rw [Lib.extract_to_end, hs, List.append_assoc, List.drop_left]
    simp
  have hno : ∀ c ∈ (123 :: D ++ Q), c ≠ 125 := by
    intro c hc e
    subst e
    rcases List.mem_append.1 hc with hc | hc
    · rcases List.mem_cons.1 hc with hc | hc
      · exact absurd hc (by decide)
      · have := hdig _ hc
        revert this
        unfold isDig
        decide
    · rcases hQ with rfl | rfl
      · cases hc
      · exact absurd (List.mem_singleton.1 hc) (by decide)
  have hI : Lib.index (s.extract P.length s.size).data.toList [125] = ((D.length + Q.length + 1 : Nat) : Int) := by
    rw [hX, idx_skip 125 _ _ hno]
    simp
  have hDQ : (s.extract (P.length + 1) (P.length + (D.length + Q.length + 1))).data.toList = D ++ Q := piece_at s (P ++ [123]) (D ++ Q) ([125, 13, 10] ++ V ++ S) _ _ (by rw [hs]; simp) (by simp) (by simp; omega)
  have hC : (s.extract (P.length + (D.length + Q.length + 1) + 1) (P.length + (D.length + Q.length + 1) + 3)).data.toList = [13, 10] := piece_at s (P ++ [123] ++ D ++ Q ++ [125]) [13, 10] (V ++ S) _ _ (by rw [hs]; simp) (by simp; omega) (by simp; omega)
  have hL : (s.extract (P.length + (D.length + Q.length + 1) + 3) (P.length + (D.length + Q.length + 1) + 3 + V.length)).data.toList = V := piece_at s (P ++ [123] ++ D ++ Q ++ [125, 13, 10]) V S _ _ (by rw [hs]; simp) (by simp; omega) (by simp; omega)
  have hN : (lenNum s P.length (D.length + Q.length + 1)).data.toList = D := by
    unfold lenNum
    rw [hDQ]
    rcases hQ with rfl | rfl
    · have hlast : (D ++ []).getD (D.length + ([] : List UInt8).length + 1 - 2) 0 ≠ 43 := by
        intro e
        simp only [List.append_nil, List.length_nil, Nat.add_zero] at e
        have hm : D.getD (D.length + 1 - 2) 0 ∈ D := getD_mem D _ (by omega)
        have := hdig _ hm
        rw [e] at this
        revert this
        unfold isDig
        decide
      rw [if_neg hlast, hDQ, List.append_nil]
    · have hlast : (D ++ [43]).getD (D.length + [(43 : UInt8)].length + 1 - 2) 0 = (43 : UInt8) := getD_at D [] 43 _ (by simp)
      rw [if_pos hlast, Lib.extract_data, hDQ]
      simp
  have hLen : lenAt s P.length = some ((V.length : Int), P.length + (D.length + Q.length + 1) + 3) := by
    unfold lenAt
    dsimp only
    rw [hI, if_neg (by omega), Int.toNat_natCast, hN, hV, if_neg]
    rw [Lib.toList_data, hC]
    simp
    omega
  rw [hLen]
  unfold toldAt
  dsimp only
  rw [Int.toNat_natCast, hL, if_neg (by rw [h0]; simp; omega)]
  simp
  omega

theorem Told.impl {s : ByteArray} {P D Q V S : List UInt8} (h : Told s P D Q V S) : litI s (P.length + 1) = some (V, toldEnd P D Q V) := by
  have hsz := h.size
  obtain ⟨hs, hQ, hV, h4, h0⟩ := h
  obtain ⟨hdig, hd0⟩ := decV_good (D := D) (by omega)
  unfold toldEnd at hsz ⊢
  have hall : D.all digB = true := by
    rw [List.all_eq_true]
    intro c hc
    exact (dig_digB c).1 (hdig c hc)
  have hR : runP digB s.data.toList s.size (P.length + 1) = P.length + 1 + D.length := by
    refine runP_put digB (Q ++ ([125, 13, 10] ++ V ++ S)) ?_ D (P ++ [123]) s.size (P.length + 1) s.data.toList (by rw [hs]; simp) (by simp) (by omega) hall
    rintro b T hb
    rcases hQ with rfl | rfl
    · simp only [List.nil_append, List.cons_append] at hb
      injection hb with hb _
      subst hb
      decide
    · simp only [List.cons_append, List.nil_append] at hb
      injection hb with hb _
      subst hb
      decide
  have hD : (s.extract (P.length + 1) (P.length + 1 + D.length)).data.toList = D := piece_at s (P ++ [123]) D (Q ++ [125, 13, 10] ++ V ++ S) _ _ (by rw [hs]; simp) (by simp) (by simp)
  have hdrop1 : (s.extract (P.length + 1 + D.length) s.size).data.toList = Q ++ ([125, 13, 10] ++ V ++ S) := by
    rw [Lib.extract_to_end, show s.data.toList = (P ++ [123] ++ D) ++ (Q ++ ([125, 13, 10] ++ V ++ S)) by rw [hs]; simp, List.drop_left' (by simp; omega)]
  have hdrop2 : (s.extract (P.length + 1 + D.length + Q.length) s.size).data.toList = [125, 13, 10] ++ (V ++ S) := by
    rw [Lib.extract_to_end, show s.data.toList = (P ++ [123] ++ D ++ Q) ++ ([125, 13, 10] ++ (V ++ S)) by rw [hs]; simp, List.drop_left' (by simp; omega)]
  have hB : behindPlus s (P.length + 1 + D.length) = P.length + 1 + D.length + Q.length := by
    unfold behindPlus
    rw [hdrop1]
    rcases hQ with rfl | rfl
    · rfl
    · rfl
  have hL : (s.extract (P.length + 1 + D.length + Q.length + 3) (P.length + 1 + D.length + Q.length + 3 + V.length)).data.toList = V := piece_at s (P ++ [123] ++ D ++ Q ++ [125, 13, 10]) V S _ _ (by rw [hs]; simp) (by simp; omega) (by simp; omega)
  have hlo : litOk V = true := by
    unfold litOk
    rw [h0, decide_eq_true h4]
    rfl
  unfold litI
  dsimp only
  rw [hR, hD, hV, hB, hdrop2, if_neg (by unfold Lib.hasPrefix closeA; simp), if_neg (by omega), Int.toNat_natCast, if_neg (by omega), hL, hlo, if_neg (by simp)]
  simp
  omega

theorem drop_step (l : List UInt8) (a : Nat) (h : a < l.length) : l.drop a = l.getD a 0 :: l.drop (a + 1) := by
  rw [List.drop_eq_getElem_cons h, List.getD_eq_getElem?_getD, List.getElem?_eq_getElem h]
  rfl
/-- A list between two places, and what is behind. -/
theorem drop_piece (s : ByteArray) (a b : Nat) (hab : a ≤ b) : s.data.toList.drop a = (s.extract a b).data.toList ++ s.data.toList.drop b := by
  rw [Lib.extract_data]
  have := List.take_append_drop (b - a) (s.data.toList.drop a)
  rw [List.drop_drop, show a + (b - a) = b by omega] at this
  exact this.symm
theorem pre_drop {s : ByteArray} {k : Nat} {p : List UInt8} (h : Lib.hasPrefix (s.extract k s.size).data.toList p = true) : s.data.toList.drop k = p ++ s.data.toList.drop (k + p.length) := by
  rw [Lib.extract_to_end] at h
  unfold Lib.hasPrefix at h
  obtain ⟨t, ht⟩ := List.isPrefixOf_iff_prefix.1 h
  rw [← List.drop_drop, ← ht, List.drop_left]

theorem runP_all (p : UInt8 → Bool) (s : ByteArray) : ∀ n a, a ≤ s.size → ∀ c ∈ (s.extract a (runP p s.data.toList n a)).data.toList, p c = true
  | 0, a, _, c, hc => by
    rw [runP] at hc
    have := ext_len s a a
    rw [List.eq_nil_of_length_eq_zero (l := (s.extract a a).data.toList) (by rw [this]; omega)] at hc
    cases hc
  | n + 1, a, ha, c, hc => by
    rw [runP] at hc
    split at hc
    · rename_i hh
      have hlen : s.data.toList.length = s.size := by simp
      have hge := runP_ge p s.data.toList n (a + 1)
      have e : (s.extract a (runP p s.data.toList n (a + 1))).data.toList = s.data.toList.getD a 0 :: (s.extract (a + 1) (runP p s.data.toList n (a + 1))).data.toList := by
        rw [Lib.extract_data, Lib.extract_data, drop_step _ _ hh.1, show runP p s.data.toList n (a + 1) - a = (runP p s.data.toList n (a + 1) - (a + 1)) + 1 by omega, List.take_succ_cons]
      rw [e] at hc
      rcases List.mem_cons.1 hc with rfl | hc
      · exact hh.2
      · exact runP_all p s n (a + 1) (by omega) c hc
    · have := ext_len s a a
      rw [List.eq_nil_of_length_eq_zero (l := (s.extract a a).data.toList) (by rw [this]; omega)] at hc
      cases hc

theorem ext_size (s : ByteArray) (a b : Nat) (h : b ≤ s.size) (hab : a ≤ b) : (s.extract a b).data.toList.length = b - a := by
  rw [ext_len]
  omega

/-- What the program takes so stands so. -/
theorem litI_told {s : ByteArray} {a : Nat} {x : List UInt8 × Nat} (ha : a < s.size) (hb : s.data.toList.getD a 0 = 123) (h : litI s (a + 1) = some x) : ∃ P D Q V S, Told s P D Q V S ∧ P.length = a := by
  have hlen : s.data.toList.length = s.size := by simp
  unfold litI at h
  dsimp only at h
  have hge := runP_ge digB s.data.toList s.size (a + 1)
  have hle : runP digB s.data.toList s.size (a + 1) ≤ s.size := by have := runP_le digB s.data.toList s.size (a + 1) (by omega); omega
  generalize runP digB s.data.toList s.size (a + 1) = r1 at h hge hle
  obtain ⟨Q, hQ, hBP, hdQ⟩ : ∃ Q : List UInt8, (Q = [] ∨ Q = [43]) ∧ behindPlus s r1 = r1 + Q.length ∧ s.data.toList.drop r1 = Q ++ s.data.toList.drop (r1 + Q.length) := by
    unfold behindPlus
    cases hp : Lib.hasPrefix (s.extract r1 s.size).data.toList plusA.data.toList with
    | true => exact ⟨[43], .inr rfl, rfl, pre_drop (p := [43]) hp⟩
    | false => exact ⟨[], .inl rfl, rfl, rfl⟩
  rw [hBP] at h
  split at h
  · cases h
  rename_i hc
  have hc' : Lib.hasPrefix (s.extract (r1 + Q.length) s.size).data.toList [125, 13, 10] = true := by
    cases h : Lib.hasPrefix (s.extract (r1 + Q.length) s.size).data.toList [125, 13, 10] with
    | true => rfl
    | false => exact absurd h hc
  have hdC := pre_drop hc'
  split at h
  · cases h
  rename_i hv0
  obtain ⟨m, hm⟩ : ∃ m : Nat, decV (s.extract (a + 1) r1).data.toList = m := ⟨(decV (s.extract (a + 1) r1).data.toList).toNat, by omega⟩
  rw [hm, Int.toNat_natCast] at h
  split at h
  · cases h
  rename_i hroom
  split at h
  · cases h
  rename_i hlo
  have hVl : (s.extract (r1 + Q.length + 3) (r1 + Q.length + 3 + m)).data.toList.length = m := by rw [ext_size s _ _ (by omega) (by omega)]; omega
  have hlo2 : litOk (s.extract (r1 + Q.length + 3) (r1 + Q.length + 3 + m)).data.toList = true := by
    cases h : litOk (s.extract (r1 + Q.length + 3) (r1 + Q.length + 3 + m)).data.toList with
    | true => rfl
    | false => exact absurd h hlo
  unfold litOk at hlo2
  rw [Bool.and_eq_true, decide_eq_true_eq] at hlo2
  refine ⟨s.data.toList.take a, (s.extract (a + 1) r1).data.toList, Q, (s.extract (r1 + Q.length + 3) (r1 + Q.length + 3 + m)).data.toList, s.data.toList.drop (r1 + Q.length + 3 + m), ⟨?_, hQ, by rw [hm, hVl], hlo2.1, by simpa using hlo2.2⟩, by simp; omega⟩
  have e1 := List.take_append_drop a s.data.toList
  rw [drop_step _ _ (by omega), hb, drop_piece s (a + 1) r1 hge, hdQ, hdC, show r1 + Q.length + [(125 : UInt8), 13, 10].length = r1 + Q.length + 3 from rfl, drop_piece s (r1 + Q.length + 3) (r1 + Q.length + 3 + m) (by omega)] at e1
  exact e1.symm.trans (by simp)

/-- What the model takes so stands so. -/
theorem toldAt_told {s : ByteArray} {a : Nat} {x : List UInt8 × Nat} (ha : a < s.size) (hb : s.data.toList.getD a 0 = 123) (h : toldAt s (lenAt s a) = some x) : ∃ P D Q V S, Told s P D Q V S ∧ P.length = a := by
  have hlen : s.data.toList.length = s.size := by simp
  cases hL : lenAt s a with
  | none => rw [hL] at h; cases h
  | some r =>
    obtain ⟨v, j⟩ := r
    rw [hL] at h
    unfold toldAt at h
    dsimp only at h
    split at h
    · cases h
    rename_i hno
    rw [not_or] at hno
    unfold lenAt at hL
    dsimp only at hL
    split at hL
    · cases hL
    rename_i hn2
    obtain ⟨m, hm⟩ : ∃ m : Nat, Lib.index (s.extract a s.size).data.toList [125] = m := ⟨(Lib.index (s.extract a s.size).data.toList [125]).toNat, by omega⟩
    have hlt := idx_one_lt (s.extract a s.size).data.toList 125
    rw [hm] at hn2 hL hlt
    rw [Int.toNat_natCast] at hL
    split at hL
    · cases hL
    rename_i hc
    injection hL with hL
    injection hL with hv hj
    simp only [not_or] at hc
    rw [Lib.extract_to_end, List.length_drop] at hlt
    subst hj
    obtain ⟨k, rfl⟩ : ∃ k : Nat, v = k := ⟨v.toNat, by omega⟩
    rw [Int.toNat_natCast] at hno
    have hC : (s.extract (a + m + 1) (a + m + 3)).data.toList = [13, 10] := by
      have := hc.2.2.2
      rw [Lib.toList_data] at this
      cases h : ((s.extract (a + m + 1) (a + m + 3)).data.toList == [13, 10]) with
      | true => exact beq_iff_eq.1 h
      | false => exact absurd h this
    have h125 : s.data.toList.drop (a + m) = 125 :: s.data.toList.drop (a + m + 1) := by
      have hone := Lib.index_one (s.extract a s.size).data.toList 125
      rw [hm] at hone
      have h2 := (Lib.indexByte_some hone.symm).1
      rw [Lib.extract_to_end, List.getElem?_drop] at h2
      rw [drop_step _ _ (by omega), List.getD_eq_getElem?_getD, h2]
      rfl
    have hVl : (s.extract (a + m + 3) (a + m + 3 + k)).data.toList.length = k := by rw [ext_size s _ _ (by omega) (by omega)]; omega
    obtain ⟨D, Q, hQ, hDQ, hDv⟩ : ∃ D Q : List UInt8, (Q = [] ∨ Q = [43]) ∧ (s.extract (a + 1) (a + m)).data.toList = D ++ Q ∧ decV D = (k : Int) := by
      have hnl : (s.extract (a + 1) (a + m)).data.toList.length = m - 1 := by rw [ext_size s _ _ (by omega) (by omega)]; omega
      unfold lenNum at hv
      split at hv
      · rename_i h43
        refine ⟨((s.extract (a + 1) (a + m)).extract 0 (m - 2)).data.toList, [43], .inr rfl, ?_, hv⟩
        rw [Lib.extract_data (s.extract (a + 1) (a + m)), List.drop_zero, Nat.sub_zero]
        have e := List.take_append_drop (m - 2) (s.extract (a + 1) (a + m)).data.toList
        rw [drop_step _ _ (by omega), h43, List.drop_of_length_le (by omega)] at e
        exact e.symm
      · exact ⟨(s.extract (a + 1) (a + m)).data.toList, [], .inl rfl, by simp, hv⟩
    refine ⟨s.data.toList.take a, D, Q, (s.extract (a + m + 3) (a + m + 3 + k)).data.toList, s.data.toList.drop (a + m + 3 + k), ⟨?_, hQ, by rw [hDv, hVl], by rw [hVl]; omega, by simpa using hno.2⟩, by simp; omega⟩
    have e1 := List.take_append_drop a s.data.toList
    rw [drop_step _ _ (by omega), hb, drop_piece s (a + 1) (a + m) (by omega), hDQ, h125, drop_piece s (a + m + 1) (a + m + 3) (by omega), hC, drop_piece s (a + m + 3) (a + m + 3 + k) (by omega)] at e1
    exact e1.symm.trans (by simp)

theorem lit_eq (s : ByteArray) (a : Nat) (ha : a < s.size) (hb : s.data.toList.getD a 0 = 123) : litI s (a + 1) = toldAt s (lenAt s a) := by
  cases h1 : litI s (a + 1) with
  | some x =>
    obtain ⟨P, D, Q, V, S, hT, rfl⟩ := litI_told ha hb h1
    rw [hT.spec, ← h1, hT.impl]
  | none =>
    cases h2 : toldAt s (lenAt s a) with
    | none => rfl
    | some x =>
      obtain ⟨P, D, Q, V, S, hT, rfl⟩ := toldAt_told ha hb h2
      rw [hT.impl] at h1
      cases h1

theorem pre_one (s : ByteArray) (a : Nat) (b : UInt8) (ha : a < s.size) : Lib.hasPrefix (s.extract a s.size).data.toList [b] = (b == s.data.toList.getD a 0) := by
  rw [Lib.extract_to_end, drop_step _ _ (by simpa using ha)]
  unfold Lib.hasPrefix
  simp [List.isPrefixOf]

/-- The program and the model take the same for a word. -/
theorem wdI_eq (s : ByteArray) (p : Int) : wdI s p = getWd s p := by
  have hlen : s.data.toList.length = s.size := by simp
  unfold wdI getWd
  by_cases h0 : 0 ≤ p
  · obtain ⟨a, rfl⟩ : ∃ a : Nat, p = a := ⟨p.toNat, by omega⟩
    rw [Int.toNat_natCast]
    by_cases hlt : a < s.size
    · rw [if_pos (by omega), if_pos (by omega)]
      unfold wordI wordAt
      rw [pre_one s a 34 hlt, pre_one s a 123 hlt]
      by_cases h34 : s.data.toList.getD a 0 = 34
      · rw [h34, if_pos (by decide), if_pos rfl]
        unfold quotedAt
        rw [hlen]
      · rw [if_neg (by rw [beq_iff_eq]; exact fun e => h34 e.symm), if_neg h34]
        by_cases h123 : s.data.toList.getD a 0 = 123
        · rw [h123, if_pos (by decide), if_pos rfl]
          exact lit_eq s a hlt h123
        · rw [if_neg (by rw [beq_iff_eq]; exact fun e => h123 e.symm), if_neg h123]
          unfold atomI atomAt
          rw [runP_atom]
    · rw [if_neg (c := _ ∧ (a : Int) ≤ (s.size : Int) - 1) (by omega)]
      by_cases hle : a ≤ s.size
      · obtain rfl : a = s.size := by omega
        rw [if_pos (by omega)]
        have he : (s.extract s.size s.size).data.toList = [] := List.eq_nil_of_length_eq_zero (by rw [ext_len]; omega)
        unfold wordI
        rw [he, if_neg (by unfold Lib.hasPrefix; simp), if_neg (by unfold Lib.hasPrefix; simp)]
        unfold atomI
        rw [if_pos (runP_end _ _ _ _ (by omega))]
      · rw [if_neg (by omega)]
  · rw [if_neg (by omega), if_neg (by omega)]
end Go.Proofs.YtconopkmiicjeaaDoor
