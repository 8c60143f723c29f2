/-
  Words: what is told by its length reads back.
-/
import Derived.Test.YtconopkmiicjeaaDoorWdG
namespace Go.Proofs.YtconopkmiicjeaaDoor
set_option linter.unusedVariables false
open Go.RowKit

theorem idx_skip (b : UInt8) (T : List UInt8) : ∀ Q : List UInt8, (∀ c ∈ Q, c ≠ b) → Lib.index (Q ++ b :: T) [b] = (Q.length : Int)
  | [], _ => by
    rw [List.nil_append]
    unfold Lib.index
    simp
  | c :: Q, h => by
    have hc : c ≠ b := h c (by simp)
    have ih := idx_skip b T Q (fun c hc => h c (by simp [hc]))
    rw [List.cons_append]
    unfold Lib.index
    rw [ih]
    have hf : ([b].isPrefixOf (c :: (Q ++ b :: T))) = false := by
      show ((b == c) && ([] : List UInt8).isPrefixOf (Q ++ b :: T)) = false
      rw [show (b == c) = false by rw [beq_eq_false_iff_ne]; exact fun e => hc e.symm]
      rfl
    have hz : ((Q.length : Int) == -1) = false := by rw [beq_eq_false_iff_ne]; omega
    rw [hf, hz]
    simp
theorem piece_at (s : ByteArray) (A B C : List UInt8) (a b : Nat) (h : s.data.toList = A ++ B ++ C) (ha : a = A.length) (hb : b = A.length + B.length) : (s.extract a b).data.toList = B := by
  subst ha hb
  rw [Lib.extract_data, h, List.append_assoc, List.drop_left, show A.length + B.length - A.length = B.length by omega, List.take_left]
theorem decV_put (n : Nat) (h : n ≤ 999999999) : decV (Lib.decDigits n) = n := by
  have e := (goodDec_facts (l := Lib.decDigits n) ⟨h, rfl⟩).2.1
  unfold decV
  rw [if_pos ⟨by rw [e]; exact h, by rw [e]⟩, e]

theorem told_put (s : ByteArray) (P S l : List UInt8) (h4 : l.length ≤ 400) (h0 : hasL 0 l = false) (hs : s.data.toList = P ++ (123 :: Lib.decDigits l.length ++ [125, 13, 10] ++ l) ++ S) :
    toldAt s (lenAt s P.length) = some (l, P.length + (123 :: Lib.decDigits l.length ++ [125, 13, 10] ++ l).length) := by
  obtain ⟨hdig, _, hd9, hd0⟩ := goodDec_facts (l := Lib.decDigits l.length) (n := l.length) ⟨by omega, rfl⟩
  have hV := decV_put l.length (by omega)
  generalize Lib.decDigits l.length = D at hs hdig hd9 hd0 hV ⊢
  have hsz : s.size = P.length + (D.length + 4 + l.length) + S.length := by
    have := congrArg List.length hs
    simp at this
    omega
  have hX : (s.extract P.length s.size).data.toList = (123 :: D) ++ 125 :: (13 :: 10 :: l ++ S) := by
    rw [Lib.extract_to_end, hs, List.append_assoc, List.drop_left]
    simp
  have hI : Lib.index (s.extract P.length s.size).data.toList [125] = ((D.length + 1 : Nat) : Int) := by
    rw [hX, idx_skip 125 _ (123 :: D) (fun c hc => by
      rcases List.mem_cons.1 hc with rfl | hc
      · decide
      · have := hdig c hc
        intro e
        subst e
        revert this
        unfold isDig
        decide)]
    simp
  have hD : (s.extract (P.length + 1) (P.length + (D.length + 1))).data.toList = D := piece_at s (P ++ [123]) D ([125, 13, 10] ++ l ++ S) _ _ (by rw [hs]; simp) (by simp) (by simp; omega)
  have hC : (s.extract (P.length + (D.length + 1) + 1) (P.length + (D.length + 1) + 3)).data.toList = [13, 10] := piece_at s (P ++ [123] ++ D ++ [125]) [13, 10] (l ++ S) _ _ (by rw [hs]; simp) (by simp; omega) (by simp; omega)
  have hL : (s.extract (P.length + (D.length + 1) + 3) (P.length + (D.length + 1) + 3 + l.length)).data.toList = l := piece_at s (P ++ [123] ++ D ++ [125, 13, 10]) l S _ _ (by rw [hs]; simp) (by simp; omega) (by simp; omega)
  have hlast : D.getD (D.length + 1 - 2) 0 ≠ 43 := by
    intro e
    have hm : D.getD (D.length + 1 - 2) 0 ∈ D := getD_mem D _ (by omega)
    have := hdig _ hm
    rw [e] at this
    revert this
    unfold isDig
    decide
  have hN : lenNum s P.length (D.length + 1) = s.extract (P.length + 1) (P.length + (D.length + 1)) := by
    unfold lenNum
    rw [hD, if_neg hlast]
  have hLen : lenAt s P.length = some ((l.length : Int), P.length + (D.length + 1) + 3) := by
    unfold lenAt
    dsimp only
    rw [hI, if_neg (by omega), Int.toNat_natCast, hN, hD, hV, if_neg]
    rw [Lib.toList_data, hC]
    simp
    omega
  rw [hLen]
  unfold toldAt
  dsimp only
  rw [Int.toNat_natCast, hL, if_neg (by rw [h0]; simp; omega)]
  simp
  omega
end Go.Proofs.YtconopkmiicjeaaDoor
