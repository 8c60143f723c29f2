/-
  Words: the walk of spec's l03Length.
-/
import Derived.Test.YtconopkmiicjeaaDoorWdQ
import Derived.Test.YtconopkmiicjeaaDoorDecD
import Derived.Test.YtconopkmiicjeaaDoorFindS
namespace Go.Proofs.YtconopkmiicjeaaDoor
set_option linter.unusedVariables false
open Go.RowKit

/-- The number that a text tells, or -1. -/
def decV (l : List UInt8) : Int := if decVal 0 l ≤ 999999999 ∧ Lib.decDigits (decVal 0 l) = l then (decVal 0 l : Int) else -1
theorem decV_ge (l : List UInt8) : -1 ≤ decV l := by
  unfold decV
  split <;> omega
theorem decV_le (l : List UInt8) : decV l ≤ 999999999 := by
  unfold decV
  split <;> omega
theorem tells_val {l : List UInt8} {w w1 : World} {e : Ending} (h : TellsDec l w e w1) : e = .returned (.int .i64 (decV l)) ∧ Below w.heap.size w w1 := by
  refine ⟨?_, h.2⟩
  rcases h.1 with ⟨n, g, rfl⟩ | ⟨g, rfl⟩
  · have e := (goodDec_facts g).2.1
    unfold decV
    rw [if_pos ⟨by rw [e]; exact g.1, by rw [e]; exact g.2⟩, e]
  · unfold decV
    rw [if_neg (fun hh => g ⟨_, hh.1, hh.2⟩)]
theorem specRead_val (s : ByteArray) (w : World) (hs : s.size ≤ 1048576) :
    Calls Tryd.prog 61 #[.string s] w fun e w' => e = .returned (.int .i64 (decV s.data.toList)) ∧ Below w.heap.size w w' :=
  (specRead_any s w hs).mono fun _ _ h => tells_val h

theorem idx_one_lt (l : List UInt8) (b : UInt8) : Lib.index l [b] < l.length := by
  induction l with
  | nil => unfold Lib.index; simp
  | cons c l ih =>
    unfold Lib.index
    rw [List.length_cons]
    split
    · omega
    · split <;> omega
def braceA : ByteArray := ⟨#[125]⟩
/-- The number's text that is told at a place, m bytes on. -/
def lenNum (s : ByteArray) (a m : Nat) : ByteArray :=
  if (s.extract (a + 1) (a + m)).data.toList.getD (m - 2) 0 = 43 then (s.extract (a + 1) (a + m)).extract 0 (m - 2) else s.extract (a + 1) (a + m)
/-- How long a told text is, and where it begins. -/
def lenAt (s : ByteArray) (a : Nat) : Option (Int × Nat) :=
  let n := (Lib.index (s.extract a s.size).data.toList [125])
  if n < 2 then none else
  let m := n.toNat
  let v := decV (lenNum s a m).data.toList
  if v < 0 ∨ 400 < v ∨ s.size < a + m + 3 ∨ ((s.extract (a + m + 1) (a + m + 3)).toList == [13, 10]) = false then none else some (v, a + m + 3)
def TellsLen (a : Option (Int × Nat)) (w : World) (e : Ending) (w' : World) : Prop :=
  ((∃ (v : Int) (j : Nat), a = some (v, j) ∧ e = .returned (.tuple #[.int .i64 v, .int .i64 (j : Int)])) ∨ (a = none ∧ e = .returned (.tuple #[.int .i64 0, .int .i64 (-1)]))) ∧ Below w.heap.size w w'

set_option maxRecDepth 100000 in
set_option maxHeartbeats 4000000 in
theorem length_any (s : ByteArray) (a : Nat) (w : World) (hs : s.size ≤ 1048576) (ha : a < s.size) :
    Calls Tryd.prog 48 #[.string s, .int .i64 a] w (TellsLen (lenAt s a) w) := by
  obtain ⟨T, hT⟩ : ∃ T, lenAt s a = T := ⟨_, rfl⟩
  rw [hT]
  unfold lenAt lenNum at hT
  dsimp only at hT
  have hts : (s.extract a s.size).size = s.size - a := by rw [ByteArray.size_extract]; omega
  have FI := Lib.hid (fun w => specFind_any (s.extract a s.size) ⟨#[125]⟩ w (by rw [hts]; omega) (by decide))
  rw [show (⟨#[125]⟩ : ByteArray).data.toList = [125] from rfl] at FI
  have hb := Lib.index_ge (s.extract a s.size).data.toList [125]
  have hle := idx_one_lt (s.extract a s.size).data.toList 125
  have hl2 : (s.extract a s.size).data.toList.length = s.size - a := by rw [← hts]; simp
  rw [hl2] at hle
  clear hl2
  generalize Lib.index (s.extract a s.size).data.toList [125] = N at FI hb hle hT
  by_cases hn : N < 2
  · rw [if_pos hn] at hT
    have HN := Lib.hid hT
    have g1 : decide (N < 2) = true := by simpa using hn
    clear hT hle hn
    go_enter Tryd.func48, Tryd.ntmps48
    go_wp2_with fail
    refine (FI.out _).mono ?_
    rintro e w1 ⟨rfl, rfl⟩
    go_wp2_with fail
    go_ret2
    exact ⟨.inr ⟨HN.out.symm, rfl⟩, Below.refl _ _⟩
  · rw [if_neg hn] at hT
    obtain ⟨m, rfl⟩ : ∃ m : Nat, N = m := ⟨N.toNat, by omega⟩
    have h2 : 2 ≤ m := by omega
    have hm : a + m < s.size := by omega
    have g1 : decide ((m : Int) < 2) = false := by simp; omega
    rw [Int.toNat_natCast] at hT
    have hns : (s.extract (a + 1) (a + m)).size = m - 1 := by rw [ByteArray.size_extract]; omega
    clear hle hb hn hts
    obtain ⟨q, hq⟩ : ∃ q, m = q + 2 := ⟨m - 2, by omega⟩
    have hmin : min (a + m) s.size - (a + 1) = q + 1 := by omega
    have hm2 : m - 2 = q := by omega
    have hqs : q < (s.extract (a + 1) (a + m)).size := by omega
    rw [hm2, byte_at _ q hqs] at hT
    have HQ := Lib.hid hq
    have hqm : q + 2 ≤ m := by omega
    clear hns hq hm2
    have i1 : ((a : Int) + 1).toNat = a + 1 := by omega
    have i2 : ((a : Int) + (m : Int)).toNat = a + m := by omega
    by_cases h43 : (s.extract (a + 1) (a + m))[q] = 43
    · rw [if_pos h43] at hT
      have t1 : (((s.extract (a + 1) (a + m))[q].toNat : Int) == 43) = true := by rw [h43]; rfl
      clear h43
      have RD := Lib.hid (fun w => specRead_val ((s.extract (a + 1) (a + m)).extract 0 q) w (by rw [ByteArray.size_extract]; omega))
      generalize decV (((s.extract (a + 1) (a + m)).extract 0 q)).data.toList = v at hT RD
      by_cases v0 : v < 0
      · rw [if_pos (.inl v0)] at hT
        have HN := Lib.hid hT
        have g2 : decide (v < 0) = true := by simpa using v0
        clear hT
        go_enter Tryd.func48, Tryd.ntmps48
        go_wp2_with fail
        refine (FI.out _).mono ?_
        rintro e w1 ⟨rfl, rfl⟩
        go_wp2_with fail
        refine (RD.out _).mono ?_
        rintro e w2 ⟨rfl, hB2⟩
        go_wp2_with fail
        go_ret2
        exact ⟨.inr ⟨HN.out.symm, rfl⟩, hB2⟩
      have g2 : decide (v < 0) = false := by simpa using v0
      by_cases v4 : 400 < v
      · rw [if_pos (.inr (.inl v4))] at hT
        have HN := Lib.hid hT
        have g3 : decide (400 < v) = true := by simpa using v4
        clear hT
        go_enter Tryd.func48, Tryd.ntmps48
        go_wp2_with fail
        refine (FI.out _).mono ?_
        rintro e w1 ⟨rfl, rfl⟩
        go_wp2_with fail
        refine (RD.out _).mono ?_
        rintro e w2 ⟨rfl, hB2⟩
        go_wp2_with fail
        refine (RD.out _).mono ?_
        rintro e w3 ⟨rfl, hB3⟩
        go_wp2_with fail
        go_ret2
        exact ⟨.inr ⟨HN.out.symm, rfl⟩, hB2.trans (hB3.mono hB2.size)⟩
      have g3 : decide (400 < v) = false := by simpa using v4
      by_cases v5 : s.size < a + m + 3
      · rw [if_pos (.inr (.inr (.inl v5)))] at hT
        have HN := Lib.hid hT
        have g4 : decide ((s.size : Int) < (a : Int) + (m : Int) + 3) = true := by simp; omega
        clear hT
        go_enter Tryd.func48, Tryd.ntmps48
        go_wp2_with fail
        refine (FI.out _).mono ?_
        rintro e w1 ⟨rfl, rfl⟩
        go_wp2_with fail
        refine (RD.out _).mono ?_
        rintro e w2 ⟨rfl, hB2⟩
        go_wp2_with fail
        refine (RD.out _).mono ?_
        rintro e w3 ⟨rfl, hB3⟩
        go_wp2_with fail
        go_ret2
        exact ⟨.inr ⟨HN.out.symm, rfl⟩, hB2.trans (hB3.mono hB2.size)⟩
      have g4 : decide ((s.size : Int) < (a : Int) + (m : Int) + 3) = false := by simp; omega
      have i3 : ((a : Int) + (m : Int) + 3 - 2).toNat = a + m + 1 := by omega
      have i4 : ((a : Int) + (m : Int) + 3).toNat = a + m + 3 := by omega
      cases v6 : ((s.extract (a + m + 1) (a + m + 3)).toList == [13, 10]) with
      | false =>
        rw [if_pos (.inr (.inr (.inr v6)))] at hT
        have HN := Lib.hid hT
        clear hT
        go_enter Tryd.func48, Tryd.ntmps48
        go_wp2_with fail
        refine (FI.out _).mono ?_
        rintro e w1 ⟨rfl, rfl⟩
        go_wp2_with fail
        refine (RD.out _).mono ?_
        rintro e w2 ⟨rfl, hB2⟩
        go_wp2_with fail
        refine (RD.out _).mono ?_
        rintro e w3 ⟨rfl, hB3⟩
        go_wp2_with fail
        go_ret2
        exact ⟨.inr ⟨HN.out.symm, rfl⟩, hB2.trans (hB3.mono hB2.size)⟩
      | true =>
        rw [if_neg (by rw [v6]; simp; omega)] at hT
        have HN := Lib.hid hT
        clear hT
        go_enter Tryd.func48, Tryd.ntmps48
        go_wp2_with fail
        refine (FI.out _).mono ?_
        rintro e w1 ⟨rfl, rfl⟩
        go_wp2_with fail
        refine (RD.out _).mono ?_
        rintro e w2 ⟨rfl, hB2⟩
        go_wp2_with fail
        refine (RD.out _).mono ?_
        rintro e w3 ⟨rfl, hB3⟩
        go_wp2_with fail
        refine (RD.out _).mono ?_
        rintro e w4 ⟨rfl, hB4⟩
        go_wp2_with fail
        go_ret2
        exact ⟨.inl ⟨v, a + m + 3, HN.out.symm, by simp⟩, (hB2.trans (hB3.mono hB2.size)).trans (hB4.mono (hB2.trans (hB3.mono hB2.size)).size)⟩
    · rw [if_neg h43] at hT
      have t1 : (((s.extract (a + 1) (a + m))[q].toNat : Int) == 43) = false := ne_byte (b := 43) h43
      clear h43
      have RD := Lib.hid (fun w => specRead_val (s.extract (a + 1) (a + m)) w (by rw [ByteArray.size_extract]; omega))
      generalize decV ((s.extract (a + 1) (a + m))).data.toList = v at hT RD
      by_cases v0 : v < 0
      · rw [if_pos (.inl v0)] at hT
        have HN := Lib.hid hT
        have g2 : decide (v < 0) = true := by simpa using v0
        clear hT
        go_enter Tryd.func48, Tryd.ntmps48
        go_wp2_with fail
        refine (FI.out _).mono ?_
        rintro e w1 ⟨rfl, rfl⟩
        go_wp2_with fail
        refine (RD.out _).mono ?_
        rintro e w2 ⟨rfl, hB2⟩
        go_wp2_with fail
        go_ret2
        exact ⟨.inr ⟨HN.out.symm, rfl⟩, hB2⟩
      have g2 : decide (v < 0) = false := by simpa using v0
      by_cases v4 : 400 < v
      · rw [if_pos (.inr (.inl v4))] at hT
        have HN := Lib.hid hT
        have g3 : decide (400 < v) = true := by simpa using v4
        clear hT
        go_enter Tryd.func48, Tryd.ntmps48
        go_wp2_with fail
        refine (FI.out _).mono ?_
        rintro e w1 ⟨rfl, rfl⟩
        go_wp2_with fail
        refine (RD.out _).mono ?_
        rintro e w2 ⟨rfl, hB2⟩
        go_wp2_with fail
        refine (RD.out _).mono ?_
        rintro e w3 ⟨rfl, hB3⟩
        go_wp2_with fail
        go_ret2
        exact ⟨.inr ⟨HN.out.symm, rfl⟩, hB2.trans (hB3.mono hB2.size)⟩
      have g3 : decide (400 < v) = false := by simpa using v4
      by_cases v5 : s.size < a + m + 3
      · rw [if_pos (.inr (.inr (.inl v5)))] at hT
        have HN := Lib.hid hT
        have g4 : decide ((s.size : Int) < (a : Int) + (m : Int) + 3) = true := by simp; omega
        clear hT
        go_enter Tryd.func48, Tryd.ntmps48
        go_wp2_with fail
        refine (FI.out _).mono ?_
        rintro e w1 ⟨rfl, rfl⟩
        go_wp2_with fail
        refine (RD.out _).mono ?_
        rintro e w2 ⟨rfl, hB2⟩
        go_wp2_with fail
        refine (RD.out _).mono ?_
        rintro e w3 ⟨rfl, hB3⟩
        go_wp2_with fail
        go_ret2
        exact ⟨.inr ⟨HN.out.symm, rfl⟩, hB2.trans (hB3.mono hB2.size)⟩
      have g4 : decide ((s.size : Int) < (a : Int) + (m : Int) + 3) = false := by simp; omega
      have i3 : ((a : Int) + (m : Int) + 3 - 2).toNat = a + m + 1 := by omega
      have i4 : ((a : Int) + (m : Int) + 3).toNat = a + m + 3 := by omega
      cases v6 : ((s.extract (a + m + 1) (a + m + 3)).toList == [13, 10]) with
      | false =>
        rw [if_pos (.inr (.inr (.inr v6)))] at hT
        have HN := Lib.hid hT
        clear hT
        go_enter Tryd.func48, Tryd.ntmps48
        go_wp2_with fail
        refine (FI.out _).mono ?_
        rintro e w1 ⟨rfl, rfl⟩
        go_wp2_with fail
        refine (RD.out _).mono ?_
        rintro e w2 ⟨rfl, hB2⟩
        go_wp2_with fail
        refine (RD.out _).mono ?_
        rintro e w3 ⟨rfl, hB3⟩
        go_wp2_with fail
        go_ret2
        exact ⟨.inr ⟨HN.out.symm, rfl⟩, hB2.trans (hB3.mono hB2.size)⟩
      | true =>
        rw [if_neg (by rw [v6]; simp; omega)] at hT
        have HN := Lib.hid hT
        clear hT
        go_enter Tryd.func48, Tryd.ntmps48
        go_wp2_with fail
        refine (FI.out _).mono ?_
        rintro e w1 ⟨rfl, rfl⟩
        go_wp2_with fail
        refine (RD.out _).mono ?_
        rintro e w2 ⟨rfl, hB2⟩
        go_wp2_with fail
        refine (RD.out _).mono ?_
        rintro e w3 ⟨rfl, hB3⟩
        go_wp2_with fail
        refine (RD.out _).mono ?_
        rintro e w4 ⟨rfl, hB4⟩
        go_wp2_with fail
        go_ret2
        exact ⟨.inl ⟨v, a + m + 3, HN.out.symm, by simp⟩, (hB2.trans (hB3.mono hB2.size)).trans (hB4.mono (hB2.trans (hB3.mono hB2.size)).size)⟩
end Go.Proofs.YtconopkmiicjeaaDoor
