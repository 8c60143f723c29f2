/-
  Words: the walks of impl's read and GetWord.
-/
import Derived.Test.YtconopkmiicjeaaDoorIwL
namespace Go.Proofs.YtconopkmiicjeaaDoor
set_option linter.unusedVariables false
open Go.RowKit

theorem ext_len (s : ByteArray) (a k : Nat) : (s.extract a k).data.toList.length = min k s.size - a :=
  (Array.length_toList).trans (ByteArray.size_extract)
/-- What the program takes for an atom at a place. -/
def atomI (s : ByteArray) (a : Nat) : Option (List UInt8 × Nat) :=
  if runP atomB s.data.toList s.size a = a then none else some ((s.extract a (runP atomB s.data.toList s.size a)).data.toList, runP atomB s.data.toList s.size a)
/-- What the program takes for a word at a place. -/
def wordI (s : ByteArray) (a : Nat) : Option (List UInt8 × Nat) :=
  if Lib.hasPrefix (s.extract a s.size).data.toList [34] = true then quotedGo s.data.toList s.size (a + 1) [] else
  if Lib.hasPrefix (s.extract a s.size).data.toList [123] = true then litI s (a + 1) else atomI s a

set_option maxRecDepth 100000 in
set_option maxHeartbeats 1000000 in
theorem read_any {w : World} {g B : Nat} {s : ByteArray} {a : Nat} {v0 : ByteArray} (h : Rdr w g s a v0) (hd : Decs B w) (hBg : B ≤ g) :
    Calls Tryd.prog 41 #[.pointer (some ⟨g, 0, none⟩)] w (ReadsW (wordI s a) g s w) := by
  obtain ⟨T, hT⟩ : ∃ T, wordI s a = T := ⟨_, rfl⟩
  rw [hT]
  unfold wordI at hT
  have R := Lib.hid h
  have D := Lib.hid hd
  cases h1 : Lib.hasPrefix (s.extract a s.size).data.toList [34] with
  | true =>
    rw [if_pos h1] at hT
    have HT := Lib.hid hT
    have SK := Lib.hid (skip_yes h ⟨#[34]⟩ h1)
    rw [show (⟨#[34]⟩ : ByteArray).size = 1 from rfl] at SK
    clear hT h1 h hd
    go_enter Tryd.func41, Tryd.ntmps41
    go_wp2_with fail
    refine SK.out.mono ?_
    rintro e w1 ⟨rfl, hr1, hg1⟩
    have RQ := Lib.hid (readQuoted_any hr1)
    have G1 := Lib.hid hg1
    clear hr1 hg1
    go_wp2_with fail
    refine RQ.out.mono ?_
    rintro e w2 ⟨hcase, hg2⟩
    have G2 := Lib.hid (grownBy_trans G1.out hg2)
    clear hg2
    rcases hcase with ⟨o, j, ho, rfl, hr2⟩ | ⟨ho, rfl⟩
    · have HO := Lib.hid ho
      have R2 := Lib.hid hr2
      clear ho hr2
      go_wp2_with fail
      go_ret
      exact ⟨.inl ⟨o, j, HT.out.symm.trans HO.out, rfl, R2.out⟩, G2.out⟩
    · have HO := Lib.hid ho
      clear ho
      go_wp2_with fail
      go_ret
      exact ⟨.inr ⟨HT.out.symm.trans HO.out, rfl⟩, G2.out⟩
  | false =>
    rw [if_neg (by rw [h1]; simp)] at hT
    have SK := Lib.hid (skip_no h ⟨#[34]⟩ h1)
    cases h2 : Lib.hasPrefix (s.extract a s.size).data.toList [123] with
    | true =>
      rw [if_pos h2] at hT
      have HT := Lib.hid hT
      have H2 := Lib.hid h2
      clear hT h1 h2 h hd
      go_enter Tryd.func41, Tryd.ntmps41
      go_wp2_with fail
      refine SK.out.mono ?_
      rintro e w1 ⟨rfl, hr1, hg1⟩
      have SL := Lib.hid (skip_yes hr1 ⟨#[123]⟩ H2.out)
      rw [show (⟨#[123]⟩ : ByteArray).size = 1 from rfl] at SL
      have G1 := Lib.hid hg1
      have D1 := Lib.hid (D.out.grown hg1 hBg)
      clear hr1 hg1
      go_wp2_with fail
      refine SL.out.mono ?_
      rintro e w2 ⟨rfl, hr2, hg2⟩
      have RL := Lib.hid (readLiteral_any hr2 (D1.out.grown hg2 hBg) hBg)
      have G2 := Lib.hid (grownBy_trans G1.out hg2)
      clear hr2 hg2
      go_wp2_with fail
      refine RL.out.mono ?_
      rintro e w3 ⟨hcase, hg3⟩
      have G3 := Lib.hid (grownBy_trans G2.out hg3)
      clear hg3
      rcases hcase with ⟨o, j, ho, rfl, hr3⟩ | ⟨ho, rfl⟩
      · have HO := Lib.hid ho
        have R3 := Lib.hid hr3
        clear ho hr3
        go_wp2_with fail
        go_ret
        exact ⟨.inl ⟨o, j, HT.out.symm.trans HO.out, rfl, R3.out⟩, G3.out⟩
      · have HO := Lib.hid ho
        clear ho
        go_wp2_with fail
        go_ret
        exact ⟨.inr ⟨HT.out.symm.trans HO.out, rfl⟩, G3.out⟩
    | false =>
      rw [if_neg (by rw [h2]; simp)] at hT
      unfold atomI at hT
      have H2 := Lib.hid h2
      have hle := h.le
      have hr1' := runP_ge atomB s.data.toList s.size a
      have hr2' : runP atomB s.data.toList s.size a ≤ s.size := by have := runP_le atomB s.data.toList s.size a (by simpa using hle); simpa using this
      have RU : Hid (∀ w, Rdr w g s a v0 → Calls Tryd.prog 59 #[.pointer (some ⟨g, 0, none⟩), .func (.func 50) #[] #[]] w fun e w' => e = .returned (.string (s.extract a (runP atomB s.data.toList s.size a))) ∧ Rdr w' g s (runP atomB s.data.toList s.size a) v0 ∧ w.grownBy w' (some g)) := Lib.hid (fun w h => run_any _ atomB fits_inAtom h)
      generalize runP atomB s.data.toList s.size a = k at hT RU hr1' hr2'
      have HT := Lib.hid hT
      clear hT h1 h2 h hd
      go_enter Tryd.func41, Tryd.ntmps41
      go_wp2_with fail
      refine SK.out.mono ?_
      rintro e w1 ⟨rfl, hr1, hg1⟩
      have SL := Lib.hid (skip_no hr1 ⟨#[123]⟩ H2.out)
      have G1 := Lib.hid hg1
      clear hr1 hg1
      go_wp2_with fail
      refine SL.out.mono ?_
      rintro e w2 ⟨rfl, hr2, hg2⟩
      have R2 := Lib.hid hr2
      have G2 := Lib.hid (grownBy_trans G1.out hg2)
      clear hr2 hg2
      go_wp2_with fail
      refine (RU.out _ R2.out).mono ?_
      rintro e w3 ⟨rfl, hr3, hg3⟩
      have R3 := Lib.hid hr3
      have G3 := Lib.hid (grownBy_trans G2.out hg3)
      obtain ⟨c0, c1, c2, f1, f2⟩ := hr3.cells
      clear hr3 hg3
      by_cases hka : k = a
      · have hx : s.extract a k = ⟨#[]⟩ := by
          apply ByteArray.ext
          apply Array.ext'
          exact List.eq_nil_of_length_eq_zero (by rw [ext_len]; omega)
        rw [hx]
        have HN : Hid (T = none) := Lib.hid (by rw [← HT.out, if_pos hka])
        clear hx hka
        go_wp2_with fail
        go_ret
        exact ⟨.inr ⟨HN.out, rfl⟩, grownBy_trans G3.out (grownBy_one _ _ _ _)⟩
      · have hne : (s.extract a k).toList.isEmpty = false := by
          rw [Lib.toList_data]
          cases h : (s.extract a k).data.toList with
          | nil =>
            have := ext_len s a k
            rw [h, List.length_nil] at this
            omega
          | cons x l => rfl
        have HN : Hid (T = some ((s.extract a k).data.toList, k)) := Lib.hid (by rw [← HT.out, if_neg hka])
        clear hka
        go_wp2_with fail
        go_ret
        exact ⟨.inl ⟨_, _, HN.out, rfl, R3.out.with _⟩, grownBy_trans G3.out (grownBy_one _ _ _ _)⟩

def wdI (s : ByteArray) (p : Int) : Option (List UInt8 × Nat) := if 0 ≤ p ∧ p ≤ (s.size : Int) then wordI s p.toNat else none

set_option maxRecDepth 100000 in
set_option maxHeartbeats 1000000 in
theorem implGetWord_any (s : ByteArray) (p : Int) (w : World) (hs : s.size ≤ 1048576) (hp1 : -9223372036854775808 ≤ p) (hp2 : p ≤ 9223372036854775807) (hd : Decs w.heap.size w) :
    Calls Tryd.prog 17 #[.string s, .int .i64 p] w (TellsWord (wdI s p) w) := by
  obtain ⟨T, hT⟩ : ∃ T, wdI s p = T := ⟨_, rfl⟩
  rw [hT]
  unfold wdI at hT
  by_cases hin : 0 ≤ p ∧ p ≤ (s.size : Int)
  · rw [if_pos hin] at hT
    obtain ⟨a, rfl⟩ : ∃ a : Nat, p = a := ⟨p.toNat, by omega⟩
    obtain ⟨h1, h2⟩ := hin
    rw [Int.toNat_natCast] at hT
    have HT := Lib.hid hT
    have g1 : decide ((a : Int) < 0) = false := by simp
    have g2 : decide ((s.size : Int) < (a : Int)) = false := by simp; omega
    have RD : Hid (∀ w', Rdr w' w.heap.size s a ⟨#[]⟩ → Decs w.heap.size w' → Calls Tryd.prog 41 #[.pointer (some ⟨w.heap.size, 0, none⟩)] w' (ReadsW T w.heap.size s w')) := Lib.hid (fun w' h hd => by rw [← HT.out]; exact read_any h hd (Nat.le_refl _))
    have D := Lib.hid hd
    clear hT h1 hd
    go_enter Tryd.func17, Tryd.ntmps17
    go_wp2_with fail
    have D1 := Lib.hid (D.out.later ((Below.refl _ w).alloc (Nat.le_refl _) (.cells #[.string s, .int .i64 (a : Int), .string ⟨#[]⟩] 46)))
    refine (RD.out _ ⟨heap_alloc_new _ _, by omega, hs⟩ D1.out).mono ?_
    rintro e w2 ⟨hcase, hg2⟩
    have B2 : Hid (Below w.heap.size w w2) := Lib.hid (((Below.refl w.heap.size w).alloc (Nat.le_refl _) _).grown hg2 (by simp) (fun k e => by cases e; exact Nat.le_refl _))
    clear hg2
    rcases hcase with ⟨o, j, ho, rfl, hr2⟩ | ⟨ho, rfl⟩
    · have HO := Lib.hid ho
      obtain ⟨c0, c1, c2, f1, f2⟩ := hr2.cells
      clear ho hr2
      go_wp2_with fail
      go_quiet (fail)
      go_wp2_with fail
      go_ret2
      exact ⟨.inl ⟨o, j, HO.out, rfl⟩, ⟨B2.out.os, B2.out.tape, B2.out.output, B2.out.size, B2.out.block⟩⟩
    · have HO := Lib.hid ho
      clear ho
      go_wp2_with fail
      go_ret2
      exact ⟨.inr ⟨HO.out, rfl⟩, B2.out⟩
  · rw [if_neg hin] at hT
    have HN := Lib.hid hT
    clear hT
    by_cases h0 : p < 0
    · have g1 : decide (p < 0) = true := by simpa using h0
      clear hin h0 hd
      go_enter Tryd.func17, Tryd.ntmps17
      go_wp2_with fail
      go_ret2
      exact ⟨.inr ⟨HN.out.symm, rfl⟩, Below.refl _ _⟩
    · have g1 : decide (p < 0) = false := by simpa using h0
      have g2 : decide ((s.size : Int) < p) = true := by simp; omega
      clear hin h0 hd
      go_enter Tryd.func17, Tryd.ntmps17
      go_wp2_with fail
      go_ret2
      exact ⟨.inr ⟨HN.out.symm, rfl⟩, Below.refl _ _⟩
end Go.Proofs.YtconopkmiicjeaaDoor
