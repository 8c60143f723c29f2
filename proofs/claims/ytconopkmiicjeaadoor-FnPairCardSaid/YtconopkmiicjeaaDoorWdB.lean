/-
  Words: the walks of spec's PutString, PutWord, NString.
-/
import Derived.Test.YtconopkmiicjeaaDoorWdA
import Derived.Test.YtconopkmiicjeaaDoorWdC
import Derived.Test.YtconopkmiicjeaaDoorDecA
import Derived.Lib.ItoaLen
namespace Go.Proofs.YtconopkmiicjeaaDoor
set_option linter.unusedVariables false
open Go.RowKit

/-- How long a number's text may be. -/
theorem itoa_len (n : Nat) (h : n ≤ 67108864) : (Lib.itoa (n : Int)).length ≤ 21 := Lib.itoa_length_le (n : Int) (by omega) (by omega)

set_option maxRecDepth 100000 in
set_option maxHeartbeats 1000000 in
theorem specPutString_any (s : ByteArray) (w : World) (hs : s.size ≤ 67108864) :
    Calls Tryd.prog 15 #[.string s] w fun e w' => e = .returned (.string ⟨(putStr s.data.toList).toArray⟩) ∧ Below w.heap.size w w' := by
  have hlen : s.data.toList.length = s.size := by simp
  have HA := Lib.hid (fun w => has_any s 0 w (by omega))
  have PL := Lib.hid (fun w => plain_any s w (by omega))
  have QU := Lib.hid (fun w => specQuote_any s w hs)
  have DE := Lib.hid (fun w => decText_any (s.size : Int) w (by omega) (by omega))
  cases h0 : hasL 0 s.data.toList with
  | true =>
    have hp : putStr s.data.toList = [] := by unfold putStr; rw [if_pos (.inl h0)]
    rw [hp]
    rw [h0] at HA
    clear hp h0
    go_enter Tryd.func15, Tryd.ntmps15
    go_wp2_with fail
    refine (HA.out _).mono ?_
    rintro e w1 ⟨rfl, rfl⟩
    go_wp2_with fail
    go_ret
    exact ⟨rfl, Below.refl _ _⟩
  | false =>
    rw [h0] at HA
    by_cases h4 : 400 < s.size
    · have hp : putStr s.data.toList = [] := by unfold putStr; rw [if_pos (.inr (by omega))]
      rw [hp]
      have g4 : decide ((400 : Int) < (s.size : Int)) = true := by simp; omega
      clear hp h0 h4
      go_enter Tryd.func15, Tryd.ntmps15
      go_wp2_with fail
      refine (HA.out _).mono ?_
      rintro e w1 ⟨rfl, rfl⟩
      go_wp2_with fail
      go_ret
      exact ⟨rfl, Below.refl _ _⟩
    · have g4 : decide ((400 : Int) < (s.size : Int)) = false := by simp; omega
      have hb0 : ¬ (hasL 0 s.data.toList = true ∨ 400 < s.data.toList.length) := by rw [h0]; simp; omega
      have LIT : Hid (¬ (s.data.toList.length ≤ 60 ∧ plainAll s.data.toList = true) → (⟨(putStr s.data.toList).toArray⟩ : ByteArray) = ⟨#[123]⟩ ++ ⟨(Lib.itoa (s.size : Int)).toArray⟩ ++ ⟨#[125, 13, 10]⟩ ++ s) := Lib.hid (fun hn => by
        unfold putStr
        rw [if_neg hb0, if_neg hn, hlen]
        apply ByteArray.ext
        apply Array.ext'
        simp [ByteArray.data_append])
      have hil := itoa_len s.size hs
      have hds : (⟨(Lib.itoa (s.size : Int)).toArray⟩ : ByteArray).size ≤ 21 := by show (Lib.itoa (s.size : Int)).toArray.size ≤ 21; simpa using hil
      have z1 : (⟨#[123]⟩ : ByteArray).size = 1 := rfl
      have z3 : (⟨#[125, 13, 10]⟩ : ByteArray).size = 3 := rfl
      by_cases h6 : s.size ≤ 60
      · have g6 : decide ((s.size : Int) ≤ 60) = true := by simp; omega
        cases hpl : plainAll s.data.toList with
        | true =>
          have hp : putStr s.data.toList = quoteL s.data.toList := by unfold putStr; rw [if_neg hb0, if_pos ⟨by omega, hpl⟩]
          rw [hp]
          rw [hpl] at PL
          clear hp h0 h4 hb0 hpl LIT
          go_enter Tryd.func15, Tryd.ntmps15
          go_wp2_with fail
          refine (HA.out _).mono ?_
          rintro e w1 ⟨rfl, rfl⟩
          go_wp2_with fail
          refine (PL.out _).mono ?_
          rintro e w2 ⟨rfl, rfl⟩
          go_wp2_with fail
          refine (QU.out _).mono ?_
          rintro e w3 ⟨rfl, hB3⟩
          go_wp2_with fail
          go_ret
          exact ⟨rfl, hB3⟩
        | false =>
          rw [LIT.out (by rw [hpl]; simp)]
          rw [hpl] at PL
          generalize (⟨(Lib.itoa (s.size : Int)).toArray⟩ : ByteArray) = D at DE hds ⊢
          clear h0 h4 hb0 hpl LIT hil
          go_enter Tryd.func15, Tryd.ntmps15
          go_wp2_with fail
          refine (HA.out _).mono ?_
          rintro e w1 ⟨rfl, rfl⟩
          go_wp2_with fail
          refine (PL.out _).mono ?_
          rintro e w2 ⟨rfl, rfl⟩
          go_wp2_with fail
          refine (DE.out _).mono ?_
          rintro e w3 ⟨rfl, rfl⟩
          go_wp2_with fail
          go_ret
          exact ⟨rfl, Below.refl _ _⟩
      · have g6 : decide ((s.size : Int) ≤ 60) = false := by simp; omega
        rw [LIT.out (by rw [hlen]; omega)]
        generalize (⟨(Lib.itoa (s.size : Int)).toArray⟩ : ByteArray) = D at DE hds ⊢
        clear h0 h4 hb0 LIT hil
        go_enter Tryd.func15, Tryd.ntmps15
        go_wp2_with fail
        refine (HA.out _).mono ?_
        rintro e w1 ⟨rfl, rfl⟩
        go_wp2_with fail
        refine (DE.out _).mono ?_
        rintro e w3 ⟨rfl, rfl⟩
        go_wp2_with fail
        go_ret
        exact ⟨rfl, Below.refl _ _⟩

def nilA : ByteArray := ⟨#[78, 73, 76]⟩
set_option maxRecDepth 100000 in
set_option maxHeartbeats 1000000 in
theorem specPutWord_any (s : ByteArray) (w : World) (hs : s.size ≤ 67108864) :
    Calls Tryd.prog 16 #[.string s] w fun e w' => e = .returned (.string ⟨(putWd s.data.toList).toArray⟩) ∧ Below w.heap.size w w' := by
  have AO := Lib.hid (fun w => specAtomOk_any s w (by omega))
  have SA := Lib.hid (fun w => specSame_any s nilA w (by unfold maxLen; omega) (by decide))
  have PS := Lib.hid (fun w => specPutString_any s w hs)
  have hnl : nilA.data.toList = nilL := rfl
  rw [hnl] at SA
  clear hnl
  cases h1 : atomOk s.data.toList with
  | false =>
    have hp : putWd s.data.toList = putStr s.data.toList := by unfold putWd; rw [if_neg (by rw [h1]; simp)]
    rw [hp]
    rw [h1] at AO
    clear hp h1
    go_enter Tryd.func16, Tryd.ntmps16
    go_wp2_with fail
    refine (AO.out _).mono ?_
    rintro e w1 ⟨rfl, rfl⟩
    go_wp2_with fail
    refine (PS.out _).mono ?_
    rintro e w2 ⟨rfl, hB2⟩
    go_wp2_with fail
    go_ret
    exact ⟨rfl, hB2⟩
  | true =>
    rw [h1] at AO
    cases h2 : sameB s.data.toList nilL with
    | true =>
      have hp : putWd s.data.toList = putStr s.data.toList := by unfold putWd; rw [if_neg (by rw [h2]; simp)]
      rw [hp]
      rw [h2] at SA
      clear hp h1 h2
      go_enter Tryd.func16, Tryd.ntmps16
      go_wp2_with fail
      refine (AO.out _).mono ?_
      rintro e w1 ⟨rfl, rfl⟩
      go_wp2_with fail
      refine (SA.out _).mono ?_
      rintro e w3 ⟨rfl, hB3⟩
      go_wp2_with fail
      refine (PS.out _).mono ?_
      rintro e w2 ⟨rfl, hB2⟩
      go_wp2_with fail
      go_ret
      exact ⟨rfl, hB3.trans (hB2.mono hB3.size)⟩
    | false =>
      have hp : (⟨(putWd s.data.toList).toArray⟩ : ByteArray) = s := by unfold putWd; rw [if_pos ⟨h1, h2⟩]
      rw [hp]
      rw [h2] at SA
      clear hp h1 h2
      go_enter Tryd.func16, Tryd.ntmps16
      go_wp2_with fail
      refine (AO.out _).mono ?_
      rintro e w1 ⟨rfl, rfl⟩
      go_wp2_with fail
      refine (SA.out _).mono ?_
      rintro e w3 ⟨rfl, hB3⟩
      go_wp2_with fail
      go_ret
      exact ⟨rfl, hB3⟩

/-- The text of what may not be there. -/
def nstr (there : Bool) (l : List UInt8) : List UInt8 := if there then putStr l else nilL
set_option maxRecDepth 100000 in
set_option maxHeartbeats 400000 in
theorem specNString_any (s : ByteArray) (b : Bool) (w : World) (hs : s.size ≤ 67108864) :
    Calls Tryd.prog 26 #[.string s, .bool b] w fun e w' => e = .returned (.string ⟨(nstr b s.data.toList).toArray⟩) ∧ Below w.heap.size w w' := by
  have PS := Lib.hid (fun w => specPutString_any s w hs)
  cases b with
  | false =>
    go_enter Tryd.func26, Tryd.ntmps26
    go_wp2_with fail
    go_ret
    exact ⟨rfl, Below.refl _ _⟩
  | true =>
    go_enter Tryd.func26, Tryd.ntmps26
    go_wp2_with fail
    refine (PS.out _).mono ?_
    rintro e w2 ⟨rfl, hB2⟩
    go_wp2_with fail
    go_ret
    exact ⟨rfl, hB2⟩
end Go.Proofs.YtconopkmiicjeaaDoor
