/-
  Strings: the walks of spec's PutString, NString.
-/
import Derived.Test.YtgebkpnieailbaaDoorWdA
import Derived.Test.YtgebkpnieailbaaDoorWdC
import Derived.Test.YtgebkpnieailbaaDoorDecA
namespace Go.Proofs.YtgebkpnieailbaaDoor
set_option linter.unusedVariables false
open Go.RowKit

set_option maxRecDepth 100000 in
set_option maxHeartbeats 1000000 in
theorem specPutString_any (s : ByteArray) (w : World) (hs : s.size ≤ 67108864) :
    Calls Tryd.prog 10 #[.string s] w fun e w' => e = .returned (.string ⟨(putStr s.data.toList).toArray⟩) ∧ Below w.heap.size w w' := by
  have hlen : s.data.toList.length = s.size := by simp
  have HA := Lib.hid (fun w => has_any s 0 w (by omega))
  have PL := Lib.hid (fun w => plain_any s w (by omega))
  have QU := Lib.hid (fun w => specQuote_any s w hs)
  have DE := Lib.hid (fun w => decText_any (s.size : Int) w (by omega) (by omega))
  cases h0 : hasL 0 s.data.toList with
  | true =>
    have hp : putStr s.data.toList = [] := by unfold putStr; rw [if_pos (.inl h0)]
    rw [hp]
    rw [h0] at HA
    clear hp h0
    go_enter Tryd.func10, Tryd.ntmps10
    go_wp2_with fail
    refine (HA.out _).mono ?_
    rintro e w1 ⟨rfl, rfl⟩
    go_wp2_with fail
    go_ret
    exact ⟨rfl, Below.refl _ _⟩
  | false =>
    rw [h0] at HA
    by_cases h4 : 400 < s.size
    · have hp : putStr s.data.toList = [] := by unfold putStr; rw [if_pos (.inr (by omega))]
      rw [hp]
      have g4 : decide ((400 : Int) < (s.size : Int)) = true := by simp; omega
      clear hp h0 h4
      go_enter Tryd.func10, Tryd.ntmps10
      go_wp2_with fail
      refine (HA.out _).mono ?_
      rintro e w1 ⟨rfl, rfl⟩
      go_wp2_with fail
      go_ret
      exact ⟨rfl, Below.refl _ _⟩
    · have g4 : decide ((400 : Int) < (s.size : Int)) = false := by simp; omega
      have hb0 : ¬ (hasL 0 s.data.toList = true ∨ 400 < s.data.toList.length) := by rw [h0]; simp; omega
      have LIT : Hid (¬ (s.data.toList.length ≤ 60 ∧ plainAll s.data.toList = true) → (⟨(putStr s.data.toList).toArray⟩ : ByteArray) = ⟨#[123]⟩ ++ ⟨(Lib.itoa (s.size : Int)).toArray⟩ ++ ⟨#[125, 13, 10]⟩ ++ s) := Lib.hid (fun hn => by
        unfold putStr
        rw [if_neg hb0, if_neg hn, hlen]
        apply ByteArray.ext
        apply Array.ext'
        simp [ByteArray.data_append])
      have hil := itoa_len s.size hs
      have hds : (⟨(Lib.itoa (s.size : Int)).toArray⟩ : ByteArray).size ≤ 21 := by show (Lib.itoa (s.size : Int)).toArray.size ≤ 21; simpa using hil
      have z1 : (⟨#[123]⟩ : ByteArray).size = 1 := rfl
      have z3 : (⟨#[125, 13, 10]⟩ : ByteArray).size = 3 := rfl
      by_cases h6 : s.size ≤ 60
      · have g6 : decide ((s.size : Int) ≤ 60) = true := by simp; omega
        cases hpl : plainAll s.data.toList with
        | true =>
          have hp : putStr s.data.toList = quoteL s.data.toList := by unfold putStr; rw [if_neg hb0, if_pos ⟨by omega, hpl⟩]
          rw [hp]
          rw [hpl] at PL
          clear hp h0 h4 hb0 hpl LIT
          go_enter Tryd.func10, Tryd.ntmps10
          go_wp2_with fail
          refine (HA.out _).mono ?_
          rintro e w1 ⟨rfl, rfl⟩
          go_wp2_with fail
          refine (PL.out _).mono ?_
          rintro e w2 ⟨rfl, rfl⟩
          go_wp2_with fail
          refine (QU.out _).mono ?_
          rintro e w3 ⟨rfl, hB3⟩
          go_wp2_with fail
          go_ret
          exact ⟨rfl, hB3⟩
        | false =>
          rw [LIT.out (by rw [hpl]; simp)]
          rw [hpl] at PL
          generalize (⟨(Lib.itoa (s.size : Int)).toArray⟩ : ByteArray) = D at DE hds ⊢
          clear h0 h4 hb0 hpl LIT hil
          go_enter Tryd.func10, Tryd.ntmps10
          go_wp2_with fail
          refine (HA.out _).mono ?_
          rintro e w1 ⟨rfl, rfl⟩
          go_wp2_with fail
          refine (PL.out _).mono ?_
          rintro e w2 ⟨rfl, rfl⟩
          go_wp2_with fail
          refine (DE.out _).mono ?_
          rintro e w3 ⟨rfl, rfl⟩
          go_wp2_with fail
          go_ret
          exact ⟨rfl, Below.refl _ _⟩
      · have g6 : decide ((s.size : Int) ≤ 60) = false := by simp; omega
        rw [LIT.out (by rw [hlen]; omega)]
        generalize (⟨(Lib.itoa (s.size : Int)).toArray⟩ : ByteArray) = D at DE hds ⊢
        clear h0 h4 hb0 LIT hil
        go_enter Tryd.func10, Tryd.ntmps10
        go_wp2_with fail
        refine (HA.out _).mono ?_
        rintro e w1 ⟨rfl, rfl⟩
        go_wp2_with fail
        refine (DE.out _).mono ?_
        rintro e w3 ⟨rfl, rfl⟩
        go_wp2_with fail
        go_ret
        exact ⟨rfl, Below.refl _ _⟩
end Go.Proofs.YtgebkpnieailbaaDoor
