/-
  Strings: the walks of impl's inQuoted, inLiteral, PutString, NString.
-/
import Derived.Test.YtgebkpnieailbaaDoorIdxH
import Derived.Test.YtgebkpnieailbaaDoorFits
import Derived.Test.YtgebkpnieailbaaDoorIwQ
import Derived.Test.YtgebkpnieailbaaDoorPsS
import Derived.Test.YtgebkpnieailbaaDoorDecB
namespace Go.Proofs.YtgebkpnieailbaaDoor
set_option linter.unusedVariables false
open Go.RowKit

set_option maxHeartbeats 400000 in
theorem inQuoted_any (b : UInt8) (w : World) :
    Calls Tryd.prog 21 #[.int .u8 b.toNat] w fun e w' => e = .returned (.bool (plainB b)) ∧ w = w' := by
  unfold plainB
  by_cases h1 : 32 ≤ b.toNat
  · have g1 : decide ((32 : Int) ≤ (b.toNat : Int)) = true := by simp; omega
    by_cases h2 : b.toNat ≤ 126
    · rw [decide_eq_true (And.intro h1 h2)]
      have g2 : decide ((b.toNat : Int) < 127) = true := by simp; omega
      clear h1 h2
      go_enter Tryd.func21, Tryd.ntmps21
      go_wp2_with fail
      go_ret
      exact ⟨rfl, rfl⟩
    · rw [decide_eq_false (fun h => h2 h.2)]
      have g2 : decide ((b.toNat : Int) < 127) = false := by simp; omega
      clear h1 h2
      go_enter Tryd.func21, Tryd.ntmps21
      go_wp2_with fail
      go_ret
      exact ⟨rfl, rfl⟩
  · rw [decide_eq_false (fun h => h1 h.1)]
    have g1 : decide ((32 : Int) ≤ (b.toNat : Int)) = false := by simp; omega
    clear h1
    go_enter Tryd.func21, Tryd.ntmps21
    go_wp2_with fail
    go_ret
    exact ⟨rfl, rfl⟩
theorem fits_inQuoted : Fits 21 plainB := ⟨inQuoted_any, enters_of Tryd.func21 (by kernel_rfl) rfl⟩

set_option maxHeartbeats 400000 in
theorem inLiteral_any (s : ByteArray) (w : World) :
    Calls Tryd.prog 19 #[.string s] w fun e w' => e = .returned (.bool (litOk s.data.toList)) ∧ w = w' := by
  unfold litOk
  have IB := Lib.hid (fun w => Tryd.strings_IndexByte s 0 w)
  have ih := index_has s.data.toList 0
  have hl : s.data.toList.length = s.size := by simp
  rw [show (0 : Int).toNat.toUInt8 = (0 : UInt8) from rfl] at IB
  generalize Lib.indexByte s.data.toList 0 = I at IB ih
  generalize hasL 0 s.data.toList = v at ih
  have IH := Lib.hid ih
  clear ih
  rw [hl]
  clear hl
  by_cases h2 : s.size ≤ 400
  · rw [decide_eq_true h2]
    have g2 : decide ((s.size : Int) ≤ 400) = true := by simp; omega
    clear h2
    go_enter Tryd.func19, Tryd.ntmps19
    go_wp2_with fail
    refine (IB.out _).mono ?_
    rintro e w1 ⟨rfl, rfl⟩
    go_wp2_with fail
    go_ret
    exact ⟨by rw [IH.out]; rfl, rfl⟩
  · rw [decide_eq_false h2]
    have g2 : decide ((s.size : Int) ≤ 400) = false := by simp; omega
    clear h2
    go_enter Tryd.func19, Tryd.ntmps19
    go_wp2_with fail
    go_ret
    exact ⟨rfl, rfl⟩

set_option maxRecDepth 100000 in
set_option maxHeartbeats 1000000 in
theorem implPutString_any (s : ByteArray) (w : World) (hs : s.size ≤ 67108864) (ht : Tens w) :
    Calls Tryd.prog 12 #[.string s] w fun e w' => e = .returned (.string ⟨(putStr s.data.toList).toArray⟩) ∧ Below w.heap.size w w' := by
  have hlen : s.data.toList.length = s.size := by simp
  have HA := Lib.hid (fun w => inLiteral_any s w)
  have PL := Lib.hid (fun w => all_any 21 plainB fits_inQuoted s w (by omega))
  have QU := Lib.hid (fun w => implQuote_any s w hs)
  have DE := Lib.hid (fun w ht => implDec_any (s.size : Int) w (by omega) (by omega) ht)
  have HT := Lib.hid ht
  clear ht
  have hlo : litOk s.data.toList = (decide (s.size ≤ 400) && !hasL 0 s.data.toList) := by unfold litOk; rw [hlen]
  rw [hlo] at HA
  clear hlo
  cases h0 : hasL 0 s.data.toList with
  | true =>
    have hp : putStr s.data.toList = [] := by unfold putStr; rw [if_pos (.inl h0)]
    rw [hp]
    rw [h0, show (decide (s.size ≤ 400) && !true) = false by simp] at HA
    clear hp h0
    go_enter Tryd.func12, Tryd.ntmps12
    go_wp2_with fail
    refine (HA.out _).mono ?_
    rintro e w1 ⟨rfl, rfl⟩
    go_wp2_with fail
    go_ret
    exact ⟨rfl, Below.refl _ _⟩
  | false =>
    rw [h0] at HA
    by_cases h4 : 400 < s.size
    · have hp : putStr s.data.toList = [] := by unfold putStr; rw [if_pos (.inr (by omega))]
      rw [hp]
      rw [show (decide (s.size ≤ 400) && !false) = false by simp; omega] at HA
      clear hp h0 h4
      go_enter Tryd.func12, Tryd.ntmps12
      go_wp2_with fail
      refine (HA.out _).mono ?_
      rintro e w1 ⟨rfl, rfl⟩
      go_wp2_with fail
      go_ret
      exact ⟨rfl, Below.refl _ _⟩
    · rw [show (decide (s.size ≤ 400) && !false) = true by simp; omega] at HA
      have hb0 : ¬ (hasL 0 s.data.toList = true ∨ 400 < s.data.toList.length) := by rw [h0]; simp; omega
      have LIT : Hid (¬ (s.data.toList.length ≤ 60 ∧ plainAll s.data.toList = true) → (⟨(putStr s.data.toList).toArray⟩ : ByteArray) = ⟨#[123]⟩ ++ ⟨(Lib.itoa (s.size : Int)).toArray⟩ ++ ⟨#[125, 13, 10]⟩ ++ s) := Lib.hid (fun hn => by
        unfold putStr
        rw [if_neg hb0, if_neg hn, hlen]
        apply ByteArray.ext
        apply Array.ext'
        simp [ByteArray.data_append])
      have hil := itoa_len s.size hs
      have hds : (⟨(Lib.itoa (s.size : Int)).toArray⟩ : ByteArray).size ≤ 21 := by show (Lib.itoa (s.size : Int)).toArray.size ≤ 21; simpa using hil
      have z1 : (⟨#[123]⟩ : ByteArray).size = 1 := rfl
      have z3 : (⟨#[125, 13, 10]⟩ : ByteArray).size = 3 := rfl
      by_cases h6 : s.size ≤ 60
      · have g6 : decide ((s.size : Int) ≤ 60) = true := by simp; omega
        cases hpl : plainAll s.data.toList with
        | true =>
          have hp : putStr s.data.toList = quoteL s.data.toList := by unfold putStr; rw [if_neg hb0, if_pos ⟨by omega, hpl⟩]
          rw [hp]
          rw [show s.data.toList.all plainB = true from hpl] at PL
          clear hp h0 h4 hb0 hpl LIT
          go_enter Tryd.func12, Tryd.ntmps12
          go_wp2_with fail
          refine (HA.out _).mono ?_
          rintro e w1 ⟨rfl, rfl⟩
          go_wp2_with fail
          refine (PL.out _).mono ?_
          rintro e w2 ⟨rfl, rfl⟩
          go_wp2_with fail
          refine (QU.out _).mono ?_
          rintro e w3 ⟨rfl, hB3⟩
          go_wp2_with fail
          go_ret
          exact ⟨rfl, hB3⟩
        | false =>
          rw [LIT.out (by rw [hpl]; simp)]
          rw [show s.data.toList.all plainB = false from hpl] at PL
          generalize (⟨(Lib.itoa (s.size : Int)).toArray⟩ : ByteArray) = D at DE hds ⊢
          clear h0 h4 hb0 hpl LIT hil
          go_enter Tryd.func12, Tryd.ntmps12
          go_wp2_with fail
          refine (HA.out _).mono ?_
          rintro e w1 ⟨rfl, rfl⟩
          go_wp2_with fail
          refine (PL.out _).mono ?_
          rintro e w2 ⟨rfl, rfl⟩
          go_wp2_with fail
          refine (DE.out _ HT.out).mono ?_
          rintro e w3 ⟨rfl, hB3⟩
          go_wp2_with fail
          go_ret
          exact ⟨rfl, hB3⟩
      · have g6 : decide ((s.size : Int) ≤ 60) = false := by simp; omega
        rw [LIT.out (by rw [hlen]; omega)]
        generalize (⟨(Lib.itoa (s.size : Int)).toArray⟩ : ByteArray) = D at DE hds ⊢
        clear h0 h4 hb0 LIT hil
        go_enter Tryd.func12, Tryd.ntmps12
        go_wp2_with fail
        refine (HA.out _).mono ?_
        rintro e w1 ⟨rfl, rfl⟩
        go_wp2_with fail
        refine (DE.out _ HT.out).mono ?_
        rintro e w3 ⟨rfl, hB3⟩
        go_wp2_with fail
        go_ret
        exact ⟨rfl, hB3⟩

theorem Tens.lt {w : World} (h : Tens w) : 1 < w.heap.size := var_lt (n := "internal/strconv.uint64pow10") (by kernel_rfl) h
theorem Tens.later {w w' : World} (h : Tens w) (hb : Below w.heap.size w w') : Tens w' := (var_below (n := "internal/strconv.uint64pow10") (g := 1) (by kernel_rfl) hb h.lt).trans h
end Go.Proofs.YtgebkpnieailbaaDoor
