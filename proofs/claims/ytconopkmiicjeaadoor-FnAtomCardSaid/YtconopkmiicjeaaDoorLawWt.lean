/-
  The law FnAtom, for every code.
-/
import Derived.Test.YtconopkmiicjeaaDoorIwB
import Derived.Test.YtconopkmiicjeaaDoorWdV
import Derived.Test.YtconopkmiicjeaaDoorDrawWn
import Derived.Test.YtconopkmiicjeaaDoorBig
namespace Go.Proofs.YtconopkmiicjeaaDoor
set_option linter.unusedVariables false
open Go.RowKit

theorem quote_ge (l : List UInt8) : l.length + 2 ≤ (quoteL l).length := by
  unfold quoteL
  have : l.length ≤ (l.flatMap escB).length := by
    induction l with
    | nil => simp
    | cons b l ih =>
      rw [List.flatMap_cons, List.length_append, List.length_cons]
      have : 1 ≤ (escB b).length := by unfold escB; split <;> simp
      omega
  rw [List.length_append, List.length_cons, List.length_singleton]
  omega
theorem atom_behind (l : List UInt8) : atomOk (l ++ [32]) = false := by
  unfold atomOk
  rw [List.all_append, show [(32 : UInt8)].all atomB = false by decide]
  simp
theorem atom_ahead (l : List UInt8) : atomOk (40 :: l) = false := by
  unfold atomOk
  rw [List.all_cons, show atomB 40 = false by decide]
  rfl
def blankA : ByteArray := ⟨#[32]⟩
def openA : ByteArray := ⟨#[40]⟩

set_option maxRecDepth 100000 in
set_option maxHeartbeats 2000000 in
theorem lawAtom_walk (a0 : Option Addr) (len0 cap0 : Nat) (z0 : List Int) (w : World) (w0 : IsRow .u8 w a0 len0 cap0 z0) (ht : Tens w) :
    Calls Tryd.prog 5 #[.slice a0 len0 cap0] w fun e w' => e = .returned (.bool true) ∧ Below w.heap.size w w' := by
  have W0 := Lib.hid w0
  have HT := Lib.hid ht
  clear w0 ht
  by_cases hl : len0 ≤ 1048576
  · go_enter Tryd.func5, Tryd.ntmps5
    go_wp2_with fail
    refine (big_no _ _ _ _ hl).mono ?_
    rintro e w1 ⟨rfl, rfl⟩
    go_wp2_with fail
    refine (drawAtomOk_any ⟨a0, len0, cap0, z0⟩ w1 w1 W0.out hl (Below.refl _ _)).mono ?_
    rintro e w2 ⟨s, rfl, hs, _, hB2⟩
    have B2 := Lib.hid hB2
    clear hB2
    go_wp2_with fail
    refine (drawNString_any ⟨a0, len0, cap0, z0⟩ w1 w2 W0.out hl B2.out).mono ?_
    rintro e w3 ⟨t, b, rfl, hts, hB3⟩
    have B3 := Lib.hid (B2.out.trans (hB3.mono B2.out.size))
    clear hB3
    go_wp2_with fail
    refine (drawQuote_any ⟨a0, len0, cap0, z0⟩ w1 w3 W0.out hl B3.out).mono ?_
    rintro e w4 ⟨q, rfl, hqs, _, hB4⟩
    have B4 := Lib.hid (B3.out.trans (hB4.mono B3.out.size))
    clear hB4
    have IA := Lib.hid (fun w => implAtomOk_any s w (by omega))
    have SA := Lib.hid (fun w => specAtomOk_any s w (by omega))
    generalize atomOk s.data.toList = V at IA SA
    have z1 : (⟨#[32]⟩ : ByteArray).size = 1 := rfl
    have z2 : (⟨#[40]⟩ : ByteArray).size = 1 := rfl
    have q1 : ¬ 9223372036854775807 < s.size + 1 := by omega
    have q2 : ¬ 9223372036854775807 < 1 + s.size := by omega
    have IB : Hid (∀ w, Calls Tryd.prog 20 #[.string (s ++ blankA)] w fun e w' => e = .returned (.bool false) ∧ w' = w) := Lib.hid (fun w => by
      have h := implAtomOk_any (s ++ blankA) w (by rw [ByteArray.size_append]; have : blankA.size = 1 := rfl; omega)
      rw [show (s ++ blankA).data.toList = s.data.toList ++ [32] by rw [ByteArray.data_append]; simp; rfl, atom_behind] at h
      exact h)
    have IC : Hid (∀ w, Calls Tryd.prog 20 #[.string (openA ++ s)] w fun e w' => e = .returned (.bool false) ∧ w' = w) := Lib.hid (fun w => by
      have h := implAtomOk_any (openA ++ s) w (by rw [ByteArray.size_append]; have : openA.size = 1 := rfl; omega)
      rw [show (openA ++ s).data.toList = 40 :: s.data.toList by rw [ByteArray.data_append]; simp; rfl, atom_ahead] at h
      exact h)
    have NI := Lib.hid (fun w ht => implNString_any t b w (by omega) ht)
    have NS := Lib.hid (fun w => specNString_any t b w (by omega))
    generalize nstr b t.data.toList = N at NI NS
    have N0 := Lib.hid (fun w ht => implNString_any t false w (by omega) ht)
    have N1 := Lib.hid (fun w ht => implNString_any t true w (by omega) ht)
    have IP := Lib.hid (fun w ht => implPutString_any t w (by omega) ht)
    rw [show nstr false t.data.toList = [78, 73, 76] from rfl] at N0
    rw [show nstr true t.data.toList = putStr t.data.toList from rfl] at N1
    generalize putStr t.data.toList = PT at N1 IP
    have IQ := Lib.hid (fun w => implQuote_any q w (by omega))
    have SQ := Lib.hid (fun w => specQuote_any q w (by omega))
    have hq1 := quote_ge q.data.toList
    have hq2 := quote_len q.data.toList
    rw [show q.data.toList.length = q.size by simp] at hq1 hq2
    obtain ⟨Q, hQ⟩ : ∃ Q : ByteArray, (⟨(quoteL q.data.toList).toArray⟩ : ByteArray) = Q := ⟨_, rfl⟩
    have hQs : Q.size = (quoteL q.data.toList).length := by rw [← hQ]; show (quoteL q.data.toList).toArray.size = _; simp
    rw [← hQs] at hq1 hq2
    rw [hQ] at IQ SQ
    have g1 : decide ((q.size : Int) + 2 ≤ (Q.size : Int)) = true := by simp; omega
    clear hQ hQs
    go_wp2_with fail
    refine (IA.out _).mono ?_
    rintro e w5 ⟨rfl, rfl⟩
    go_wp2_with fail
    refine (SA.out _).mono ?_
    rintro e w6 ⟨rfl, rfl⟩
    go_wp2_with fail
    refine (IB.out _).mono ?_
    rintro e w7 ⟨rfl, rfl⟩
    go_wp2_with fail
    refine (IC.out _).mono ?_
    rintro e w8 ⟨rfl, rfl⟩
    go_wp2_with fail
    refine (NI.out _ (HT.out.later B4.out)).mono ?_
    rintro e w9 ⟨rfl, hB9⟩
    have B9 := Lib.hid (B4.out.trans (hB9.mono B4.out.size))
    clear hB9
    go_wp2_with fail
    refine (NS.out _).mono ?_
    rintro e w10 ⟨rfl, hB10⟩
    have B10 := Lib.hid (B9.out.trans (hB10.mono B9.out.size))
    clear hB10
    go_wp2_with fail
    refine (N0.out _ (HT.out.later B10.out)).mono ?_
    rintro e w11 ⟨rfl, hB11⟩
    have B11 := Lib.hid (B10.out.trans (hB11.mono B10.out.size))
    clear hB11
    go_wp2_with fail
    refine (N1.out _ (HT.out.later B11.out)).mono ?_
    rintro e w12 ⟨rfl, hB12⟩
    have B12 := Lib.hid (B11.out.trans (hB12.mono B11.out.size))
    clear hB12
    go_wp2_with fail
    refine (IP.out _ (HT.out.later B12.out)).mono ?_
    rintro e w13 ⟨rfl, hB13⟩
    have B13 := Lib.hid (B12.out.trans (hB13.mono B12.out.size))
    clear hB13
    go_wp2_with fail
    refine (IQ.out _).mono ?_
    rintro e w14 ⟨rfl, hB14⟩
    have B14 := Lib.hid (B13.out.trans (hB14.mono B13.out.size))
    clear hB14
    go_wp2_with fail
    refine (SQ.out _).mono ?_
    rintro e w15 ⟨rfl, hB15⟩
    have B15 := Lib.hid (B14.out.trans (hB15.mono B14.out.size))
    clear hB15
    go_wp2_with fail
    refine (IQ.out _).mono ?_
    rintro e w16 ⟨rfl, hB16⟩
    have B16 := Lib.hid (B15.out.trans (hB16.mono B15.out.size))
    clear hB16
    go_wp2_with fail
    go_ret
    exact ⟨rfl, B16.out⟩
  · go_enter Tryd.func5, Tryd.ntmps5
    go_wp2_with fail
    refine (big_yes _ _ _ _ (by omega)).mono ?_
    rintro e w1 ⟨rfl, rfl⟩
    go_wp2_with fail
    go_ret
    exact ⟨rfl, Below.refl _ _⟩
end Go.Proofs.YtconopkmiicjeaaDoor
