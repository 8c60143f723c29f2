/-
  The law FnWord, for every code.
-/
import Derived.Test.YtconopkmiicjeaaDoorLawWs
import Derived.Test.YtconopkmiicjeaaDoorDrawGw
namespace Go.Proofs.YtconopkmiicjeaaDoor
set_option linter.unusedVariables false
open Go.RowKit

set_option maxRecDepth 100000 in
set_option maxHeartbeats 4000000 in
theorem lawWord_walk (a0 : Option Addr) (len0 cap0 : Nat) (z0 : List Int) (w : World) (w0 : IsRow .u8 w a0 len0 cap0 z0) (ht : Tens w) (he : Errs w) (hg : w.heap.size > 2 ∧ w.heap.size > 3 ∧ w.heap.size > 1) :
    Calls Tryd.prog 4 #[.slice a0 len0 cap0] w fun e w' => e = .returned (.bool true) ∧ Below w.heap.size w w' := by
  have W0 := Lib.hid w0
  have DD := Lib.hid (decs_later ht he hg)
  clear w0 ht he hg
  by_cases hl : len0 ≤ 1048576
  · go_enter Tryd.func4, Tryd.ntmps4
    go_wp2_with fail
    refine (big_no _ _ _ _ hl).mono ?_
    rintro e w1 ⟨rfl, rfl⟩
    go_wp2_with fail
    refine (drawGetWord_any ⟨a0, len0, cap0, z0⟩ w1 w1 W0.out hl (Below.refl _ _)).mono ?_
    rintro e w2 ⟨s, p, rfl, hs, hp1, hp2, hB2⟩
    have B2 := Lib.hid hB2
    clear hB2
    obtain ⟨T, hT⟩ : ∃ T, getWd s p = T := ⟨_, rfl⟩
    have SPEC : Hid (∀ w, Calls Tryd.prog 19 #[.string s, .int .i64 p] w (TellsWord T w)) := Lib.hid (fun w => by rw [← hT]; exact specGetWord_any s p w (by omega) (by omega) (by omega))
    have IMPL : Hid (∀ w, Decs w.heap.size w → Calls Tryd.prog 17 #[.string s, .int .i64 p] w (TellsWord T w)) := Lib.hid (fun w hd => by rw [← hT, ← wdI_eq]; exact implGetWord_any s p w (by omega) (by omega) (by omega) hd)
    cases T with
    | none =>
      clear hT
      go_wp2_with fail
      refine (IMPL.out _ (DD.out _ B2.out)).mono ?_
      rintro e w3 ⟨hc, hB3⟩
      have B3 := Lib.hid (B2.out.trans (hB3.mono B2.out.size))
      clear hB3
      rcases hc with ⟨_, _, hc, _⟩ | ⟨_, rfl⟩
      · cases hc
      go_wp2_with fail
      refine (SPEC.out _).mono ?_
      rintro e w4 ⟨hc, hB4⟩
      have B4 := Lib.hid (B3.out.trans (hB4.mono B3.out.size))
      clear hB4
      rcases hc with ⟨_, _, hc, _⟩ | ⟨_, rfl⟩
      · cases hc
      go_wp2_with fail
      go_ret
      exact ⟨rfl, B4.out⟩
    | some r =>
      obtain ⟨ol, j⟩ := r
      obtain ⟨o, rfl⟩ : ∃ o : ByteArray, ol = o.data.toList := ⟨⟨ol.toArray⟩, rfl⟩
      obtain ⟨a, rfl, hF⟩ := getWd_facts hs hT
      have GI : Hid (∀ w, Decs w.heap.size w → Calls Tryd.prog 17 #[.string s, .int .i64 (a : Int)] w fun e w' => e = .returned (.tuple #[.string o, .int .i64 (j : Int)]) ∧ Below w.heap.size w w') := Lib.hid (fun w hd => implGet_is s (a : Int) o j hT w (by omega) (by omega) (by omega) hd)
      have GS : Hid (∀ w, Calls Tryd.prog 19 #[.string s, .int .i64 (a : Int)] w fun e w' => e = .returned (.tuple #[.string o, .int .i64 (j : Int)]) ∧ Below w.heap.size w w') := Lib.hid (fun w => (SPEC.out w).mono (by
        rintro e w' ⟨hc, hB⟩
        refine ⟨?_, hB⟩
        rcases hc with ⟨o2, k, hk, rfl⟩ | ⟨hk, _⟩
        · injection hk with hk
          injection hk with h2 h3
          obtain rfl : o = o2 := ByteArray.ext (Array.ext' h2)
          rw [h3]
        · cases hk))
      clear SPEC IMPL hT
      obtain ⟨f1, f2, f3, f4, f5, f6⟩ := hF
      have hol : o.data.toList.length = o.size := by simp
      have hne := putStr_ne f4 f5
      have hXl := putStr_len (l := o.data.toList) (by omega)
      have IP := Lib.hid (fun w ht => implPutString_any o w (by omega) ht)
      have hR : ∀ t : ByteArray, t.data.toList = putStr o.data.toList → getWd t 0 = some (o.data.toList, (putStr o.data.toList).length) := fun t h => by
        have := word_putStr t [] [] o.data.toList hne (by rw [h]; simp)
        simpa using this
      generalize putStr o.data.toList = XL at IP hne hXl hR
      obtain ⟨X, rfl⟩ : ∃ X : ByteArray, XL = X.data.toList := ⟨⟨XL.toArray⟩, rfl⟩
      rw [show (⟨X.data.toList.toArray⟩ : ByteArray) = X from rfl] at IP
      rw [← size_of (X := X) rfl] at hXl
      have GX : Hid (∀ w, Decs w.heap.size w → Calls Tryd.prog 17 #[.string X, .int .i64 0] w fun e w' => e = .returned (.tuple #[.string o, .int .i64 (X.size : Int)]) ∧ Below w.heap.size w w') := Lib.hid (fun w hd => by
        have h := hR X rfl
        rw [← size_of (X := X) rfl] at h
        exact implGet_is X 0 o _ h w (by omega) (by decide) (by decide) hd)
      have IA := Lib.hid (fun w => implAtomOk_any o w (by omega))
      rw [byte_at s a f1] at f6
      have KIND := Lib.hid f6
      have g1 : decide ((j : Int) < 0) = false := by simp
      have g2 : decide ((a : Int) < (j : Int)) = true := by simp; omega
      have g3 : decide ((j : Int) ≤ (s.size : Int)) = true := by simp; omega
      clear f6 hne hR hol f4 f5 hp1 hp2
      go_wp2_with fail
      refine (GI.out _ (DD.out _ B2.out)).mono ?_
      rintro e w3 ⟨rfl, hB3⟩
      have B3 := Lib.hid (B2.out.trans (hB3.mono B2.out.size))
      clear hB3
      go_wp2_with fail
      refine (GS.out _).mono ?_
      rintro e w4 ⟨rfl, hB4⟩
      have B4 := Lib.hid (B3.out.trans (hB4.mono B3.out.size))
      clear hB4
      go_wp2_with fail
      refine (IP.out _ (DD.out _ B4.out).tens).mono ?_
      rintro e w5 ⟨rfl, hB5⟩
      have B5 := Lib.hid (B4.out.trans (hB5.mono B4.out.size))
      clear hB5
      go_wp2_with fail
      refine (GX.out _ (DD.out _ B5.out)).mono ?_
      rintro e w6 ⟨rfl, hB6⟩
      have B6 := Lib.hid (B5.out.trans (hB6.mono B5.out.size))
      clear hB6
      rcases KIND.out with h34 | h123 | ⟨h34, h123, ha, he⟩
      · have t1 : ((s[a].toNat : Int) == 34) = true := by rw [h34]; rfl
        clear h34
        go_wp2_with fail
        refine (IP.out _ (DD.out _ B6.out).tens).mono ?_
        rintro e w7 ⟨rfl, hB7⟩
        have B7 := Lib.hid (B6.out.trans (hB7.mono B6.out.size))
        clear hB7
        go_wp2_with fail
        go_ret
        exact ⟨rfl, B7.out⟩
      · have t1 : ((s[a].toNat : Int) == 34) = false := by rw [h123]; rfl
        have t2 : ((s[a].toNat : Int) == 123) = true := by rw [h123]; rfl
        clear h123
        go_wp2_with fail
        refine (IP.out _ (DD.out _ B6.out).tens).mono ?_
        rintro e w7 ⟨rfl, hB7⟩
        have B7 := Lib.hid (B6.out.trans (hB7.mono B6.out.size))
        clear hB7
        go_wp2_with fail
        go_ret
        exact ⟨rfl, B7.out⟩
      · have t1 : ((s[a].toNat : Int) == 34) = false := ne_byte (b := 34) h34
        have t2 : ((s[a].toNat : Int) == 123) = false := ne_byte (b := 123) h123
        rw [ha] at IA
        have t3 : ((s.extract a j).toList == o.toList) = true := by rw [Lib.toList_data, Lib.toList_data, he]; exact beq_self_eq_true _
        have i1 : (0 : Int) ≤ (a : Int) := by omega
        have i2 : (a : Int) ≤ (j : Int) := by omega
        have i3 : (j : Int) ≤ (s.size : Int) := by omega
        clear h34 h123 ha he
        go_wp2_with fail
        refine (IA.out _).mono ?_
        rintro e w8 ⟨rfl, rfl⟩
        go_wp2_with fail
        refine (IP.out _ (DD.out _ B6.out).tens).mono ?_
        rintro e w7 ⟨rfl, hB7⟩
        have B7 := Lib.hid (B6.out.trans (hB7.mono B6.out.size))
        clear hB7
        go_wp2_with fail
        go_ret
        exact ⟨rfl, B7.out⟩
  · go_enter Tryd.func4, Tryd.ntmps4
    go_wp2_with fail
    refine (big_yes _ _ _ _ (by omega)).mono ?_
    rintro e w1 ⟨rfl, rfl⟩
    go_wp2_with fail
    go_ret
    exact ⟨rfl, Below.refl _ _⟩
end Go.Proofs.YtconopkmiicjeaaDoor
