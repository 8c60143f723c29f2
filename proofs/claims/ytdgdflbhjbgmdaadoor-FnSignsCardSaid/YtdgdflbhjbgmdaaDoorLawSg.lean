/-
  The law FnSigns, for every code.
-/
import Derived.Test.YtdgdflbhjbgmdaaDoorSgA
import Derived.Test.YtdgdflbhjbgmdaaDoorUtB
import Derived.Test.YtdgdflbhjbgmdaaDoorDrawNm
import Derived.Test.YtdgdflbhjbgmdaaDoorBig
namespace Go.Proofs.YtdgdflbhjbgmdaaDoor
set_option linter.unusedVariables false
open Go.RowKit

theorem valid_top : Lib.validD [244, 143, 191, 191] = true := by decide
set_option maxRecDepth 100000 in
set_option maxHeartbeats 1000000 in
theorem lawSigns_walk (a0 : Option Addr) (len0 cap0 : Nat) (z0 : List Int) (w : World) (w0 : IsRow .u8 w a0 len0 cap0 z0) (hT : Tabs8 w) :
    Calls Tryd.prog 5 #[.slice a0 len0 cap0] w fun e w' => e = .returned (.bool true) ∧ Below w.heap.size w w' := by
  have W0 := Lib.hid w0
  have HT := Lib.hid hT
  clear w0 hT
  by_cases hl : len0 ≤ 1048576
  · go_enter Tryd.func5, Tryd.ntmps5
    go_wp2_with fail
    refine (big_no _ _ _ _ hl).mono ?_
    rintro e w1 ⟨rfl, rfl⟩
    go_wp2_with fail
    refine (drawSignsOk_any ⟨a0, len0, cap0, z0⟩ w1 w1 W0.out hl (Below.refl _ _)).mono ?_
    rintro e w2 ⟨s, rfl, hs, hB2⟩
    have B2 := Lib.hid hB2
    clear hB2
    go_wp2_with fail
    refine (drawPutName_any ⟨a0, len0, cap0, z0⟩ w1 _ W0.out hl B2.out).mono ?_
    rintro e w3 ⟨t, rfl, ht, hB3⟩
    have B3 := Lib.hid (B2.out.trans (hB3.mono B2.out.size))
    clear hB3
    have OK : Hid (∀ (u : ByteArray) (w : World), u.size ≤ 10000 → Tabs8 w → Calls Tryd.prog 14 #[.string u] w fun e w' => e = .returned (.bool (Lib.validD u.data.toList)) ∧ Below w.heap.size w w') := Lib.hid (fun u w h1 h2 => implSignsOk_any u w (by omega) h2)
    have SPEC : Hid (∀ w : World, Calls Tryd.prog 19 #[.string s] w fun e w' => e = .returned (.bool (Lib.validD s.data.toList)) ∧ Below w.heap.size w w') := Lib.hid (fun w => specSignsOk_any s w (by omega))
    have VST : Hid (Lib.validD s.data.toList = true → Lib.validD (s ++ t).data.toList = Lib.validD t.data.toList) := Lib.hid (fun h => by
      have := valid_app s.data.toList t.data.toList h
      simpa using this)
    have VFF : Hid (Lib.validD (s ++ ⟨#[255]⟩).data.toList = false) := Lib.hid (by
      have := valid_ff s.data.toList 255 (by decide)
      simpa using this)
    have VTP : Hid (Lib.validD s.data.toList = true → Lib.validD (s ++ ⟨#[244, 143, 191, 191]⟩).data.toList = true) := Lib.hid (fun h => by
      have := valid_app s.data.toList [244, 143, 191, 191] h
      rw [valid_top] at this
      simpa using this)
    have z1 : (⟨#[255]⟩ : ByteArray).size = 1 := rfl
    have z4 : (⟨#[244, 143, 191, 191]⟩ : ByteArray).size = 4 := rfl
    have Z1 : Hid ((s ++ ⟨#[255]⟩).size ≤ 10000) := Lib.hid (by simp; omega)
    have Z4 : Hid ((s ++ ⟨#[244, 143, 191, 191]⟩).size ≤ 10000) := Lib.hid (by simp; omega)
    have ZT : Hid ((s ++ t).size ≤ 10000) := Lib.hid (by simp; omega)
    clear z1 z4
    generalize hv : Lib.validD s.data.toList = v at SPEC
    have HV := Lib.hid hv
    clear hv
    go_wp2_with fail
    refine (OK.out s _ (by omega) (HT.out.later B3.out)).mono ?_
    rw [HV.out]
    rintro e w4 ⟨rfl, hB4⟩
    have B4 := Lib.hid (B3.out.trans (hB4.mono B3.out.size))
    clear hB4
    go_wp2_with fail
    refine (SPEC.out _).mono ?_
    rintro e w5 ⟨rfl, hB5⟩
    have B5 := Lib.hid (B4.out.trans (hB5.mono B4.out.size))
    clear hB5
    cases v
    · go_wp2_with fail
      refine (OK.out _ _ Z1.out (HT.out.later B5.out)).mono ?_
      rw [VFF.out]
      rintro e w6 ⟨rfl, hB6⟩
      have B6 := Lib.hid (B5.out.trans (hB6.mono B5.out.size))
      clear hB6
      go_wp2_with fail
      go_ret
      exact ⟨rfl, B6.out⟩
    · generalize hvt : Lib.validD t.data.toList = vt
      have HVT := Lib.hid hvt
      clear hvt
      go_wp2_with fail
      refine (OK.out t _ (by omega) (HT.out.later B5.out)).mono ?_
      rw [HVT.out]
      rintro e w6 ⟨rfl, hB6⟩
      have B6 := Lib.hid (B5.out.trans (hB6.mono B5.out.size))
      clear hB6
      cases vt
      · go_wp2_with fail
        refine (OK.out _ _ Z1.out (HT.out.later B6.out)).mono ?_
        rw [VFF.out]
        rintro e w7 ⟨rfl, hB7⟩
        have B7 := Lib.hid (B6.out.trans (hB7.mono B6.out.size))
        clear hB7
        go_wp2_with fail
        refine (OK.out _ _ Z4.out (HT.out.later B7.out)).mono ?_
        rw [VTP.out HV.out]
        rintro e w8 ⟨rfl, hB8⟩
        have B8 := Lib.hid (B7.out.trans (hB8.mono B7.out.size))
        clear hB8
        go_wp2_with fail
        go_ret
        exact ⟨rfl, B8.out⟩
      · go_wp2_with fail
        refine (OK.out _ _ ZT.out (HT.out.later B6.out)).mono ?_
        rw [VST.out HV.out, HVT.out]
        rintro e w9 ⟨rfl, hB9⟩
        have B9 := Lib.hid (B6.out.trans (hB9.mono B6.out.size))
        clear hB9
        go_wp2_with fail
        refine (OK.out _ _ Z1.out (HT.out.later B9.out)).mono ?_
        rw [VFF.out]
        rintro e w7 ⟨rfl, hB7⟩
        have B7 := Lib.hid (B9.out.trans (hB7.mono B9.out.size))
        clear hB7
        go_wp2_with fail
        refine (OK.out _ _ Z4.out (HT.out.later B7.out)).mono ?_
        rw [VTP.out HV.out]
        rintro e w8 ⟨rfl, hB8⟩
        have B8 := Lib.hid (B7.out.trans (hB8.mono B7.out.size))
        clear hB8
        go_wp2_with fail
        go_ret
        exact ⟨rfl, B8.out⟩
  · go_enter Tryd.func5, Tryd.ntmps5
    go_wp2_with (go_at_call 10; refine (big_yes _ _ _ _ (by omega)).mono ?_; rintro e w1 ⟨rfl, rfl⟩)
    go_ret
    exact ⟨rfl, Below.refl _ _⟩
end Go.Proofs.YtdgdflbhjbgmdaaDoor
