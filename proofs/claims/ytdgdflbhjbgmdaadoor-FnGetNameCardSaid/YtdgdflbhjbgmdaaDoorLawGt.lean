/-
  The law FnGetName, for every code.
-/
import Derived.Test.YtdgdflbhjbgmdaaDoorLawGn
import Derived.Test.YtdgdflbhjbgmdaaDoorBent
namespace Go.Proofs.YtdgdflbhjbgmdaaDoor
set_option linter.unusedVariables false
open Go.RowKit

/-- PutName's text, whatever it tells beside. -/
theorem puts_any {s : ByteArray} {w w' : World} {e : Ending} (h : PutsName s.data.toList w e w') : ∃ (o : ByteArray) (b : Bool), e = .returned (.tuple #[.string o, .bool b]) ∧ o.size ≤ 16 * s.size + 3 ∧ Below w.heap.size w w' := by
  rcases h.1 with ⟨o, ho, _, rfl⟩ | ⟨_, _, rfl⟩
  · have h1 := (name_facts ho).2.1
    have h2 : o.data.toList.length = o.size := by simp
    have h3 : s.data.toList.length = s.size := by simp
    exact ⟨o, true, rfl, by omega, h.2⟩
  · exact ⟨⟨#[]⟩, false, rfl, Nat.zero_le _, h.2⟩

set_option maxRecDepth 100000 in
set_option maxHeartbeats 1000000 in
theorem drawGetName_any (K : Code) (w0 w : World) (hr : IsRow .u8 w0 K.a K.len K.cap K.zs) (hl : K.len ≤ 1048576) (hb : Below w0.heap.size w0 w) :
    Calls Tryd.prog 16 #[.slice K.a K.len K.cap] w (DrawsNm 5000 w) := by
  go_enter Tryd.func16, Tryd.ntmps16
  go_wp2_with fail
  refine (new_any K w0 w hr hl hb).mono ?_
  rintro e w1 ⟨h1, rfl, hc1, hB1⟩
  have C1 := Lib.hid hc1
  have B1 := Lib.hid hB1
  clear hc1 hB1
  go_wp2_with fail
  refine (once_any C1.out 4 (by decide) (by decide)).mono ?_
  rintro e w2 ⟨b, i2, h2, rfl, hc2, hg2⟩
  have C2 := Lib.hid hc2
  have B2 : Hid (Below w.heap.size w w2) := Lib.hid (below_step B1.out hg2 (Nat.le_refl _))
  clear hc2 hg2
  cases b
  · go_wp2_with fail
    refine (name_any C2.out).mono ?_
    rintro e w3 ⟨s, i3, h3, rfl, hs, hc3, hg3⟩
    have C3 := Lib.hid hc3
    have B3 := Lib.hid (below_step B2.out hg3 (Nat.le_refl _))
    clear hc3 hg3
    go_wp2_with fail
    refine (name_any C3.out).mono ?_
    rintro e w4 ⟨t, i4, h4, rfl, ht, hc4, hg4⟩
    have C4 := Lib.hid hc4
    have B4 := Lib.hid (below_step B3.out hg4 (Nat.le_refl _))
    clear hc4 hg4
    have hst : (s ++ t).size ≤ 200 := by rw [ByteArray.size_append]; omega
    have SP := Lib.hid (fun w => specPutName_any (s ++ t) w (by omega))
    go_wp2_with fail
    refine (SP.out _).mono ?_
    intro e5 w5 hr5
    obtain ⟨o, bb, rfl, ho, hB5⟩ := puts_any hr5
    have C5 := Lib.hid (C4.out.later hB5)
    have B5 := Lib.hid (B4.out.trans (hB5.mono B4.out.size))
    clear hr5 hB5
    go_wp2_with fail
    refine (bent_any C5.out o (by omega)).mono ?_
    rintro e w6 ⟨u, i6, h6, rfl, hu, hc6, hg6⟩
    have B6 := Lib.hid (below_step B5.out hg6 (Nat.le_refl _))
    clear hc6 hg6
    go_wp2_with fail
    go_ret
    exact ⟨u, rfl, by omega, B6.out⟩
  · go_wp2_with fail
    refine (pick_lit C2.out 100 (by decide) (by rfl) (by decide) (by decide)).mono ?_
    rintro e w3 ⟨s, i3, h3, rfl, hs, hc3, hg3⟩
    have B3 := Lib.hid (below_step B2.out hg3 (Nat.le_refl _))
    clear hc3 hg3
    go_wp2_with fail
    go_ret
    exact ⟨s, rfl, by omega, B3.out⟩

set_option maxRecDepth 100000 in
set_option maxHeartbeats 2000000 in
theorem lawGetName_walk (a0 : Option Addr) (len0 cap0 : Nat) (z0 : List Int) (w : World) (w0 : IsRow .u8 w a0 len0 cap0 z0) (hsh : w.ShapedOpen Tryd.prog) (hT : Tabs8 w) :
    Calls Tryd.prog 4 #[.slice a0 len0 cap0] w fun e w' => e = .returned (.bool true) ∧ Below w.heap.size w w' := by
  have W0 := Lib.hid w0
  have HT := Lib.hid hT
  have HM := Lib.hid (maxLenAt_of_shaped hsh)
  clear w0 hT hsh
  by_cases hl : len0 ≤ 1048576
  · go_enter Tryd.func4, Tryd.ntmps4
    go_wp2_with fail
    refine (big_no _ _ _ _ hl).mono ?_
    rintro e w1 ⟨rfl, rfl⟩
    go_wp2_with fail
    refine (drawGetName_any ⟨a0, len0, cap0, z0⟩ w1 w1 W0.out hl (Below.refl _ _)).mono ?_
    rintro e w2 ⟨s, rfl, hs, hB2⟩
    have B2 := Lib.hid hB2
    clear hB2
    go_wp2_with fail
    refine (implGetName_any s _ (by omega) (HT.out.later B2.out) (HM.out.after B2.out)).mono ?_
    intro e3 w3 hr3
    have HR3 := Lib.hid hr3
    have B3 := Lib.hid (B2.out.trans (hr3.2.mono B2.out.size))
    rcases hr3.1 with ⟨x, hx, hxs, rfl⟩ | ⟨_, rfl⟩
    · have hv := (name_facts hx).2.2
      have SO := Lib.hid (fun w hT => implSignsOk_any x w (by omega) hT)
      rw [hv] at SO
      have HX := Lib.hid hx
      clear hr3 hx hv
      go_wp2_with fail
      refine (specGetName_any s _ (by omega)).mono ?_
      intro e4 w4 hr4
      have B4 := Lib.hid (B3.out.trans (hr4.2.mono B3.out.size))
      obtain rfl := getsName_same HR3.out hr4
      clear hr4
      go_wp2_with fail
      refine (implPutName_any x _ hxs (HT.out.later B4.out) (HM.out.after B4.out)).mono ?_
      intro e5 w5 hr5
      have B5 := Lib.hid (B4.out.trans (hr5.2.mono B4.out.size))
      have hn5 : nameOf x.data.toList = some s.data.toList := HX.out
      rcases hr5.1 with ⟨o, ho, _, rfl⟩ | ⟨ho, _, _⟩
      · have e : o = s := by
          rw [hn5] at ho
          exact ByteArray.ext (Array.ext' (Option.some.inj ho).symm)
        subst e
        clear hr5 ho hn5
        go_wp2_with fail
        refine (SO.out _ (HT.out.later B5.out)).mono ?_
        rintro e w6 ⟨rfl, hB6⟩
        have B6 := Lib.hid (B5.out.trans (hB6.mono B5.out.size))
        clear hB6
        go_wp2_with fail
        go_ret
        exact ⟨rfl, B6.out⟩
      · exfalso
        rw [hn5] at ho
        cases ho
    · clear hr3
      go_wp2_with fail
      refine (specGetName_any s _ (by omega)).mono ?_
      intro e4 w4 hr4
      have B4 := Lib.hid (B3.out.trans (hr4.2.mono B3.out.size))
      obtain rfl := getsName_same HR3.out hr4
      clear hr4
      go_wp2_with fail
      go_ret
      exact ⟨rfl, B4.out⟩
  · go_enter Tryd.func4, Tryd.ntmps4
    go_wp2_with (go_at_call 10; refine (big_yes _ _ _ _ (by omega)).mono ?_; rintro e w1 ⟨rfl, rfl⟩)
    go_ret
    exact ⟨rfl, Below.refl _ _⟩
end Go.Proofs.YtdgdflbhjbgmdaaDoor
