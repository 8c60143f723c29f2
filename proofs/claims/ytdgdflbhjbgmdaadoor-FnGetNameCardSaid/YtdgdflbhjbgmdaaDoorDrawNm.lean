/-
  The draws of names: l02Name, DrawSignsOk, DrawPutName.
-/
import Derived.Test.YtdgdflbhjbgmdaaDoorPickA
namespace Go.Proofs.YtdgdflbhjbgmdaaDoor
set_option linter.unusedVariables false
open Go.RowKit

/-- A text of at most m bytes is drawn. -/
def DrawsNm (m : Nat) (w : World) (e : Ending) (w' : World) : Prop := ∃ s : ByteArray, e = .returned (.string s) ∧ s.size ≤ m ∧ Below w.heap.size w w'

set_option maxRecDepth 100000 in
set_option maxHeartbeats 1000000 in
theorem name_any {K : Code} {w0 w : World} {g i : Nat} {h : Int} (c : Cur K w0 w g i h) :
    Calls Tryd.prog 22 #[.pointer (some ⟨g, 0, none⟩)] w (DrawnStr K w0 g 100 w) := by
  have C := Lib.hid c
  clear c
  go_enter Tryd.func22, Tryd.ntmps22
  go_wp2_with fail
  refine (pick_lit C.out 100 (by decide) (by rfl) (by decide) (by decide)).mono ?_
  rintro e w3 ⟨t, i3, h3, rfl, ht, hc3, hg3⟩
  have C3 := Lib.hid hc3
  have G3 := Lib.hid hg3
  clear hc3 hg3
  go_wp2_with fail
  go_ret
  exact ⟨t, i3, h3, rfl, ht, C3.out, G3.out⟩

set_option maxRecDepth 100000 in
set_option maxHeartbeats 1000000 in
theorem drawSignsOk_any (K : Code) (w0 w : World) (hr : IsRow .u8 w0 K.a K.len K.cap K.zs) (hl : K.len ≤ 1048576) (hb : Below w0.heap.size w0 w) :
    Calls Tryd.prog 18 #[.slice K.a K.len K.cap] w (DrawsNm 200 w) := by
  go_enter Tryd.func18, Tryd.ntmps18
  go_wp2_with fail
  refine (new_any K w0 w hr hl hb).mono ?_
  rintro e w1 ⟨h1, rfl, hc1, hB1⟩
  have C1 := Lib.hid hc1
  have B1 := Lib.hid hB1
  clear hc1 hB1
  go_wp2_with fail
  refine (name_any C1.out).mono ?_
  rintro e w2 ⟨s, i2, h2, rfl, hs, hc2, hg2⟩
  have C2 := Lib.hid hc2
  have B2 := Lib.hid (below_step B1.out hg2 (Nat.le_refl _))
  clear hc2 hg2
  go_wp2_with fail
  refine (once_any C2.out 2 (by decide) (by decide)).mono ?_
  rintro e w3 ⟨b, i3, h3, rfl, hc3, hg3⟩
  have C3 := Lib.hid hc3
  have B3 := Lib.hid (below_step B2.out hg3 (Nat.le_refl _))
  clear hc3 hg3
  cases b
  · go_wp2_with fail
    go_ret
    exact ⟨s, rfl, by omega, B3.out⟩
  · go_wp2_with fail
    refine (pick_lit C3.out 100 (by decide) (by rfl) (by decide) (by decide)).mono ?_
    rintro e w4 ⟨t, i4, h4, rfl, ht, hc4, hg4⟩
    have B4 := Lib.hid (below_step B3.out hg4 (Nat.le_refl _))
    clear hc4 hg4
    go_wp2_with fail
    go_ret
    exact ⟨s ++ t, rfl, by simp; omega, B4.out⟩

set_option maxRecDepth 100000 in
set_option maxHeartbeats 1000000 in
theorem drawPutName_any (K : Code) (w0 w : World) (hr : IsRow .u8 w0 K.a K.len K.cap K.zs) (hl : K.len ≤ 1048576) (hb : Below w0.heap.size w0 w) :
    Calls Tryd.prog 11 #[.slice K.a K.len K.cap] w (DrawsNm 300 w) := by
  go_enter Tryd.func11, Tryd.ntmps11
  go_wp2_with fail
  refine (new_any K w0 w hr hl hb).mono ?_
  rintro e w1 ⟨h1, rfl, hc1, hB1⟩
  have C1 := Lib.hid hc1
  have B1 := Lib.hid hB1
  clear hc1 hB1
  go_wp2_with fail
  refine (name_any C1.out).mono ?_
  rintro e w2 ⟨s, i2, h2, rfl, hs, hc2, hg2⟩
  have C2 := Lib.hid hc2
  have B2 := Lib.hid (below_step B1.out hg2 (Nat.le_refl _))
  clear hc2 hg2
  go_wp2_with fail
  refine (name_any C2.out).mono ?_
  rintro e w3 ⟨t, i3, h3, rfl, ht, hc3, hg3⟩
  have C3 := Lib.hid hc3
  have B3 := Lib.hid (below_step B2.out hg3 (Nat.le_refl _))
  clear hc3 hg3
  go_wp2_with fail
  refine (once_any C3.out 8 (by decide) (by decide)).mono ?_
  rintro e w4 ⟨b, i4, h4, rfl, hc4, hg4⟩
  have B4 := Lib.hid (below_step B3.out hg4 (Nat.le_refl _))
  clear hc4 hg4
  cases b
  · go_wp2_with fail
    go_ret
    exact ⟨s ++ t, rfl, by simp; omega, B4.out⟩
  · go_wp2_with fail
    go_ret
    have h1 : (⟨#[255]⟩ : ByteArray).size = 1 := rfl
    exact ⟨_, rfl, by simp; omega, B4.out⟩
end Go.Proofs.YtdgdflbhjbgmdaaDoor
