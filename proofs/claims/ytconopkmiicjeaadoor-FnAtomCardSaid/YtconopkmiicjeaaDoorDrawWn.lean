/-
  The draws of words: DrawAtomOk, DrawQuote, DrawNString (the atom law's).
-/
import Derived.Test.YtconopkmiicjeaaDoorDrawWd
namespace Go.Proofs.YtconopkmiicjeaaDoor
set_option linter.unusedVariables false
open Go.RowKit

set_option maxRecDepth 100000 in
set_option maxHeartbeats 400000 in
theorem drawAtomOk_any (K : Code) (w0 w : World) (hr : IsRow .u8 w0 K.a K.len K.cap K.zs) (hl : K.len ≤ 1048576) (hb : Below w0.heap.size w0 w) :
    Calls Tryd.prog 21 #[.slice K.a K.len K.cap] w (DrawsTx w) := by
  go_enter Tryd.func21, Tryd.ntmps21
  go_wp2_with fail
  refine (new_any K w0 w hr hl hb).mono ?_
  rintro e w1 ⟨h1, rfl, hc1, hB1⟩
  have C1 := Lib.hid hc1
  have B1 := Lib.hid hB1
  clear hc1 hB1
  go_wp2_with fail
  refine (text3_any C1.out).mono ?_
  rintro e w2 ⟨s, i2, h2, rfl, hs, hk, hc2, hg2⟩
  have HK := Lib.hid hk
  have B2 := Lib.hid (below_step B1.out hg2 (Nat.le_refl _))
  clear hc2 hg2 hk
  go_wp2_with fail
  go_ret
  exact ⟨s, rfl, hs, HK.out, B2.out⟩

set_option maxRecDepth 100000 in
set_option maxHeartbeats 400000 in
theorem drawQuote_any (K : Code) (w0 w : World) (hr : IsRow .u8 w0 K.a K.len K.cap K.zs) (hl : K.len ≤ 1048576) (hb : Below w0.heap.size w0 w) :
    Calls Tryd.prog 23 #[.slice K.a K.len K.cap] w (DrawsTx w) := by
  go_enter Tryd.func23, Tryd.ntmps23
  go_wp2_with fail
  refine (new_any K w0 w hr hl hb).mono ?_
  rintro e w1 ⟨h1, rfl, hc1, hB1⟩
  have C1 := Lib.hid hc1
  have B1 := Lib.hid hB1
  clear hc1 hB1
  go_wp2_with fail
  refine (text3_any C1.out).mono ?_
  rintro e w2 ⟨s, i2, h2, rfl, hs, hk, hc2, hg2⟩
  have HK := Lib.hid hk
  have B2 := Lib.hid (below_step B1.out hg2 (Nat.le_refl _))
  clear hc2 hg2 hk
  go_wp2_with fail
  go_ret
  exact ⟨s, rfl, hs, HK.out, B2.out⟩

/-- A text and a choice are drawn. -/
def DrawsThere (m : Nat) (w : World) (e : Ending) (w' : World) : Prop := ∃ (s : ByteArray) (b : Bool), e = .returned (.tuple #[.string s, .bool b]) ∧ s.size ≤ m ∧ Below w.heap.size w w'

set_option maxRecDepth 100000 in
set_option maxHeartbeats 400000 in
theorem drawNString_any (K : Code) (w0 w : World) (hr : IsRow .u8 w0 K.a K.len K.cap K.zs) (hl : K.len ≤ 1048576) (hb : Below w0.heap.size w0 w) :
    Calls Tryd.prog 22 #[.slice K.a K.len K.cap] w (DrawsThere 500 w) := by
  go_enter Tryd.func22, Tryd.ntmps22
  go_wp2_with fail
  refine (new_any K w0 w hr hl hb).mono ?_
  rintro e w1 ⟨h1, rfl, hc1, hB1⟩
  have C1 := Lib.hid hc1
  have B1 := Lib.hid hB1
  clear hc1 hB1
  go_wp2_with fail
  refine (text3_any C1.out).mono ?_
  rintro e w2 ⟨s, i2, h2, rfl, hs, hk, hc2, hg2⟩
  have HK := Lib.hid hk
  have C2 := Lib.hid hc2
  have B2 := Lib.hid (below_step B1.out hg2 (Nat.le_refl _))
  clear hc2 hg2 hk
  go_wp2_with fail
  all_goals
    refine (below_any C2.out 4 (by decide) (by decide)).mono ?_
    rintro e w3 ⟨y0, i3, h3, rfl, hy0, hy1, hc3, hg3, _⟩
    have B3 := Lib.hid (below_step B2.out hg3 (Nat.le_refl _))
    clear hc3 hg3
    go_wp2_with fail
    go_ret2
    exact ⟨s, _, rfl, hs, B3.out⟩
end Go.Proofs.YtconopkmiicjeaaDoor
