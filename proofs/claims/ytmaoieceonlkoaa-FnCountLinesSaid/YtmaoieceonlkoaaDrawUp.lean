/-
  The draws of Upper and Same.
-/
import Derived.Test.YtmaoieceonlkoaaPickA
namespace Go.Proofs.Ytmaoieceonlkoaa
set_option linter.unusedVariables false
open Go.RowKit

/-- A text of at most m bytes is drawn. -/
def DrawsStr (m : Nat) (w : World) (e : Ending) (w' : World) : Prop := ∃ s : ByteArray, e = .returned (.string s) ∧ s.size ≤ m ∧ Below w.heap.size w w'

set_option maxRecDepth 100000 in
set_option maxHeartbeats 1000000 in
theorem drawUpper_any (K : Code) (w0 w : World) (hr : IsRow .u8 w0 K.a K.len K.cap K.zs) (hl : K.len ≤ 1048576) (hb : Below w0.heap.size w0 w) :
    Calls Try.prog 12 #[.slice K.a K.len K.cap] w (DrawsStr 100 w) := by
  go_enter Try.func12, Try.ntmps12
  go_wp2_with fail
  refine (new_any K w0 w hr hl hb).mono ?_
  rintro e w1 ⟨h1, rfl, hc1, hB1⟩
  have C1 := Lib.hid hc1
  have B1 := Lib.hid hB1
  clear hc1 hB1
  go_wp2_with fail
  refine (once_any C1.out 2 (by decide) (by decide)).mono ?_
  rintro e w2 ⟨b, i2, h2, rfl, hc2, hg2⟩
  have C2 := Lib.hid hc2
  have B2 : Hid (Below w.heap.size w w2) := Lib.hid (B1.out.grown hg2 B1.out.size (fun k e => by cases e; exact Nat.le_refl _))
  clear hc2 hg2
  cases b
  · go_wp2_with fail
    refine (below_any C2.out 6 (by decide) (by decide)).mono ?_
    rintro e w3 ⟨x0, i3, h3, rfl, hx0, hx1, hc3, hg3, _⟩
    obtain ⟨x, rfl⟩ := Int.eq_ofNat_of_zero_le hx0
    have C3 := Lib.hid hc3
    have B3 := Lib.hid (below_step B2.out hg3 (Nat.le_refl _))
    clear hc3 hg3
    go_wp2_with fail
    refine (text_any C3.out x (by omega)).mono ?_
    rintro e w4 ⟨s, i4, h4, rfl, hs, hc4, hg4⟩
    have HS := Lib.hid hs
    have B4 := Lib.hid (below_step B3.out hg4 (Nat.le_refl _))
    clear hs hc4 hg4
    go_wp2_with fail
    go_ret
    exact ⟨s, rfl, by have := HS.out; omega, B4.out⟩
  · go_wp2_with fail
    refine (pick_lit C2.out 100 (by decide) (by rfl) (by decide) (by decide)).mono ?_
    rintro e w3 ⟨s, i3, h3, rfl, hs, hc3, hg3⟩
    have B3 := Lib.hid (below_step B2.out hg3 (Nat.le_refl _))
    clear hc3 hg3
    go_wp2_with fail
    go_ret
    exact ⟨s, rfl, hs, B3.out⟩
end Go.Proofs.Ytmaoieceonlkoaa
