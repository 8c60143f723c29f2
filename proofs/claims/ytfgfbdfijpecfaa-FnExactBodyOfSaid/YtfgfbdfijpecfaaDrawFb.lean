/-
  The draws of fields: DrawBodyOf.
-/
import Derived.Test.YtfgfbdfijpecfaaDrawFd
namespace Go.Proofs.Ytfgfbdfijpecfaa
set_option linter.unusedVariables false
open Go.RowKit

/-- Fields and a name are drawn. -/
def DrawsFlsStr (w : World) (e : Ending) (w' : World) : Prop := ∃ (l : List Fl) (v : Value) (s : ByteArray), e = .returned (.tuple #[v, .string s]) ∧ (putL l).length ≤ 5000 ∧ l.length ≤ 1000 ∧ s.size ≤ 100 ∧ FlsAt w' v l ∧ Below w.heap.size w w'

set_option maxRecDepth 100000 in
set_option maxHeartbeats 1000000 in
theorem drawBodyOf_any (K : Code) (w0 w : World) (hr : IsRow .u8 w0 K.a K.len K.cap K.zs) (hl : K.len ≤ 1048576) (hb : Below w0.heap.size w0 w) :
    Calls Try.prog 14 #[.slice K.a K.len K.cap] w (DrawsFlsStr w) := by
  go_enter Try.func14, Try.ntmps14
  go_wp2_with fail
  refine (new_any K w0 w hr hl hb).mono ?_
  rintro e w1 ⟨h1, rfl, hc1, hB1⟩
  have C1 := Lib.hid hc1
  have B1 := Lib.hid hB1
  have hlt := hc1.lt
  have hge := hB1.size
  clear hc1 hB1
  go_wp2_with fail
  refine (fields5_any C1.out hlt).mono ?_
  rintro e w2 ⟨l, v, i2, h2, rfl, hl1, hl2, hrow, hc2, hg2⟩
  have C2 := Lib.hid hc2
  have B2 := Lib.hid (below_step B1.out hg2 (Nat.le_refl _))
  have R2 := Lib.hid hrow
  clear hrow hc2 hg2
  go_wp2_with fail
  refine (pick_lit C2.out 100 (by decide) (by rfl) (by decide) (by decide)).mono ?_
  rintro e w4 ⟨t, i4, h4, rfl, ht, hc4, hg4⟩
  have B4 := Lib.hid (below_step B2.out hg4 (Nat.le_refl _))
  have F4 := Lib.hid (fls_of_row (row_stayG hlt R2.out hg4))
  clear hc4 hg4
  go_wp2_with fail
  go_ret2
  exact ⟨l, v, t, rfl, hl1, hl2, ht, F4.out, B4.out⟩
end Go.Proofs.Ytfgfbdfijpecfaa
