/-
  The draws of fields: DrawPutFields.
-/
import Derived.Test.YtfgfbdfijpecfaaDrawFd
namespace Go.Proofs.Ytfgfbdfijpecfaa
set_option linter.unusedVariables false
open Go.RowKit

/-- Fields are drawn, in a slice. -/
def DrawsFls (w : World) (e : Ending) (w' : World) : Prop := ∃ (l : List Fl) (v : Value), e = .returned v ∧ (putL l).length ≤ 5000 ∧ l.length ≤ 1000 ∧ FlsAt w' v l ∧ Below w.heap.size w w'

set_option maxRecDepth 100000 in
set_option maxHeartbeats 1000000 in
theorem drawPutFields_any (K : Code) (w0 w : World) (hr : IsRow .u8 w0 K.a K.len K.cap K.zs) (hl : K.len ≤ 1048576) (hb : Below w0.heap.size w0 w) :
    Calls Try.prog 17 #[.slice K.a K.len K.cap] w (DrawsFls w) := by
  go_enter Try.func17, Try.ntmps17
  go_wp2_with fail
  refine (new_any K w0 w hr hl hb).mono ?_
  rintro e w1 ⟨h1, rfl, hc1, hB1⟩
  have C1 := Lib.hid hc1
  have B1 := Lib.hid hB1
  have hlt := hc1.lt
  clear hc1 hB1
  go_wp2_with fail
  refine (fields5_any C1.out hlt).mono ?_
  rintro e w2 ⟨l, v, i2, h2, rfl, hl1, hl2, hrow, hc2, hg2⟩
  have B2 := Lib.hid (below_step B1.out hg2 (Nat.le_refl _))
  have F2 := Lib.hid (fls_of_row hrow)
  clear hrow hc2 hg2
  go_wp2_with fail
  go_ret
  exact ⟨l, v, rfl, hl1, hl2, F2.out, B2.out⟩
end Go.Proofs.Ytfgfbdfijpecfaa
