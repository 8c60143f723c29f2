/-
  The draws of words: DrawPutWord.
-/
import Derived.Test.YtconopkmiicjeaaDoorDrawWd
namespace Go.Proofs.YtconopkmiicjeaaDoor
set_option linter.unusedVariables false
open Go.RowKit

set_option maxRecDepth 100000 in
set_option maxHeartbeats 400000 in
theorem drawPutWord_any (K : Code) (w0 w : World) (hr : IsRow .u8 w0 K.a K.len K.cap K.zs) (hl : K.len ≤ 1048576) (hb : Below w0.heap.size w0 w) :
    Calls Tryd.prog 29 #[.slice K.a K.len K.cap] w (DrawsTx w) := by
  go_enter Tryd.func29, Tryd.ntmps29
  go_wp2_with fail
  refine (new_any K w0 w hr hl hb).mono ?_
  rintro e w1 ⟨h1, rfl, hc1, hB1⟩
  have C1 := Lib.hid hc1
  have B1 := Lib.hid hB1
  clear hc1 hB1
  go_wp2_with fail
  refine (text3_any C1.out).mono ?_
  rintro e w2 ⟨s, i2, h2, rfl, hs, hk, hc2, hg2⟩
  have HK := Lib.hid hk
  have B2 := Lib.hid (below_step B1.out hg2 (Nat.le_refl _))
  clear hc2 hg2 hk
  go_wp2_with fail
  go_ret
  exact ⟨s, rfl, hs, HK.out, B2.out⟩
end Go.Proofs.YtconopkmiicjeaaDoor
