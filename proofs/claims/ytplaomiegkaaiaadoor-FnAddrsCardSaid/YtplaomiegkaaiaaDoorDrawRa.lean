/-
  The draw of ReadAddrs.
-/
import Derived.Test.YtplaomiegkaaiaaDoorDrawAd
namespace Go.Proofs.YtplaomiegkaaiaaDoor
set_option linter.unusedVariables false
open Go.RowKit

set_option maxRecDepth 100000 in
set_option maxHeartbeats 1000000 in
theorem drawReadAddrs_any (K : Code) (w0 w : World) (hr : IsRow .u8 w0 K.a K.len K.cap K.zs) (hl : K.len ≤ 1048576) (hb : Below w0.heap.size w0 w) :
    Calls Tryd.prog 11 #[.slice K.a K.len K.cap] w (DrawsAd 500 w) := by
  go_enter Tryd.func11, Tryd.ntmps11
  go_wp2_with fail
  refine (new_any K w0 w hr hl hb).mono ?_
  rintro e w1 ⟨h1, rfl, hc1, hB1⟩
  have C1 := Lib.hid hc1
  have B1 := Lib.hid hB1
  clear hc1 hB1
  go_wp2_with fail
  refine (text6_any C1.out).mono ?_
  rintro e w2 ⟨s, i2, h2, rfl, hs, hc2, hg2⟩
  have C2 := Lib.hid hc2
  have B2 := Lib.hid (below_step B1.out hg2 (Nat.le_refl _))
  clear hc2 hg2
  go_wp2_with fail
  refine (bent_any C2.out s (by omega)).mono ?_
  rintro e w3 ⟨t, i3, h3, rfl, ht, hc3, hg3⟩
  have B3 := Lib.hid (below_step B2.out hg3 (Nat.le_refl _))
  clear hc3 hg3
  go_wp2_with fail
  go_ret
  exact ⟨t, rfl, by omega, B3.out⟩
end Go.Proofs.YtplaomiegkaaiaaDoor
