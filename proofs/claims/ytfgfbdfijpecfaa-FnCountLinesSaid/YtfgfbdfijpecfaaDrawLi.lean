/-
  The draw of CountLines.
-/
import Derived.Test.YtfgfbdfijpecfaaDrawT
namespace Go.Proofs.Ytfgfbdfijpecfaa
set_option linter.unusedVariables false
open Go.RowKit

set_option maxRecDepth 100000 in
set_option maxHeartbeats 1000000 in
theorem drawLines_any (K : Code) (w0 w : World) (hr : IsRow .u8 w0 K.a K.len K.cap K.zs) (hl : K.len ≤ 1048576) (hb : Below w0.heap.size w0 w) :
    Calls Try.prog 24 #[.slice K.a K.len K.cap] w (DrawsStr 1000 w) := by
  go_enter Try.func24, Try.ntmps24
  go_wp2_with fail
  refine (new_any K w0 w hr hl hb).mono ?_
  rintro e w1 ⟨h1, rfl, hc1, hB1⟩
  have C1 := Lib.hid hc1
  have B1 := Lib.hid hB1
  clear hc1 hB1
  go_wp2_with fail
  refine (below_any C1.out 7 (by decide) (by decide)).mono ?_
  rintro e w2 ⟨x0, i2, h2, rfl, hx0, hx1, hc2, hg2, _⟩
  obtain ⟨x, rfl⟩ := Int.eq_ofNat_of_zero_le hx0
  have C2 := Lib.hid hc2
  have B2 := Lib.hid (below_step B1.out hg2 (Nat.le_refl _))
  clear hc2 hg2
  go_wp2_with fail
  go_loopw [4, 6] (fun s i wr => ∃ (t : ByteArray) (k : Nat) (i2 : Nat) (h2 : Int), k ≤ x ∧ i = .int .i64 k ∧ s = .string t ∧ t.size ≤ 100 * k ∧ Hid (Cur K w0 wr w.heap.size i2 h2) ∧ Hid (Below w.heap.size w wr)) (fun _ i _ => x - (intOf i).toNat)
  case atStart => exact ⟨⟨#[]⟩, 0, i2, h2, Nat.zero_le _, rfl, rfl, by decide, C2, B2⟩
  case round =>
    obtain ⟨t, k, i3, h3, hk, rfl, rfl, ht, C3, B3⟩ := hrel
    by_cases hlt : k < x
    · go_wp2_with (go_at_call 29; refine (pick_lit C3.out 100 (by decide) (by rfl) (by decide) (by decide)).mono ?_; rintro e w4 ⟨u, i4, h4, rfl, hu, hc4, hg4⟩; have C4 := Lib.hid hc4; have B4 := Lib.hid (below_step B3.out hg4 (Nat.le_refl _)); clear hc4 hg4)
      go_roundw
      case rel => exact ⟨t ++ u, k + 1, i4, h4, by omega, by go_num, rfl, by simp; omega, C4, B4⟩
      case measure => simp [intOf]; omega
    · go_wp2_with fail
      go_ret
      exact ⟨t, rfl, by omega, B3.out⟩
end Go.Proofs.Ytfgfbdfijpecfaa
