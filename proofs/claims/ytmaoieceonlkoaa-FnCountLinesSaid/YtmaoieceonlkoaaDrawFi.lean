/-
  The draws of Find and CountLines.
-/
import Derived.Test.YtmaoieceonlkoaaLawUp
namespace Go.Proofs.Ytmaoieceonlkoaa
set_option linter.unusedVariables false
open Go.RowKit

set_option maxRecDepth 100000 in
set_option maxHeartbeats 1000000 in
theorem drawFind_any (K : Code) (w0 w : World) (hr : IsRow .u8 w0 K.a K.len K.cap K.zs) (hl : K.len ≤ 1048576) (hb : Below w0.heap.size w0 w) :
    Calls Try.prog 18 #[.slice K.a K.len K.cap] w (DrawsTwo 200 w) := by
  go_enter Try.func18, Try.ntmps18
  go_wp2_with fail
  refine (new_any K w0 w hr hl hb).mono ?_
  rintro e w1 ⟨h1, rfl, hc1, hB1⟩
  have C1 := Lib.hid hc1
  have B1 := Lib.hid hB1
  clear hc1 hB1
  go_wp2_with fail
  refine (pick_lit C1.out 100 (by decide) (by rfl) (by decide) (by decide)).mono ?_
  rintro e w2 ⟨s, i2, h2, rfl, hs, hc2, hg2⟩
  have C2 := Lib.hid hc2
  have B2 := Lib.hid (below_step B1.out hg2 (Nat.le_refl _))
  clear hc2 hg2
  go_wp2_with fail
  refine (below_any C2.out 3 (by decide) (by decide)).mono ?_
  rintro e w3 ⟨x0, i3, h3, rfl, hx0, hx1, hc3, hg3, _⟩
  obtain ⟨x, rfl⟩ := Int.eq_ofNat_of_zero_le hx0
  have C3 := Lib.hid hc3
  have B3 := Lib.hid (below_step B2.out hg3 (Nat.le_refl _))
  clear hc3 hg3
  go_wp2_with fail
  refine (text_any C3.out x (by omega)).mono ?_
  rintro e w4 ⟨t, i4, h4, rfl, ht, hc4, hg4⟩
  have HT := Lib.hid ht
  have ht' : t.size ≤ 3 := by omega
  have C4 := Lib.hid hc4
  have B4 := Lib.hid (below_step B3.out hg4 (Nat.le_refl _))
  clear hc4 hg4 ht
  go_wp2_with fail
  refine (pick_lit C4.out 100 (by decide) (by rfl) (by decide) (by decide)).mono ?_
  rintro e w5 ⟨u, i5, h5, rfl, hu, hc5, hg5⟩
  have B5 := Lib.hid (below_step B4.out hg5 (Nat.le_refl _))
  clear hc5 hg5
  go_wp2_with fail
  go_ret2
  exact ⟨s ++ t, u, rfl, by simp; omega, by omega, B5.out⟩

set_option maxRecDepth 100000 in
set_option maxHeartbeats 1000000 in
theorem drawLines_any (K : Code) (w0 w : World) (hr : IsRow .u8 w0 K.a K.len K.cap K.zs) (hl : K.len ≤ 1048576) (hb : Below w0.heap.size w0 w) :
    Calls Try.prog 21 #[.slice K.a K.len K.cap] w (DrawsStr 1000 w) := by
  go_enter Try.func21, Try.ntmps21
  go_wp2_with fail
  refine (new_any K w0 w hr hl hb).mono ?_
  rintro e w1 ⟨h1, rfl, hc1, hB1⟩
  have C1 := Lib.hid hc1
  have B1 := Lib.hid hB1
  clear hc1 hB1
  go_wp2_with fail
  refine (below_any C1.out 7 (by decide) (by decide)).mono ?_
  rintro e w2 ⟨x0, i2, h2, rfl, hx0, hx1, hc2, hg2, _⟩
  obtain ⟨x, rfl⟩ := Int.eq_ofNat_of_zero_le hx0
  have C2 := Lib.hid hc2
  have B2 := Lib.hid (below_step B1.out hg2 (Nat.le_refl _))
  clear hc2 hg2
  go_wp2_with fail
  go_loopw [4, 6] (fun s i wr => ∃ (t : ByteArray) (k : Nat) (i2 : Nat) (h2 : Int), k ≤ x ∧ i = .int .i64 k ∧ s = .string t ∧ t.size ≤ 100 * k ∧ Hid (Cur K w0 wr w.heap.size i2 h2) ∧ Hid (Below w.heap.size w wr)) (fun _ i _ => x - (intOf i).toNat)
  case atStart => exact ⟨⟨#[]⟩, 0, i2, h2, Nat.zero_le _, rfl, rfl, by decide, C2, B2⟩
  case round =>
    obtain ⟨t, k, i3, h3, hk, rfl, rfl, ht, C3, B3⟩ := hrel
    by_cases hlt : k < x
    · go_wp2_with (go_at_call 31; refine (pick_lit C3.out 100 (by decide) (by rfl) (by decide) (by decide)).mono ?_; rintro e w4 ⟨u, i4, h4, rfl, hu, hc4, hg4⟩; have C4 := Lib.hid hc4; have B4 := Lib.hid (below_step B3.out hg4 (Nat.le_refl _)); clear hc4 hg4)
      go_roundw
      case rel => exact ⟨t ++ u, k + 1, i4, h4, by omega, by go_num, rfl, by simp; omega, C4, B4⟩
      case measure => simp [intOf]; omega
    · go_wp2_with fail
      go_ret
      exact ⟨t, rfl, by omega, B3.out⟩
end Go.Proofs.Ytmaoieceonlkoaa
