/-
  The draws of Split and Trim.
-/
import Derived.Test.YtmaoieceonlkoaaDoorPickI
namespace Go.Proofs.YtmaoieceonlkoaaDoor
set_option linter.unusedVariables false
open Go.RowKit

/-- A short text and a byte are drawn. -/
def DrawsSB (m : Nat) (w : World) (e : Ending) (w' : World) : Prop := ∃ (s : ByteArray) (b : UInt8), e = .returned (.tuple #[.string s, .int .u8 b.toNat]) ∧ s.size ≤ m ∧ Below w.heap.size w w'
/-- A short text is drawn. -/
def DrawsS1 (m : Nat) (w : World) (e : Ending) (w' : World) : Prop := ∃ s : ByteArray, e = .returned (.string s) ∧ s.size ≤ m ∧ Below w.heap.size w w'

set_option maxRecDepth 100000 in
set_option maxHeartbeats 1000000 in
theorem drawTrim_any (K : Code) (w0 w : World) (hr : IsRow .u8 w0 K.a K.len K.cap K.zs) (hl : K.len ≤ 1048576) (hb : Below w0.heap.size w0 w) :
    Calls Tryd.prog 17 #[.slice K.a K.len K.cap] w (DrawsS1 300 w) := by
  go_enter Tryd.func17, Tryd.ntmps17
  go_wp2_with fail
  refine (new_any K w0 w hr hl hb).mono ?_
  rintro e w1 ⟨h1, rfl, hc1, hB1⟩
  have C1 := Lib.hid hc1
  have B1 := Lib.hid hB1
  clear hc1 hB1
  go_wp2_with fail
  refine (pick_lit C1.out 100 (by decide) (by rfl) (by decide) (by decide)).mono ?_
  rintro e w2 ⟨s, i2, h2, rfl, hs, hc2, hg2⟩
  have C2 := Lib.hid hc2
  have B2 := Lib.hid (below_step B1.out hg2 (Nat.le_refl _))
  clear hc2 hg2
  go_wp2_with fail
  refine (pick_lit C2.out 100 (by decide) (by rfl) (by decide) (by decide)).mono ?_
  rintro e w3 ⟨t, i3, h3, rfl, ht, hc3, hg3⟩
  have C3 := Lib.hid hc3
  have B3 := Lib.hid (below_step B2.out hg3 (Nat.le_refl _))
  clear hc3 hg3
  go_wp2_with fail
  refine (pick_lit C3.out 100 (by decide) (by rfl) (by decide) (by decide)).mono ?_
  rintro e w4 ⟨u, i4, h4, rfl, hu, hc4, hg4⟩
  have B4 := Lib.hid (below_step B3.out hg4 (Nat.le_refl _))
  clear hc4 hg4
  go_wp2_with fail
  go_ret
  exact ⟨s ++ t ++ u, rfl, by simp; omega, B4.out⟩

set_option maxRecDepth 100000 in
set_option maxHeartbeats 1000000 in
theorem drawSplit_any (K : Code) (w0 w : World) (hr : IsRow .u8 w0 K.a K.len K.cap K.zs) (hl : K.len ≤ 1048576) (hb : Below w0.heap.size w0 w) :
    Calls Tryd.prog 15 #[.slice K.a K.len K.cap] w (DrawsSB 1000 w) := by
  go_enter Tryd.func15, Tryd.ntmps15
  go_wp2_with fail
  refine (new_any K w0 w hr hl hb).mono ?_
  rintro e w1 ⟨h1, rfl, hc1, hB1⟩
  have C1 := Lib.hid hc1
  have B1 := Lib.hid hB1
  clear hc1 hB1
  go_wp2_with fail
  refine (below_any C1.out 6 (by decide) (by decide)).mono ?_
  rintro e w2 ⟨x0, i2, h2, rfl, hx0, hx1, hc2, hg2, _⟩
  obtain ⟨x, rfl⟩ := Int.eq_ofNat_of_zero_le hx0
  have C2 := Lib.hid hc2
  have B2 := Lib.hid (below_step B1.out hg2 (Nat.le_refl _))
  clear hc2 hg2
  go_wp2_with fail
  go_loopw [5, 7] (fun s i wr => ∃ (t : ByteArray) (k : Nat) (i2 : Nat) (h2 : Int), k ≤ x ∧ i = .int .i64 k ∧ s = .string t ∧ t.size ≤ 100 * k ∧ Hid (Cur K w0 wr w.heap.size i2 h2) ∧ Hid (Below w.heap.size w wr)) (fun _ i _ => x - (intOf i).toNat)
  case atStart => exact ⟨⟨#[]⟩, 0, i2, h2, Nat.zero_le _, rfl, rfl, by decide, C2, B2⟩
  case round =>
    obtain ⟨t, k, i3, h3, hk, rfl, rfl, ht, C3, B3⟩ := hrel
    by_cases hlt : k < x
    · go_wp2_with (go_at_call 27; refine (pick_lit C3.out 100 (by decide) (by rfl) (by decide) (by decide)).mono ?_; rintro e w4 ⟨u, i4, h4, rfl, hu, hc4, hg4⟩; have C4 := Lib.hid hc4; have B4 := Lib.hid (below_step B3.out hg4 (Nat.le_refl _)); clear hc4 hg4)
      go_roundw
      case rel => exact ⟨t ++ u, k + 1, i4, h4, by omega, by go_num, rfl, by simp; omega, C4, B4⟩
      case measure => simp [intOf]; omega
    · go_wp2_with fail
      refine (pickInt_lit C3.out [44, 44, 44, 97, 0] (fun y => y = 44 ∨ y = 97 ∨ y = 0) (by decide) (by rfl) (by rfl) (by decide) (by decide)).mono ?_
      rintro e w4 ⟨y, i4, h4, rfl, hy, hc4, hg4⟩
      have B4 := Lib.hid (below_step B3.out hg4 (Nat.le_refl _))
      clear hc4 hg4
      rcases hy with rfl | rfl | rfl
      · go_wp2_with fail
        go_ret2
        exact ⟨t, 44, rfl, by omega, B4.out⟩
      · go_wp2_with fail
        go_ret2
        exact ⟨t, 97, rfl, by omega, B4.out⟩
      · go_wp2_with fail
        go_ret2
        exact ⟨t, 0, rfl, by omega, B4.out⟩
end Go.Proofs.YtmaoieceonlkoaaDoor
