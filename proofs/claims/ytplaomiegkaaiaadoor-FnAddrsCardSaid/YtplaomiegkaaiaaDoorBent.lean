/-
  The draws: a text with a byte changed, cut or put in, sometimes.
-/
import Derived.Test.YtplaomiegkaaiaaDoorPickA
import Derived.Lib.Strings
import Derived.Deep.RegionHeld3
namespace Go.Proofs.YtplaomiegkaaiaaDoor
set_option linter.unusedVariables false
open Go.RowKit

theorem grownBy_undrew {a b : World} {row : Option Nat} (h : a.drew.grownBy b row) : a.grownBy b row := ⟨h.os, h.tape, h.output, h.size, h.block⟩

set_option maxRecDepth 100000 in
set_option maxHeartbeats 2000000 in
theorem bent_any {K : Code} {w0 w : World} {g i : Nat} {h : Int} (c : Cur K w0 w g i h) (s : ByteArray) (hs : s.size ≤ 100000) :
    Calls Tryd.prog 37 #[.pointer (some ⟨g, 0, none⟩), .string s] w (DrawnStr K w0 g (s.size + 100) w) := by
  have C := Lib.hid c
  clear c
  have hw : IntKind.i64.wrap ((s.size : Int) + 1) = (s.size : Int) + 1 := by rw [IntKind.wrap_i64]; omega
  go_enter Tryd.func37, Tryd.ntmps37
  go_wp2_with fail
  refine (below_any C.out ((s.size : Int) + 1) (by omega) (by omega)).mono ?_
  rintro e w1 ⟨x0, i1, h1, rfl, hx0, hx1, hc1, hg1, _⟩
  obtain ⟨x, rfl⟩ := Int.eq_ofNat_of_zero_le hx0
  have hxs : x ≤ s.size := by omega
  clear hx0 hx1
  have C1 := Lib.hid hc1
  have G1 := Lib.hid hg1
  clear hc1 hg1
  go_wp2_with fail
  refine (below_any C1.out 10 (by decide) (by decide)).mono ?_
  rintro e w2 ⟨y0, i2, h2, rfl, hy0, hy1, hc2, hg2, _⟩
  obtain ⟨y, rfl⟩ := Int.eq_ofNat_of_zero_le hy0
  have C2 := Lib.hid hc2
  have G2 := Lib.hid (grownBy_trans G1.out hg2)
  clear hc2 hg2
  obtain rfl | rfl | rfl | hy : y = 0 ∨ y = 1 ∨ y = 2 ∨ 3 ≤ y := by omega
  · go_wp2_with fail
    go_ret
    exact ⟨_, i2, h2, rfl, by simp; omega, C2.out, G2.out⟩
  · have C2d := C2.out.later ((Below.refl _ _).drew)
    have q1 : (0 : Int) ≤ (x : Int) := by omega
    have q2 : (x : Int) ≤ (s.size : Int) := by omega
    go_wp2_with fail
    go_region_held3 (fun _ => True) (first | go_keep | exact trivial) (first | (go_at_call 47; refine (pick_lit C2d 100 (by decide) (by rfl) (by decide) (by decide)).mono ?_; rintro e w3 ⟨t, i3, h3, rfl, ht, hc3, hg3⟩; have q6 : ¬ 9223372036854775807 < x + t.size := (by omega); have q7 : ¬ 9223372036854775807 < x + t.size + (s.size - x) := (by omega)))
    have C3 := Lib.hid hc3
    have G3 := Lib.hid (grownBy_trans G2.out (grownBy_undrew hg3))
    clear hc3 hg3
    go_wp2_with fail
    go_ret
    exact ⟨_, i3, h3, rfl, by simp; omega, C3.out, G3.out⟩
  · by_cases hlt : x < s.size
    · have q3 : (x : Int) + 1 ≤ (s.size : Int) := by omega
      have q4 : IntKind.i64.wrap ((x : Int) + 1) = (x : Int) + 1 := by rw [IntKind.wrap_i64]; omega
      have q5 : (0 : Int) ≤ (x : Int) + 1 := by omega
      have C2d := C2.out.later ((Below.refl _ _).drew)
      have q1 : (0 : Int) ≤ (x : Int) := by omega
      have q2 : (x : Int) ≤ (s.size : Int) := by omega
      go_wp2_with fail
      go_region_held3 (fun _ => True) (first | go_keep | exact trivial) (first | (go_at_call 47; refine (pick_lit C2d 100 (by decide) (by rfl) (by decide) (by decide)).mono ?_; rintro e w3 ⟨t, i3, h3, rfl, ht, hc3, hg3⟩; have q6 : ¬ 9223372036854775807 < x + t.size := (by omega); have q7 : ¬ 9223372036854775807 < x + t.size + (s.size - (x + 1)) := (by omega)))
      have C3 := Lib.hid hc3
      have G3 := Lib.hid (grownBy_trans G2.out (grownBy_undrew hg3))
      clear hc3 hg3
      go_wp2_with fail
      go_ret
      exact ⟨_, i3, h3, rfl, by simp; omega, C3.out, G3.out⟩
    · go_wp2_with fail
      go_ret
      exact ⟨_, i2, h2, rfl, by omega, C2.out, G2.out⟩
  · have e0 : ((y : Int) == 0) = false := by rw [beq_eq_false_iff_ne]; omega
    have e1 : ((y : Int) == 1) = false := by rw [beq_eq_false_iff_ne]; omega
    have e2 : ((y : Int) == 2) = false := by rw [beq_eq_false_iff_ne]; omega
    go_wp2_with fail
    go_ret
    exact ⟨_, i2, h2, rfl, by omega, C2.out, G2.out⟩
end Go.Proofs.YtplaomiegkaaiaaDoor
