/-
  The draws of addresses: l06Text, DrawUnquote, DrawCommas, DrawReadAddrs.
-/
import Derived.Test.YtplaomiegkaaiaaDoorStrCur
import Derived.Test.YtplaomiegkaaiaaDoorBent
namespace Go.Proofs.YtplaomiegkaaiaaDoor
set_option linter.unusedVariables false
open Go.RowKit

set_option maxRecDepth 100000 in
set_option maxHeartbeats 2000000 in
theorem text6_any {K : Code} {w0 w : World} {g i : Nat} {h : Int} (c : Cur K w0 w g i h) :
    Calls Tryd.prog 38 #[.pointer (some ⟨g, 0, none⟩)] w (DrawnStr K w0 g 400 w) := by
  have C := Lib.hid c
  clear c
  go_enter Tryd.func38, Tryd.ntmps38
  go_wp2_with fail
  refine (below_any C.out 4 (by decide) (by decide)).mono ?_
  rintro e w1 ⟨n0, i1, h1, rfl, hn0, hn1, hc1, hg1, _⟩
  obtain ⟨n, rfl⟩ := Int.eq_ofNat_of_zero_le hn0
  have hn7 : n ≤ 3 := by omega
  have C1 := Lib.hid hc1
  have G1 := Lib.hid hg1
  clear hc1 hg1 hn0 hn1
  go_wp2_with fail
  go_loopw [3, 5] (fun v j wr => ∃ k : Nat, k ≤ n + 1 ∧ j = .int .i64 (k : Int) ∧ Hid (StrCur K w0 w g (80 * k) v wr)) (fun _ j _ => n + 1 - (intOf j).toNat)
  case atStart => exact ⟨0, Nat.zero_le _, rfl, Lib.hid ⟨⟨#[]⟩, i1, h1, rfl, Nat.zero_le _, C1.out, G1.out⟩⟩
  case round =>
    obtain ⟨k, hk, rfl, HS⟩ := hrel
    obtain ⟨s, i2, h2, rfl, hs, hc2, hg2⟩ := HS.out
    have C2 := Lib.hid hc2
    have G2 := Lib.hid hg2
    clear hc2 hg2 HS
    by_cases hlt : k < n + 1
    · have g1 : decide ((k : Int) < 1 + (n : Int)) = true := by simp; omega
      by_cases h0 : k = 0
      · have g2 : decide ((0 : Int) < (k : Int)) = false := by simp; omega
        have hk0 : k ≤ 0 := by omega
        clear h0
        go_wp2_with fail
        refine (pick_lit C2.out 30 (by decide) (by rfl) (by decide) (by decide)).mono ?_
        rintro e w3 ⟨t, i3, h3, rfl, ht, hc3, hg3⟩
        have HS3 : Hid (StrCur K w0 w g (80 * (k + 1)) (.string (s ++ t)) w3) := Lib.hid ⟨_, i3, h3, rfl, by rw [ByteArray.size_append]; omega, hc3, grownBy_trans G2.out hg3⟩
        have q1 : ¬ 9223372036854775807 < s.size + t.size := by omega
        clear hc3 hg3
        go_wp2_with fail
        go_roundw
        case rel => exact ⟨k + 1, by omega, by go_num, HS3⟩
        case measure => simp [intOf]; omega
      · have g2 : decide ((0 : Int) < (k : Int)) = true := by simp; omega
        go_wp2_with fail
        refine (pick_lit C2.out 10 (by decide) (by rfl) (by decide) (by decide)).mono ?_
        rintro e w3 ⟨t, i3, h3, rfl, ht, hc3, hg3⟩
        have C3 := Lib.hid hc3
        have G3 := Lib.hid (grownBy_trans G2.out hg3)
        have q1 : ¬ 9223372036854775807 < s.size + t.size := by omega
        clear hc3 hg3
        go_wp2_with fail
        refine (pick_lit C3.out 30 (by decide) (by rfl) (by decide) (by decide)).mono ?_
        rintro e w4 ⟨u, i4, h4, rfl, hu, hc4, hg4⟩
        have HS4 : Hid (StrCur K w0 w g (80 * (k + 1)) (.string (s ++ t ++ u)) w4) := Lib.hid ⟨_, i4, h4, rfl, by rw [ByteArray.size_append, ByteArray.size_append]; omega, hc4, grownBy_trans G3.out hg4⟩
        have q2 : ¬ 9223372036854775807 < s.size + t.size + u.size := by omega
        clear hc4 hg4
        go_wp2_with fail
        go_roundw
        case rel => exact ⟨k + 1, by omega, by go_num, HS4⟩
        case measure => simp [intOf]; omega
    · have g1 : decide ((k : Int) < 1 + (n : Int)) = false := by simp; omega
      go_wp2_with fail
      go_ret
      exact ⟨s, i2, h2, rfl, by omega, C2.out, G2.out⟩

/-- A text of at most m bytes is drawn. -/
def DrawsAd (m : Nat) (w : World) (e : Ending) (w' : World) : Prop := ∃ s : ByteArray, e = .returned (.string s) ∧ s.size ≤ m ∧ Below w.heap.size w w'

set_option maxRecDepth 100000 in
set_option maxHeartbeats 1000000 in
theorem drawUnquote_any (K : Code) (w0 w : World) (hr : IsRow .u8 w0 K.a K.len K.cap K.zs) (hl : K.len ≤ 1048576) (hb : Below w0.heap.size w0 w) :
    Calls Tryd.prog 21 #[.slice K.a K.len K.cap] w (DrawsAd 300 w) := by
  go_enter Tryd.func21, Tryd.ntmps21
  go_wp2_with fail
  refine (new_any K w0 w hr hl hb).mono ?_
  rintro e w1 ⟨h1, rfl, hc1, hB1⟩
  have C1 := Lib.hid hc1
  have B1 := Lib.hid hB1
  clear hc1 hB1
  go_wp2_with fail
  refine (pick_lit C1.out 100 (by decide) (by rfl) (by decide) (by decide)).mono ?_
  rintro e w2 ⟨s, i2, h2, rfl, hs, hc2, hg2⟩
  have C2 := Lib.hid hc2
  have B2 := Lib.hid (below_step B1.out hg2 (Nat.le_refl _))
  clear hc2 hg2
  go_wp2_with fail
  refine (pick_lit C2.out 100 (by decide) (by rfl) (by decide) (by decide)).mono ?_
  rintro e w3 ⟨t, i3, h3, rfl, ht, hc3, hg3⟩
  have C3 := Lib.hid hc3
  have B3 := Lib.hid (below_step B2.out hg3 (Nat.le_refl _))
  clear hc3 hg3
  go_wp2_with fail
  refine (pick_lit C3.out 100 (by decide) (by rfl) (by decide) (by decide)).mono ?_
  rintro e w4 ⟨u, i4, h4, rfl, hu, hc4, hg4⟩
  have B4 := Lib.hid (below_step B3.out hg4 (Nat.le_refl _))
  clear hc4 hg4
  go_wp2_with fail
  go_ret
  exact ⟨s ++ t ++ u, rfl, by simp; omega, B4.out⟩
end Go.Proofs.YtplaomiegkaaiaaDoor
