/-
  The law FnUpper, for every code.
-/
import Derived.Test.YtmaoieceonlkoaaDrawUp
import Derived.Test.YtmaoieceonlkoaaSameA
namespace Go.Proofs.Ytmaoieceonlkoaa
set_option linter.unusedVariables false
open Go.RowKit

/-- Two texts of at most m bytes are drawn. -/
def DrawsTwo (m : Nat) (w : World) (e : Ending) (w' : World) : Prop := ∃ s t : ByteArray, e = .returned (.tuple #[.string s, .string t]) ∧ s.size ≤ m ∧ t.size ≤ m ∧ Below w.heap.size w w'

set_option maxRecDepth 100000 in
set_option maxHeartbeats 1000000 in
theorem drawSame_any (K : Code) (w0 w : World) (hr : IsRow .u8 w0 K.a K.len K.cap K.zs) (hl : K.len ≤ 1048576) (hb : Below w0.heap.size w0 w) :
    Calls Try.prog 14 #[.slice K.a K.len K.cap] w (DrawsTwo 100 w) := by
  go_enter Try.func14, Try.ntmps14
  go_wp2_with fail
  refine (new_any K w0 w hr hl hb).mono ?_
  rintro e w1 ⟨h1, rfl, hc1, hB1⟩
  have C1 := Lib.hid hc1
  have B1 := Lib.hid hB1
  clear hc1 hB1
  go_wp2_with fail
  refine (pick_lit C1.out 100 (by decide) (by rfl) (by decide) (by decide)).mono ?_
  rintro e w2 ⟨s, i2, h2, rfl, hs, hc2, hg2⟩
  have C2 := Lib.hid hc2
  have B2 := Lib.hid (below_step B1.out hg2 (Nat.le_refl _))
  clear hc2 hg2
  go_wp2_with fail
  refine (pick_lit C2.out 100 (by decide) (by rfl) (by decide) (by decide)).mono ?_
  rintro e w3 ⟨t, i3, h3, rfl, ht, hc3, hg3⟩
  have B3 := Lib.hid (below_step B2.out hg3 (Nat.le_refl _))
  clear hc3 hg3
  go_wp2_with fail
  go_ret2
  exact ⟨s, t, rfl, hs, ht, B3.out⟩

set_option maxHeartbeats 400000 in
theorem big_no (a : Option Addr) (len cap : Nat) (w : World) (hl : len ≤ 1048576) :
    Calls Try.prog 11 #[.slice a len cap] w fun e w' => e = .returned (.bool false) ∧ w' = w := by
  have h1 : decide ((1048576 : Int) < (len : Int)) = false := by simp; omega
  go_enter Try.func11, Try.ntmps11
  go_wp2
  go_ret
  exact ⟨rfl, rfl⟩
set_option maxHeartbeats 400000 in
theorem big_yes (a : Option Addr) (len cap : Nat) (w : World) (hl : 1048576 < len) :
    Calls Try.prog 11 #[.slice a len cap] w fun e w' => e = .returned (.bool true) ∧ w' = w := by
  have h1 : decide ((1048576 : Int) < (len : Int)) = true := by simp; omega
  go_enter Try.func11, Try.ntmps11
  go_wp2
  go_ret
  exact ⟨rfl, rfl⟩

theorem upB_twice (b : UInt8) : upB (upB b) = upB b := by
  apply UInt8.toNat_inj.1
  have h1 := upB_nat (upB b)
  have h2 := upB_nat b
  by_cases h : 97 ≤ b.toNat ∧ b.toNat ≤ 122
  · rw [if_pos h] at h2
    rw [h1, if_neg (by omega)]
  · rw [if_neg h] at h2
    rw [h1, if_neg (by omega)]
theorem upS_twice (l : List UInt8) : upS (upS l) = upS l := by
  unfold upS
  rw [List.map_map]
  apply List.map_congr_left
  intro b _
  exact upB_twice b
theorem sameB_up (l : List UInt8) : sameB l (upS l) = true := by
  unfold sameB; rw [upS_twice]; simp
theorem sameB_comm (l m : List UInt8) : sameB l m = sameB m l := by
  unfold sameB; rw [Bool.eq_iff_iff]; simp; exact eq_comm

set_option maxRecDepth 100000 in
set_option maxHeartbeats 1000000 in
theorem lawUpper_walk (a0 : Option Addr) (len0 cap0 : Nat) (z0 : List Int) (w : World) (w0 : IsRow .u8 w a0 len0 cap0 z0) :
    Calls Try.prog 3 #[.slice a0 len0 cap0] w fun e w' => e = .returned (.bool true) ∧ Below w.heap.size w w' := by
  have W0 := Lib.hid w0
  clear w0
  by_cases hl : len0 ≤ 1048576
  · go_enter Try.func3, Try.ntmps3
    go_wp2_with fail
    refine (big_no _ _ _ _ hl).mono ?_
    rintro e w1 ⟨rfl, rfl⟩
    go_wp2_with fail
    refine (drawUpper_any ⟨a0, len0, cap0, z0⟩ w1 w1 W0.out hl (Below.refl _ _)).mono ?_
    rintro e w2 ⟨s, rfl, hs, hB2⟩
    go_wp2_with fail
    refine (implUpper_any s _ (by unfold maxLen; omega)).mono ?_
    rintro e w3 ⟨rfl, hB3⟩
    have B3 := Lib.hid (hB2.trans (hB3.mono hB2.size))
    have hlen : (⟨(upS s.data.toList).toArray⟩ : ByteArray).size = s.size := by show (upS s.data.toList).toArray.size = _; simp [upS]
    have htw : upS (⟨(upS s.data.toList).toArray⟩ : ByteArray).data.toList = upS s.data.toList := by simp [upS_twice]
    have hsm : sameB s.data.toList (⟨(upS s.data.toList).toArray⟩ : ByteArray).data.toList = true := by simp [sameB_up]
    generalize hu : (⟨(upS s.data.toList).toArray⟩ : ByteArray) = u at hlen htw hsm
    have HU := Lib.hid hu
    have HLEN := Lib.hid hlen
    have HTW := Lib.hid htw
    have HSM := Lib.hid hsm
    clear hu hlen htw hsm hB3
    go_wp2_with fail
    refine (drawSame_any ⟨a0, len0, cap0, z0⟩ w1 _ W0.out hl B3.out).mono ?_
    rintro e w4 ⟨a, b, rfl, ha, hb, hB4⟩
    have B4 := Lib.hid (B3.out.trans (hB4.mono B3.out.size))
    clear hB4
    go_wp2_with fail
    refine (specUpper_any s _ (by unfold maxLen; omega)).mono ?_
    rw [HU.out]
    rintro e w5 ⟨rfl, hB5⟩
    have B5 := Lib.hid (B4.out.trans (hB5.mono B4.out.size))
    clear hB5
    go_wp2_with fail
    have HSU : Hid (u.size ≤ maxLen) := Lib.hid (by have := HLEN.out; unfold maxLen; omega)
    have HSS : Hid (s.size ≤ maxLen) := Lib.hid (by unfold maxLen; omega)
    have HSA : Hid (a.size ≤ maxLen) := Lib.hid (by unfold maxLen; omega)
    have HSB : Hid (b.size ≤ maxLen) := Lib.hid (by unfold maxLen; omega)
    refine (implUpper_any u _ HSU.out).mono ?_
    rw [HTW.out, HU.out]
    rintro e w6 ⟨rfl, hB6⟩
    have B6 := Lib.hid (B5.out.trans (hB6.mono B5.out.size))
    clear hB6
    have hlen1 : ((u.size : Int) == (s.size : Int)) = true := by rw [HLEN.out]; simp
    go_wp2_with fail
    refine (implSame_any s u _ HSS.out HSU.out).mono ?_
    rw [HSM.out]
    rintro e w7 ⟨rfl, hB7⟩
    have B7 := Lib.hid (B6.out.trans (hB7.mono B6.out.size))
    clear hB7
    generalize hab : sameB a.data.toList b.data.toList = r
    have HAB := Lib.hid hab
    have HBA : Hid (sameB b.data.toList a.data.toList = r) := Lib.hid (by rw [sameB_comm]; exact hab)
    clear hab
    go_wp2_with fail
    refine (implSame_any a b _ HSA.out HSB.out).mono ?_
    rw [HAB.out]
    rintro e w8 ⟨rfl, hB8⟩
    have B8 := Lib.hid (B7.out.trans (hB8.mono B7.out.size))
    clear hB8
    go_wp2_with fail
    refine (specSame_any a b _ HSA.out HSB.out).mono ?_
    rw [HAB.out]
    rintro e w9 ⟨rfl, hB9⟩
    have B9 := Lib.hid (B8.out.trans (hB9.mono B8.out.size))
    clear hB9
    go_wp2_with fail
    refine (implSame_any b a _ HSB.out HSA.out).mono ?_
    rw [HBA.out]
    rintro e w10 ⟨rfl, hB10⟩
    have B10 := Lib.hid (B9.out.trans (hB10.mono B9.out.size))
    clear hB10
    go_wp2_with fail
    refine (implSame_any a b _ HSA.out HSB.out).mono ?_
    rw [HAB.out]
    rintro e w11 ⟨rfl, hB11⟩
    have B11 := Lib.hid (B10.out.trans (hB11.mono B10.out.size))
    clear hB11
    go_wp2_with fail
    go_ret
    exact ⟨rfl, B11.out⟩
  · go_enter Try.func3, Try.ntmps3
    go_wp2_with (go_at_call 11; refine (big_yes _ _ _ _ (by omega)).mono ?_; rintro e w1 ⟨rfl, rfl⟩)
    go_ret
    exact ⟨rfl, Below.refl _ _⟩
end Go.Proofs.Ytmaoieceonlkoaa
