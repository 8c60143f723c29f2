/-
  The law FnTwoHeads, given the walks of impl's Fields and PutFields.
-/
import Derived.Test.YtfgfbdfijpecfaaDoorDrawFp
import Derived.Test.YtfgfbdfijpecfaaDoorDrawFf
import Derived.Test.YtfgfbdfijpecfaaDoorFlR
import Derived.Test.YtfgfbdfijpecfaaDoorFlN
import Derived.Test.YtfgfbdfijpecfaaDoorPutIs
import Derived.Test.YtfgfbdfijpecfaaDoorFieldsIs
import Derived.Test.YtfgfbdfijpecfaaDoorBig
namespace Go.Proofs.YtfgfbdfijpecfaaDoor
set_option linter.unusedVariables false
open Go.RowKit

theorem fls_take {w : World} {p : Option Addr} {n cap : Nat} {a b : List Fl} (h : FlsAt w (.slice p n cap) (a ++ b)) : FlsAt w (.slice p a.length cap) a := by
  rcases h with ⟨h1, p2, c2, h2⟩ | ⟨g, off, c2, h1, h2, h3⟩
  · obtain ⟨rfl, rfl⟩ := List.append_eq_nil_iff.1 h1
    exact .inl ⟨rfl, p, cap, rfl⟩
  · injection h1 with e1 e2 e3
    subst e1 e3
    refine .inr ⟨g, off, cap, rfl, h2, fun k hk => ?_⟩
    have := h3 k (by rw [List.length_append]; omega)
    rwa [List.getElem_append_left hk] at this
theorem fls_drop {w : World} {g off n cap c : Nat} {a b : List Fl} (h : FlsAt w (.slice (some ⟨g, off, none⟩) n cap) (a ++ b)) (hb : b ≠ []) : FlsAt w (.slice (some ⟨g, off + a.length * 2, none⟩) b.length c) b := by
  rcases h with ⟨h1, _⟩ | ⟨g2, off2, c2, h1, h2, h3⟩
  · exact absurd (List.append_eq_nil_iff.1 h1).2 hb
  · injection h1 with e1 e2 e3
    injection e1 with e1
    injection e1 with f1 f2
    subst f1 f2
    refine .inr ⟨g, off + a.length * 2, c, rfl, h2, fun k hk => ?_⟩
    have := h3 (a.length + k) (by rw [List.length_append]; omega)
    rw [List.getElem_append_right (by omega)] at this
    simp only [Nat.add_sub_cancel_left] at this
    rw [show off + (a.length + k) * 2 = off + a.length * 2 + k * 2 by omega] at this
    exact this
theorem row_cap {w : World} {B k n cap : Nat} {e : TypeId} {p : Option Addr} {xs : List Value} (h : w.ownsRow B e k (.slice p n cap) n xs) : n ≤ cap := by
  rcases h with ⟨_, ⟨h1, rfl⟩ | ⟨g, c2, cur, h1, _, _, h2, _⟩⟩
  · omega
  · injection h1 with _ _ e3
    omega

def zLine : Fl := ⟨[90], [49]⟩
theorem zGood : Good zLine := by
  refine ⟨by simp [zLine], by decide, ?_, by decide, ?_⟩
  · intro b hb
    rw [List.mem_singleton.1 hb]
    decide
  · exact noMark_one 49

set_option maxRecDepth 100000 in
set_option maxHeartbeats 2000000 in
theorem lawTwo_walk (IF : FieldsIs) (IP : PutIs) (a0 : Option Addr) (len0 cap0 : Nat) (z0 : List Int) (w : World) (w0 : IsRow .u8 w a0 len0 cap0 z0) (hsh : w.ShapedOpen Tryd.prog) :
    Calls Tryd.prog 4 #[.slice a0 len0 cap0] w fun e w' => e = .returned (.bool true) ∧ Below w.heap.size w w' := by
  have W0 := Lib.hid w0
  have HM := Lib.hid (maxLenAt_of_shaped hsh)
  clear w0 hsh
  by_cases hl : len0 ≤ 1048576
  · go_enter Tryd.func4, Tryd.ntmps4
    go_wp2_with fail
    refine (big_no _ _ _ _ hl).mono ?_
    rintro e wx ⟨rfl, hwx⟩
    rw [hwx]
    clear hwx wx
    go_wp2_with fail
    refine (drawPutFields_any ⟨a0, len0, cap0, z0⟩ w w W0.out hl (Below.refl _ _)).mono ?_
    rintro e w1 ⟨a, va, rfl, ha1, ha2, hfa, hB1⟩
    have B1 := Lib.hid hB1
    have FA1 := Lib.hid hfa
    have DA := Lib.hid (And.intro ha1 ha2)
    clear hB1 hfa ha1 ha2
    go_wp2_with fail
    refine (drawFields_any ⟨a0, len0, cap0, z0⟩ w w1 W0.out hl B1.out).mono ?_
    rintro e w2 ⟨b, rfl, hb1, hB2⟩
    have FA2 := Lib.hid (FA1.out.later hB2 (Nat.le_refl _))
    have B2 := Lib.hid (B1.out.trans (hB2.mono B1.out.size))
    have DB := Lib.hid hb1
    clear hB2 hb1
    go_wp2_with fail
    refine (IP va a _ FA2.out (by have := DA.out; omega) (by have := DA.out; omega)).mono ?_
    rintro e w3 ⟨rfl, hB3⟩
    have B3 := Lib.hid (B2.out.trans (hB3.mono B2.out.size))
    have M3 := Lib.hid (HM.out.after B3.out)
    clear hB3
    go_wp2_with fail
    have IF3 := IF (mkB (putL a)) w3 M3.out (by rw [mkB_size]; have := DA.out; omega)
    rw [mkB_list] at IF3
    refine IF3.mono ?_
    clear IF3
    obtain ⟨q1, q2⟩ := fieldsL_bounds (putL a)
    have hgood := fieldsL_good (putL a)
    generalize fieldsL (putL a) = l at q1 q2 hgood
    rintro e w4 ⟨vl, rfl, hrl, hB4⟩
    have GD := Lib.hid hgood
    have DL : Hid ((putL l).length ≤ 25004 ∧ l.length ≤ 5001) := Lib.hid (by have := DA.out; omega)
    have FL4 := Lib.hid (fls_of_row hrl)
    have B4 := Lib.hid (B3.out.trans (hB4.mono B3.out.size))
    clear q1 q2 hgood hrl hB4
    go_wp2_with fail
    refine (IP vl l _ FL4.out (by have := DL.out; omega) (by have := DL.out; omega)).mono ?_
    rintro e w5 ⟨rfl, hB5⟩
    have B5 := Lib.hid (B4.out.trans (hB5.mono B4.out.size))
    have M5 := Lib.hid (HM.out.after B5.out)
    clear hB5
    have hcat : mkB (putL l) ++ ⟨#[90, 58, 32, 49, 13, 10]⟩ ++ b = mkB (putL l ++ (textF zLine ++ 13 :: 10 :: b.data.toList)) := by
      apply ByteArray.ext
      simp [mkB, textF, zLine]
    have hcat2 : (⟨#[90, 58, 32, 49, 13, 10]⟩ : ByteArray) ++ b = mkB (textF zLine ++ 13 :: 10 :: b.data.toList) := by
      apply ByteArray.ext
      simp [mkB, textF, zLine]
    have hfx : fieldsL (putL l) = l := fields_put l GD.out
    have hf2 := fields_two l (textF zLine) b.data.toList GD.out zGood.head zGood.noMark
    have hf1 := fields_some zLine b.data.toList zGood
    have hlb : b.data.toList.length = b.size := by simp
    have hyl : (textF zLine ++ 13 :: 10 :: b.data.toList).length = b.size + 6 := by simp [textF, zLine, hlb]
    have IFX := Lib.hid (fun w hm => IF (mkB (putL l)) w hm (by rw [mkB_size]; have := DL.out; omega))
    have IFY := Lib.hid (fun w hm => IF (mkB (textF zLine ++ 13 :: 10 :: b.data.toList)) w hm (by rw [mkB_size, hyl]; have := DB.out; omega))
    have IFZ := Lib.hid (fun w hm => IF (mkB (putL l ++ (textF zLine ++ 13 :: 10 :: b.data.toList))) w hm (by rw [mkB_size, List.length_append, hyl]; have := DB.out; have := DL.out; omega))
    have SFX := Lib.hid (fun w => specFields_any (mkB (putL l)) w (by rw [mkB_size]; have := DL.out; omega))
    have hyb := fieldsL_bounds (textF zLine ++ 13 :: 10 :: b.data.toList)
    rw [hyl] at hyb
    rw [mkB_list] at IFX IFY IFZ SFX
    rw [hfx] at IFX SFX
    rw [hf2] at IFZ
    have HCAT := Lib.hid hcat
    have HCAT2 := Lib.hid hcat2
    have n1 : (mkB (putL l)).size = (putL l).length := mkB_size _
    generalize hY : fieldsL (textF zLine ++ 13 :: 10 :: b.data.toList) = L2 at IFY IFZ hf1 hyb
    have DY : Hid (L2.length ≤ 1007) := Lib.hid (by have := DB.out; omega)
    generalize hZ : mkB (putL l ++ (textF zLine ++ 13 :: 10 :: b.data.toList)) = xz at IFZ HCAT
    generalize hY2 : mkB (textF zLine ++ 13 :: 10 :: b.data.toList) = yz at IFY HCAT2
    generalize hX : mkB (putL l) = xx at IFX SFX HCAT n1
    have s1 : ¬ 9223372036854775807 < xx.size + 6 := by have := DL.out; omega
    have s2 : ¬ 9223372036854775807 < xx.size + 6 + b.size := by have := DL.out; have := DB.out; omega
    have s3 : ¬ 9223372036854775807 < 6 + b.size := by have := DB.out; omega
    clear hcat hcat2 hfx hf2 hlb hyl hY hZ hY2 hX hyb n1
    go_wp2_with fail
    rw [HCAT.out]
    refine (IFZ.out _ M5.out).mono ?_
    rintro e w6 ⟨vz, rfl, hrz, hB6⟩
    have hne : 0 < (l ++ L2).length := by rw [List.length_append]; omega
    obtain ⟨gz, cz, rfl⟩ := row_slice1 hrz hne
    have hcz := row_cap hrz
    have B6 := Lib.hid (B5.out.trans (hB6.mono B5.out.size))
    have M6 := Lib.hid (HM.out.after B6.out)
    have FZ6 := Lib.hid (fls_of_row hrz)
    rw [List.length_append] at FZ6 hcz ⊢
    clear hB6 hrz hne
    go_wp2_with fail
    refine (IFX.out _ M6.out).mono ?_
    rintro e w7 ⟨vf, rfl, hrf, hB7⟩
    obtain ⟨pf, cf, rfl⟩ := row_slice hrf
    have B7 := Lib.hid (B6.out.trans (hB7.mono B6.out.size))
    have FZ7 := Lib.hid (FZ6.out.later hB7 (Nat.le_refl _))
    have FF7 := Lib.hid (fls_of_row hrf)
    clear hB7 hrf
    go_wp2_with fail
    refine (SFX.out _).mono ?_
    rintro e w8 ⟨vg, rfl, hrg, hB8⟩
    have B8 := Lib.hid (B7.out.trans (hB8.mono B7.out.size))
    have FZ8 := Lib.hid (FZ7.out.later hB8 (Nat.le_refl _))
    have FF8 := Lib.hid (FF7.out.later hB8 (Nat.le_refl _))
    have FG8 := Lib.hid (fls_of_row hrg)
    clear hB8 hrg
    have hn1 : l.length ≤ 5001 := DL.out.2
    have hn2 : L2.length ≤ 1007 := DY.out
    have g5 : decide (((l.length + L2.length : Nat) : Int) < (l.length : Int) + 1) = false := by simp; omega
    have g6 : decide ((l.length : Int) + (L2.length : Int) < (l.length : Int) + 1) = false := by simp; omega
    have i1 : (0 : Int) ≤ (l.length : Int) := by omega
    have i2 : (l.length : Int) ≤ (cz : Int) := by omega
    have i3 : (l.length : Int) ≤ ((l.length + L2.length : Nat) : Int) := by omega
    have i4 : (l.length : Int) ≤ (l.length : Int) + (L2.length : Int) := by omega
    go_wp2_with fail
    refine (sameFls_yes _ _ l w8 FF8.out FG8.out (by omega)).mono ?_
    rintro e w9 ⟨rfl, hB9⟩
    have B9 := Lib.hid (B8.out.trans (hB9.mono B8.out.size))
    have FZ9 := Lib.hid (FZ8.out.later hB9 (Nat.le_refl _))
    have FF9 := Lib.hid (FF8.out.later hB9 (Nat.le_refl _))
    clear hB9
    go_wp2_with fail
    refine (sameFls_yes _ _ l w9 (fls_take FZ9.out) FF9.out (by omega)).mono ?_
    rintro e w10 ⟨rfl, hB10⟩
    have B10 := Lib.hid (B9.out.trans (hB10.mono B9.out.size))
    have M10 := Lib.hid (HM.out.after B10.out)
    have FZ10 := Lib.hid (FZ9.out.later hB10 (Nat.le_refl _))
    clear hB10
    go_wp2_with fail
    rw [HCAT2.out]
    refine (IFY.out _ M10.out).mono ?_
    rintro e w11 ⟨vr, rfl, hrr, hB11⟩
    have B11 := Lib.hid (B10.out.trans (hB11.mono B10.out.size))
    have FZ11 := Lib.hid (FZ10.out.later hB11 (Nat.le_refl _))
    have FR11 := Lib.hid (fls_of_row hrr)
    have hcz2 : ¬ cz = l.length := by omega
    have HL2 : Hid (L2 ≠ []) := Lib.hid (fun h => by rw [h] at hf1; simp at hf1)
    clear hB11 hrr
    go_wp2_with fail
    have hdr := fls_drop (c := cz - l.length) FZ11.out HL2.out
    rw [Nat.zero_add] at hdr
    refine (sameFls_yes _ _ L2 w11 hdr FR11.out (by omega)).mono ?_
    rintro e w12 ⟨rfl, hB12⟩
    have B12 := Lib.hid (B11.out.trans (hB12.mono B11.out.size))
    clear hB12 hdr
    go_wp2_with fail
    go_ret
    exact ⟨rfl, B12.out⟩
  · go_enter Tryd.func4, Tryd.ntmps4
    go_wp2_with fail
    refine (big_yes _ _ _ _ (by omega)).mono ?_
    rintro e w1 ⟨rfl, rfl⟩
    go_wp2_with fail
    go_ret
    exact ⟨rfl, Below.refl _ _⟩
end Go.Proofs.YtfgfbdfijpecfaaDoor
