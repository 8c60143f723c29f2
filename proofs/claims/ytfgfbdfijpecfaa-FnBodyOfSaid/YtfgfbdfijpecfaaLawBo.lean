/-
  The law FnBodyOf, given the walks of impl's BodyOf and PutFields.
-/
import Derived.Test.YtfgfbdfijpecfaaDrawFp
import Derived.Test.YtfgfbdfijpecfaaDrawFb
import Derived.Test.YtfgfbdfijpecfaaBodP
import Derived.Test.YtfgfbdfijpecfaaPutIs
import Derived.Test.YtfgfbdfijpecfaaFlW
import Derived.Test.YtfgfbdfijpecfaaBig
namespace Go.Proofs.Ytfgfbdfijpecfaa
set_option linter.unusedVariables false
open Go.RowKit

/-- What is asked of impl's BodyOf. -/
def BodyIs : Prop := ∀ (v : Value) (l : List Fl) (s : ByteArray) (w : World), FlsAt w v l → s.size ≤ 1048576 → (putL l).length ≤ 8388608 → l.length ≤ 1048576 →
  Calls Try.prog 15 #[v, .string s] w fun e w' => e = .returned (bodyV (bodyOf s.data.toList l)) ∧ Below w.heap.size w w'
theorem str_same (x : ByteArray) : (x.toList == x.toList) = true := by simp

set_option maxRecDepth 100000 in
set_option maxHeartbeats 2000000 in
theorem lawBody_walk (IB : BodyIs) (IP : PutIs) (a0 : Option Addr) (len0 cap0 : Nat) (z0 : List Int) (w : World) (w0 : IsRow .u8 w a0 len0 cap0 z0) :
    Calls Try.prog 4 #[.slice a0 len0 cap0] w fun e w' => e = .returned (.bool true) ∧ Below w.heap.size w w' := by
  have W0 := Lib.hid w0
  clear w0
  by_cases hl : len0 ≤ 1048576
  · go_enter Try.func4, Try.ntmps4
    go_wp2_with fail
    refine (big_no _ _ _ _ hl).mono ?_
    rintro e wx ⟨rfl, hwx⟩
    rw [hwx]
    clear hwx wx
    go_wp2_with fail
    refine (drawBodyOf_any ⟨a0, len0, cap0, z0⟩ w w W0.out hl (Below.refl _ _)).mono ?_
    rintro e w2 ⟨l, v, s, rfl, hb1, hb2, hb3, hf, hB2⟩
    obtain ⟨pl, cl, rfl⟩ := hf.slice
    have B2 := Lib.hid hB2
    have F2 := Lib.hid hf
    have BD := Lib.hid (And.intro hb1 (And.intro hb2 hb3))
    clear hB2 hf hb1 hb3
    go_wp2_with fail
    refine (IB _ l s _ F2.out (by have := BD.out; omega) (by have := BD.out; omega) (by omega)).mono ?_
    rintro e w3 ⟨rfl, hB3⟩
    have B3 := Lib.hid (B2.out.trans (hB3.mono B2.out.size))
    have F3 := Lib.hid (F2.out.later hB3 (Nat.le_refl _))
    clear hB3
    have SB := Lib.hid (fun w (hv : FlsAt w (.slice pl l.length cl) l) => specBody_any (.slice pl l.length cl) l s w hv (by have := BD.out; unfold maxLen; omega) (fun f hf => by have := putL_mem hf; have := BD.out; rw [mkB_size]; unfold maxLen; omega) (by omega))
    obtain ⟨R, hR⟩ : ∃ R, bodyOf s.data.toList l = R := ⟨_, rfl⟩
    rw [hR] at SB ⊢
    have HR : Hid (bodyOf s.data.toList (l.drop 0) = R) := Lib.hid (by rw [List.drop_zero]; exact hR)
    clear hR
    obtain ⟨sv, ok, hV, hOK⟩ : ∃ (sv : ByteArray) (ok : Bool), bodyV R = .tuple #[.string sv, .bool ok] ∧ ((R = none ∧ sv = ⟨#[]⟩ ∧ ok = false) ∨ ∃ b, R = some b ∧ sv = mkB b ∧ ok = true) := by
      cases R with
      | none => exact ⟨_, _, rfl, .inl ⟨rfl, rfl, rfl⟩⟩
      | some b => exact ⟨_, _, rfl, .inr ⟨b, rfl, rfl, rfl⟩⟩
    rw [hV] at SB ⊢
    have HOK := Lib.hid hOK
    clear hV hOK
    have gs : (sv.toList == sv.toList) = true := by simp
    go_wp2_with fail
    refine (SB.out _ F3.out).mono ?_
    rintro e w4 ⟨rfl, hB4⟩
    have B4 := Lib.hid (B3.out.trans (hB4.mono B3.out.size))
    have F4 := Lib.hid (F3.out.later hB4 (Nat.le_refl _))
    clear hB4
    go_wp2_with fail
    refine (drawPutFields_any ⟨a0, len0, cap0, z0⟩ w w4 W0.out hl B4.out).mono ?_
    rintro e w5 ⟨lp, vp, rfl, hp1, hp2, hfp, hB5⟩
    have B5 := Lib.hid (B4.out.trans (hB5.mono B4.out.size))
    have F5 := Lib.hid (F4.out.later hB5 (Nat.le_refl _))
    have P5 := Lib.hid hfp
    have PD := Lib.hid (And.intro hp1 hp2)
    clear hB5 hfp hp1 hp2
    have gk : (ok != ok) = false := by simp
    have PS := Lib.hid (fun w (hv : FlsAt w vp lp) => specPut_any vp lp w hv (by have := PD.out; omega) (by have := PD.out; omega))
    have PI := Lib.hid (fun w (hv : FlsAt w vp lp) => IP vp lp w hv (by have := PD.out; omega) (by have := PD.out; omega))
    generalize mkB (putL lp) = pv at PS PI
    have gp : (pv.toList != pv.toList) = false := by simp
    go_wp2_with fail
    refine (PI.out _ P5.out).mono ?_
    rintro e w6 ⟨rfl, hB6⟩
    have B6 := Lib.hid (B5.out.trans (hB6.mono B5.out.size))
    have F6 := Lib.hid (F5.out.later hB6 (Nat.le_refl _))
    have P6 := Lib.hid (P5.out.later hB6 (Nat.le_refl _))
    clear hB6
    go_wp2_with fail
    refine (PS.out _ P6.out).mono ?_
    rintro e w7 ⟨rfl, hB7⟩
    have B7 := Lib.hid (B6.out.trans (hB7.mono B6.out.size))
    have F7 := Lib.hid (F6.out.later hB7 (Nat.le_refl _))
    clear hB7
    go_wp2_with fail
    go_loopw [10] (fun i wr => ∃ k : Nat, k ≤ l.length ∧ i = .int .i64 k ∧ Hid (bodyOf s.data.toList (l.drop k) = R) ∧ Hid (Below w7.heap.size w7 wr)) (fun i _ => l.length - (intOf i).toNat)
    case atStart => exact ⟨0, Nat.zero_le _, rfl, HR, Lib.hid (Below.refl _ _)⟩
    case round =>
      obtain ⟨k, hk, rfl, HP, HB⟩ := hrel
      by_cases hlt : k < l.length
      · have g1 : decide ((k : Int) < (l.length : Int)) = true := by simp; omega
        have i1 : (0 : Int) ≤ (k : Int) := by omega
        have i2 : (k : Int) < (l.length : Int) := by omega
        obtain ⟨g, off, c2, hgv, hg, hc⟩ : ∃ g off c2, Value.slice pl l.length cl = .slice (some ⟨g, off, none⟩) l.length c2 ∧ g < w7.heap.size ∧ ∀ k, (h : k < l.length) → w7.cell? ⟨g, off + k * 2, none⟩ = some (.string (mkB l[k].name)) ∧ w7.cell? ⟨g, off + k * 2 + 1, none⟩ = some (.string (mkB l[k].body)) := by
          rcases F7.out with ⟨h, _⟩ | h
          · rw [h] at hlt; simp at hlt
          · exact h
        injection hgv with hgv1 hgv2 hgv3
        subst hgv1 hgv3
        obtain ⟨x1, x2⟩ := hc k hlt
        have hP := HP.out
        rw [bodyOf_drop _ _ _ hlt] at hP
        have SM := Lib.hid (fun w => implSame_any (mkB l[k].name) s w (by have := putL_mem (List.getElem_mem hlt); have := BD.out; rw [mkB_size]; unfold maxLen; omega) (by have := BD.out; unfold maxLen; omega))
        rw [mkB_list] at SM
        have y1 := (HB.out.cell (p := ⟨g, off + k * 2, none⟩) hg).trans x1
        have y2 := fun W (h : Below w7.heap.size w7 W) => (h.cell (p := ⟨g, off + k * 2 + 1, none⟩) hg).trans x2
        generalize mkB l[k].name = nm at y1 SM
        obtain ⟨bl, hbl⟩ : ∃ bl, l[k].body = bl := ⟨_, rfl⟩
        rw [hbl] at hP y2
        have Y2 := Lib.hid y2
        clear hc x1 x2 y2 HP hbl
        cases hsm : sameB l[k].name s.data.toList with
        | true =>
          rw [hsm] at hP SM
          obtain ⟨hs1, hs2⟩ : sv = mkB bl ∧ ok = true := by
            rcases HOK.out with ⟨h, _⟩ | ⟨b, h, h2, h3⟩
            · rw [h] at hP; cases hP
            · rw [h] at hP
              exact ⟨by rw [h2]; exact congrArg mkB (Option.some.inj hP).symm, h3⟩
          have Y3 : Hid (∀ W, Below w7.heap.size w7 W → W.cell? ⟨g, off + k * 2 + 1, none⟩ = some (.string sv)) := Lib.hid (by rw [hs1]; exact Y2.out)
          subst hs2
          clear hsm hP hs1
          go_wp2_with fail
          refine (SM.out _).mono ?_
          rintro e w8 ⟨rfl, hB8⟩
          have B8 := Lib.hid (HB.out.trans (hB8.mono HB.out.size))
          have z2 := Y3.out w8 B8.out
          clear hB8
          go_wp2_with fail
          go_ret
          exact ⟨rfl, B7.out.trans (B8.out.mono B7.out.size)⟩
        | false =>
          rw [hsm, if_neg (by simp)] at hP
          rw [hsm] at SM
          have HP := Lib.hid hP
          clear hsm hP
          go_wp2_with fail
          refine (SM.out _).mono ?_
          rintro e w8 ⟨rfl, hB8⟩
          have B8 := Lib.hid (HB.out.trans (hB8.mono HB.out.size))
          clear hB8
          go_wp2_with fail
          go_roundw
          case rel => exact ⟨k + 1, by omega, by go_num, HP, B8⟩
          case measure => simp [intOf]; omega
      · obtain rfl : k = l.length := by omega
        have g1 : decide ((l.length : Int) < (l.length : Int)) = false := by simp
        have hP := HP.out
        rw [List.drop_length] at hP
        obtain ⟨rfl, rfl⟩ : sv = ⟨#[]⟩ ∧ ok = false := by
          rcases HOK.out with ⟨_, h2, h3⟩ | ⟨b, h, _⟩
          · exact ⟨h2, h3⟩
          · rw [h] at hP; cases hP
        clear hP
        go_wp2_with fail
        go_ret
        exact ⟨rfl, B7.out.trans (HB.out.mono B7.out.size)⟩
  · go_enter Try.func4, Try.ntmps4
    go_wp2_with fail
    refine (big_yes _ _ _ _ (by omega)).mono ?_
    rintro e w1 ⟨rfl, rfl⟩
    go_wp2_with fail
    go_ret
    exact ⟨rfl, Below.refl _ _⟩
end Go.Proofs.Ytfgfbdfijpecfaa
