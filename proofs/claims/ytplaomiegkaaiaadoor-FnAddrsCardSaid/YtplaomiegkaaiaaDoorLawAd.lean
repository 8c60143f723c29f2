/-
  The law FnAddrs, for every code.
-/
import Derived.Test.YtplaomiegkaaiaaDoorRaS
import Derived.Test.YtplaomiegkaaiaaDoorRaI
import Derived.Test.YtplaomiegkaaiaaDoorAdN
import Derived.Test.YtplaomiegkaaiaaDoorFindI
import Derived.Test.YtplaomiegkaaiaaDoorIdxH
import Derived.Test.YtplaomiegkaaiaaDoorDrawRa
import Derived.Test.YtplaomiegkaaiaaDoorBig
import Derived.Lib.IndexBytes
import Derived.Deep.RegionHeld3
namespace Go.Proofs.YtplaomiegkaaiaaDoor
set_option linter.unusedVariables false
open Go.RowKit

theorem find_none (l : List UInt8) (b : UInt8) (h : hasL b l = false) : Lib.index l [b] < 0 := by
  have h2 := index_has l b
  rw [h] at h2
  rw [Lib.index_one]
  simpa using h2
/-- What lies behind the first one. -/
theorem ads_rest {w : World} {g cap : Nat} {a : Ad} {l : List Ad} (h : AdsAt w (.slice (some ⟨g, 0, none⟩) (l.length + 1) cap) (a :: l)) (c : Nat) : AdsAt w (.slice (some ⟨g, 3, none⟩) l.length c) l := by
  rcases h with ⟨h, _⟩ | ⟨g2, off, c2, h1, h2, h3⟩
  · cases h
  · injection h1 with e1 e2 e3
    injection e1 with e1
    injection e1 with e4 e5 _
    subst e4 e5
    refine .inr ⟨g, 3, c, rfl, h2, fun k hk => ?_⟩
    have := h3 (k + 1) (by simpa using hk)
    simp only [List.getElem_cons_succ, Nat.zero_add] at this
    rw [show 3 + k * 3 = (k + 1) * 3 by omega]
    exact this

set_option maxRecDepth 100000 in
set_option maxHeartbeats 2000000 in
theorem lawAddrs_walk (a0 : Option Addr) (len0 cap0 : Nat) (z0 : List Int) (w : World) (w0 : IsRow .u8 w a0 len0 cap0 z0) (hsh : w.ShapedOpen Tryd.prog) :
    Calls Tryd.prog 3 #[.slice a0 len0 cap0] w fun e w' => e = .returned (.bool true) ∧ Below w.heap.size w w' := by
  have W0 := Lib.hid w0
  have HM := Lib.hid (maxLenAt_of_shaped hsh)
  clear w0 hsh
  by_cases hl : len0 ≤ 1048576
  · go_enter Tryd.func3, Tryd.ntmps3
    go_wp2_with fail
    refine (big_no _ _ _ _ hl).mono ?_
    rintro e w1 ⟨rfl, rfl⟩
    go_wp2_with fail
    refine (drawReadAddrs_any ⟨a0, len0, cap0, z0⟩ w1 w1 W0.out hl (Below.refl _ _)).mono ?_
    rintro e w2 ⟨s, rfl, hs, hB2⟩
    have B2 := Lib.hid hB2
    clear hB2
    have hmem : ∀ x ∈ addrsL s.data.toList, (mkB x.box).toList.isEmpty = false ∧ (mkB x.host).toList.isEmpty = false ∧ Lib.index (mkB x.host).data.toList [64] < 0 ∧ (mkB x.host).size ≤ 500 := fun x hx => by
      unfold addrsL at hx
      obtain ⟨p, hp, hpx⟩ := List.mem_filterMap.1 hx
      obtain ⟨h1, h2, h3, h4⟩ := addrOf_some hpx
      have h5 := total_mem hp
      have h6 := (comL_total s.data.toList).1
      rw [show s.data.toList.length = s.size by simp] at h6
      refine ⟨?_, ?_, by rw [mkB_list]; exact find_none _ 64 h3, by rw [mkB_size]; unfold adSize at h4; omega⟩
      · rw [Lib.toList_data, mkB_list]
        cases hb : x.box with
        | nil => exact absurd hb h1
        | cons c r => rfl
      · rw [Lib.toList_data, mkB_list]
        cases hb : x.host with
        | nil => exact absurd hb h2
        | cons c r => rfl
    have HMEM := Lib.hid hmem
    have hln : (addrsL s.data.toList).length ≤ 501 := by
      have h1 := List.length_filterMap_le addrOf (comL s.data.toList)
      have h2 := (comL_total s.data.toList).2
      rw [show s.data.toList.length = s.size by simp] at h2
      unfold addrsL
      omega
    have IC := Lib.hid (fun w => implReadAddrs_any s w (by omega))
    have SC := Lib.hid (fun w => specReadAddrs_any s w (by omega))
    have he1 : ((⟨#[83, 111, 109, 101, 32, 79, 110, 101, 32, 60, 115, 111, 109, 101, 64, 111, 110, 101, 62, 44, 32]⟩ : ByteArray) ++ s).data.toList = someL ++ [44, 32] ++ s.data.toList := by simp [ByteArray.data_append, someL]
    have IM := Lib.hid (fun w => implReadAddrs_any ((⟨#[83, 111, 109, 101, 32, 79, 110, 101, 32, 60, 115, 111, 109, 101, 64, 111, 110, 101, 62, 44, 32]⟩ : ByteArray) ++ s) w (by rw [ByteArray.size_append]; have : (⟨#[83, 111, 109, 101, 32, 79, 110, 101, 32, 60, 115, 111, 109, 101, 64, 111, 110, 101, 62, 44, 32]⟩ : ByteArray).size = 21 := rfl; omega))
    rw [he1, addrs_more] at IM
    generalize addrsL s.data.toList = L at HMEM hln IC SC IM
    have n1 : ¬ 9223372036854775807 < 21 + s.size := by omega
    clear hmem he1
    go_wp2_with fail
    refine (IC.out _).mono ?_
    rintro e w3 ⟨v, rfl, hv, hB3⟩
    have V3 := Lib.hid (ads_of_row hv)
    have B3 := Lib.hid (B2.out.trans (hB3.mono B2.out.size))
    clear hv hB3
    go_wp2_with fail
    refine (SC.out _).mono ?_
    rintro e w4 ⟨v2, rfl, hv2, hB4⟩
    have V4 := Lib.hid (V3.out.later hB4 (Nat.le_refl _))
    have X4 := Lib.hid (ads_of_row hv2)
    have B4 := Lib.hid (B3.out.trans (hB4.mono B3.out.size))
    clear hv2 hB4
    go_wp2_with fail
    refine (sameAds_yes v v2 L _ V4.out X4.out (by omega)).mono ?_
    rintro e w5 ⟨rfl, hB5⟩
    have V5 := Lib.hid (V4.out.later hB5 (Nat.le_refl _))
    have B5 := Lib.hid (B4.out.trans (hB5.mono B4.out.size))
    clear hB5 X4
    obtain ⟨pv, cv, rfl⟩ := V5.out.slice
    go_wp2_with fail
    go_loopw [5] (fun i wr => ∃ k : Nat, k ≤ L.length ∧ i = .int .i64 (k : Int) ∧ Hid (Below w5.heap.size w5 wr)) (fun i _ => L.length - (intOf i).toNat)
    case atStart => exact ⟨0, Nat.zero_le _, rfl, Lib.hid (Below.refl _ _)⟩
    case round =>
      obtain ⟨k, hk, rfl, HBR⟩ := hrel
      by_cases hlt : k < L.length
      · have g1 : decide ((k : Int) < (L.length : Int)) = true := by simp; omega
        have i1 : (0 : Int) ≤ (k : Int) := by omega
        have i2 : (k : Int) < (L.length : Int) := by omega
        obtain ⟨gl, off, hgl, hgw, x1, x2, x3⟩ : ∃ gl off, pv = some ⟨gl, off, none⟩ ∧ gl < wr.heap.size ∧ wr.cell? ⟨gl, off + k * 3, none⟩ = some (.string (mkB L[k].name)) ∧ wr.cell? ⟨gl, off + k * 3 + 1, none⟩ = some (.string (mkB L[k].box)) ∧ wr.cell? ⟨gl, off + k * 3 + 2, none⟩ = some (.string (mkB L[k].host)) := by
          rcases V5.out.later HBR.out (Nat.le_refl _) with ⟨h, _⟩ | ⟨g, o, c, h1, h2, h3⟩
          · rw [h] at hlt; simp at hlt
          · injection h1 with e1 _ _
            exact ⟨g, o, e1, h2, h3 k hlt⟩
        subst hgl
        obtain ⟨q1, q2, q3, q4⟩ := HMEM.out L[k] (List.getElem_mem hlt)
        generalize mkB L[k].box = bx at x2 q1
        generalize mkB L[k].host = ho at x3 q2 q3 q4
        have FI := Lib.hid (fun w hm => implFind_any ho ⟨#[64]⟩ w hm (by omega))
        rw [show (⟨#[64]⟩ : ByteArray).data.toList = [64] from rfl] at FI
        generalize Lib.index ho.data.toList [64] = ix at q3 FI
        have g2 : decide ((0 : Int) ≤ ix) = false := by simp; omega
        have MX := Lib.hid (HM.out.after (B5.out.trans (HBR.out.mono B5.out.size)))
        clear q3 q4 x1
        go_wp2_with (first | (go_at_call 15; refine (FI.out _ MX.out).mono ?_; rintro e wb ⟨rfl, hwb⟩; rw [hwb]; clear hwb wb))
        go_roundw
        case rel => exact ⟨k + 1, by omega, by go_num, HBR⟩
        case measure => simp [intOf]; omega
      · have g1 : decide ((k : Int) < (L.length : Int)) = false := by simp; omega
        have B6 := Lib.hid (B5.out.trans (HBR.out.mono B5.out.size))
        have V6 := Lib.hid (V5.out.later HBR.out (Nat.le_refl _))
        clear HMEM IC SC V3 V4 V5
        go_wp2_with fail
        refine (IM.out _).mono ?_
        rintro e w7 ⟨vm, rfl, hvm, hB7⟩
        obtain ⟨gm, cm, rfl⟩ := row_slice1 hvm (by simp)
        have X7 := Lib.hid (ads_of_row hvm)
        have V7 := Lib.hid (V6.out.later hB7 (Nat.le_refl _))
        have B7 := Lib.hid (B6.out.trans (hB7.mono B6.out.size))
        have hcl : L.length + 1 ≤ cm := by
          rcases hvm.2 with ⟨h, _⟩ | ⟨g', cap', cur, h, _, _, hn, _⟩
          · cases h
          · injection h with _ _ e3
            simp at hn
            omega
        have hll : (someAd :: L).length = L.length + 1 := rfl
        obtain ⟨hx1, hx2, hx3⟩ : w7.cell? ⟨gm, 0, none⟩ = some (.string (mkB someAd.name)) ∧ w7.cell? ⟨gm, 1, none⟩ = some (.string (mkB someAd.box)) ∧ w7.cell? ⟨gm, 2, none⟩ = some (.string (mkB someAd.host)) := by
          rcases X7.out with ⟨h, _⟩ | ⟨g, o, c, h1, h2, h3⟩
          · cases h
          · injection h1 with e1 _ _
            injection e1 with e1
            injection e1 with e4 e5 _
            subst e4 e5
            exact h3 0 (by simp)
        have y1 : w7.cell? ⟨gm, 0, none⟩ = some (.string ⟨#[83, 111, 109, 101, 32, 79, 110, 101]⟩) := hx1
        have y2 : w7.cell? ⟨gm, 1, none⟩ = some (.string ⟨#[115, 111, 109, 101]⟩) := hx2
        have y3 : w7.cell? ⟨gm, 2, none⟩ = some (.string ⟨#[111, 110, 101]⟩) := hx3
        rw [hll]
        have q1 : (0 : Int) < ((L.length + 1 : Nat) : Int) := by omega
        have q2 : (1 : Int) ≤ ((L.length + 1 : Nat) : Int) := by omega
        clear hvm hB7 hll hx1 hx2 hx3
        by_cases hc1 : cm = 1
        · obtain rfl : L = [] := List.eq_nil_of_length_eq_zero (by omega)
          subst hc1
          go_wp2_with fail
          refine (sameAds_yes _ _ [] w7 (.inl ⟨rfl, _, _, rfl⟩) V7.out (by simp)).mono ?_
          rintro e w8 ⟨rfl, hB8⟩
          have B8 := Lib.hid (B7.out.trans (hB8.mono B7.out.size))
          clear hB8
          go_wp2_with fail
          go_ret
          exact ⟨rfl, B8.out⟩
        · go_wp2_with fail
          refine (sameAds_yes _ _ L w7 (ads_rest X7.out _) V7.out (by omega)).mono ?_
          rintro e w8 ⟨rfl, hB8⟩
          have B8 := Lib.hid (B7.out.trans (hB8.mono B7.out.size))
          clear hB8
          go_wp2_with fail
          go_ret
          exact ⟨rfl, B8.out⟩
  · go_enter Tryd.func3, Tryd.ntmps3
    go_wp2_with (go_at_call 10; refine (big_yes _ _ _ _ (by omega)).mono ?_; rintro e w1 ⟨rfl, rfl⟩)
    go_ret
    exact ⟨rfl, Below.refl _ _⟩
end Go.Proofs.YtplaomiegkaaiaaDoor
