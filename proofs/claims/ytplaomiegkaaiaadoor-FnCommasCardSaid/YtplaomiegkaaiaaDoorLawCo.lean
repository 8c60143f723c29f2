/-
  The law FnCommas, for every code.
-/
import Derived.Test.YtplaomiegkaaiaaDoorCmI
import Derived.Test.YtplaomiegkaaiaaDoorUqI
import Derived.Test.YtplaomiegkaaiaaDoorIwQ
import Derived.Test.YtplaomiegkaaiaaDoorTexts
import Derived.Test.YtplaomiegkaaiaaDoorFindI
import Derived.Test.YtplaomiegkaaiaaDoorDrawCm
import Derived.Test.YtplaomiegkaaiaaDoorBig
import Derived.Lib.IndexMore
import Derived.Deep.RegionHeld3
namespace Go.Proofs.YtplaomiegkaaiaaDoor
set_option linter.unusedVariables false
open Go.RowKit

theorem index_infix (l x a b : List UInt8) (h : l = a ++ x ++ b) : 0 ≤ Lib.index l x := by
  rcases Lib.index_spec l x with ⟨_, h2⟩ | ⟨i, h1, _⟩
  · have := h2 a.length (by rw [h]; simp)
    rw [h] at this
    have h3 : x.isPrefixOf (x ++ b) = true := List.isPrefixOf_iff_prefix.2 ⟨b, rfl⟩
    unfold Lib.occAt at this
    rw [List.append_assoc, List.drop_left, h3] at this
    cases this
  · omega

set_option maxRecDepth 100000 in
set_option maxHeartbeats 2000000 in
theorem lawCommas_walk (a0 : Option Addr) (len0 cap0 : Nat) (z0 : List Int) (w : World) (w0 : IsRow .u8 w a0 len0 cap0 z0) (hsh : w.ShapedOpen Tryd.prog) :
    Calls Tryd.prog 4 #[.slice a0 len0 cap0] w fun e w' => e = .returned (.bool true) ∧ Below w.heap.size w w' := by
  have W0 := Lib.hid w0
  have HM := Lib.hid (maxLenAt_of_shaped hsh)
  clear w0 hsh
  by_cases hl : len0 ≤ 1048576
  · go_enter Tryd.func4, Tryd.ntmps4
    go_wp2_with fail
    refine (big_no _ _ _ _ hl).mono ?_
    rintro e w1 ⟨rfl, rfl⟩
    go_wp2_with fail
    refine (drawCommas_any ⟨a0, len0, cap0, z0⟩ w1 w1 W0.out hl (Below.refl _ _)).mono ?_
    rintro e w2 ⟨s, rfl, hs, hB2⟩
    have B2 := Lib.hid hB2
    clear hB2
    have hmem : ∀ x ∈ (comL s.data.toList).map mkB, x.toList.isEmpty = false ∧ x.size ≤ 500 ∧ Lib.trimS x.data.toList [32, 9] = x.data.toList ∧ 0 ≤ Lib.index s.data.toList x.data.toList := fun x hx => by
      obtain ⟨y, hy, rfl⟩ := List.mem_map.1 hx
      obtain ⟨h1, h2, a, b, h3⟩ := comL_mem hy
      have h4 := total_mem hy
      have h5 := (comL_total s.data.toList).1
      refine ⟨?_, ?_, h2, index_infix _ _ a b h3⟩
      · rw [Lib.toList_data, mkB_list]
        cases y with
        | nil => exact absurd rfl h1
        | cons c r => rfl
      · rw [mkB_size]
        rw [show s.data.toList.length = s.size by simp] at h5
        omega
    have HMEM := Lib.hid hmem
    have hln : ((comL s.data.toList).map mkB).length ≤ 501 := by
      have h := (comL_total s.data.toList).2
      rw [show s.data.toList.length = s.size by simp] at h
      rw [List.length_map]
      omega
    have IC := Lib.hid (fun w => implCommas_any s w (by omega))
    have SC := Lib.hid (fun w => specCommas_any s w (by omega))
    generalize (comL s.data.toList).map mkB = L at HMEM hln IC SC
    clear hmem
    go_wp2_with fail
    refine (IC.out _).mono ?_
    rintro e w3 ⟨v, rfl, hv, hB3⟩
    have VALS3 := Lib.hid (valsAt_of_row hv)
    have B3 := Lib.hid (B2.out.trans (hB3.mono B2.out.size))
    clear hv hB3
    go_wp2_with fail
    refine (SC.out _).mono ?_
    rintro e w4 ⟨v2, rfl, hv2, hB4⟩
    have VALS4 := Lib.hid (VALS3.out.later hB4)
    have VALSB := Lib.hid (valsAt_of_row hv2)
    have B4 := Lib.hid (B3.out.trans (hB4.mono B3.out.size))
    clear hv2 hB4
    go_wp2_with fail
    refine (sameTexts_any v v2 L L _ VALS4.out VALSB.out (by omega) (by omega)).mono ?_
    rintro e w5 ⟨he, hq⟩
    obtain rfl : e = .returned (.bool true) := by rw [he]; simp
    clear he
    have VALS5 := Lib.hid (VALS4.out.of_heap hq.1)
    have B5 := Lib.hid (B4.out.trans (hq.2.mono B4.out.size))
    clear hq VALSB
    obtain ⟨pv, cv, rfl⟩ : ∃ pv cv, v = .slice pv L.length cv := by
      rcases VALS5.out with ⟨h, p, c, rfl⟩ | ⟨g, c, rfl, _⟩
      · have := congrArg List.length h
        rw [List.length_map] at this
        exact ⟨p, c, by rw [this]; rfl⟩
      · exact ⟨_, c, by rw [List.length_map]⟩
    go_wp2_with fail
    go_loopw [5] (fun i wr => ∃ k : Nat, k ≤ L.length ∧ i = .int .i64 (k : Int) ∧ Hid (Below w5.heap.size w5 wr)) (fun i _ => L.length - (intOf i).toNat)
    case atStart => exact ⟨0, Nat.zero_le _, rfl, Lib.hid (Below.refl _ _)⟩
    case round =>
      obtain ⟨k, hk, rfl, HBR⟩ := hrel
      by_cases hlt : k < L.length
      · have g1 : decide ((k : Int) < (L.length : Int)) = true := by simp; omega
        have i1 : (0 : Int) ≤ (k : Int) := by omega
        have i2 : (k : Int) < (L.length : Int) := by omega
        obtain ⟨gl, hgl, hc⟩ : ∃ gl, pv = some ⟨gl, 0, none⟩ ∧ wr.cell? ⟨gl, k, none⟩ = some (.string L[k]) ∧ gl < wr.heap.size := by
          rcases VALS5.out.later HBR.out with ⟨h, _⟩ | ⟨g, c, h1, h2, h3⟩
          · have := congrArg List.length h
            rw [List.length_map, List.length_nil] at this
            omega
          · injection h1 with e1 _ _
            refine ⟨g, e1, ?_, h2⟩
            rw [(h3 k (by rw [List.length_map]; exact hlt)).1, List.getElem?_map, List.getElem?_eq_getElem hlt]
            rfl
        subst hgl
        obtain ⟨x1, hgw⟩ := hc
        obtain ⟨q1, q2, q3, q4⟩ := HMEM.out L[k] (List.getElem_mem hlt)
        generalize L[k] = x at x1 q1 q2 q3 q4
        have TR := Lib.hid (fun w => implTrim_any x w (by omega))
        rw [q3, show (⟨x.data.toList.toArray⟩ : ByteArray) = x from rfl] at TR
        have FI := Lib.hid (fun w hm => implFind_any s x w hm (by omega))
        generalize Lib.index s.data.toList x.data.toList = ix at q4 FI
        have g2 : decide (ix < 0) = false := by simp; omega
        have g3 : (x.toList != x.toList) = false := by simp
        have MX := Lib.hid (HM.out.after (B5.out.trans (HBR.out.mono B5.out.size)))
        have HGW := Lib.hid hgw
        clear hgw q2 q3 q4
        go_wp2_with fail
        go_region_held3 (fun w' => w'.cell? ⟨gl, k, none⟩ = some (.string x)) (first | go_keep | exact y1 | exact y2) (first | (go_at_call 20; refine (TR.out _).mono ?_; rintro e wa ⟨rfl, hBa⟩; have y1 : wa.cell? ⟨gl, k, none⟩ = some (.string x) := (hBa.cell (p := ⟨gl, k, none⟩) HGW.out).trans x1; have MY := Lib.hid (MaxLenAt.after (w := wr) MX.out ((Below.refl _ wr).drew.trans hBa)); have BA := Lib.hid (HBR.out.drew.trans (hBa.mono HBR.out.size)); clear hBa) | (go_at_call 15; refine (FI.out _ MY.out).mono ?_; rintro e wb ⟨rfl, hwb⟩; have y2 : wb.cell? ⟨gl, k, none⟩ = some (.string x) := (by rw [hwb]; exact y1)))
        clear hwb y2 y1 x1
        go_wp2_with fail
        go_roundw
        case rel => exact ⟨k + 1, by omega, by go_num, BA⟩
        case measure => simp [intOf]; omega
      · have g1 : decide ((k : Int) < (L.length : Int)) = false := by simp; omega
        have B6 := Lib.hid (B5.out.trans (HBR.out.mono B5.out.size))
        clear HMEM IC SC VALS3 VALS4 VALS5
        go_wp2_with fail
        refine (drawUnquote_any ⟨a0, len0, cap0, z0⟩ w1 wr W0.out hl B6.out).mono ?_
        rintro e w7 ⟨u, rfl, hu, hB7⟩
        have B7 := Lib.hid (B6.out.trans (hB7.mono B6.out.size))
        clear hB7
        have IU := Lib.hid (fun w => implUnquote_any u w (by omega))
        have SU := Lib.hid (fun w => specUnquote_any u w (by omega))
        have QU := Lib.hid (fun w => implQuote_any s w (by omega))
        have hql := quote_len s.data.toList
        rw [show s.data.toList.length = s.size by simp] at hql
        have IQ := Lib.hid (fun w => implUnquote_any (mkB (quoteL s.data.toList)) w (by rw [mkB_size]; omega))
        rw [mkB_list, unqL_quote, show mkB s.data.toList = s from rfl] at IQ
        have he1 : (mkB (quoteL s.data.toList) ++ ⟨#[44]⟩ : ByteArray).data.toList = quoteL s.data.toList ++ [44] := by simp [ByteArray.data_append, mkB]
        have CQ := Lib.hid (fun w => implCommas_any (mkB (quoteL s.data.toList) ++ ⟨#[44]⟩) w (by rw [ByteArray.size_append, mkB_size]; have : (⟨#[44]⟩ : ByteArray).size = 1 := rfl; omega))
        rw [he1, comL_quote] at CQ
        rw [show (⟨(quoteL s.data.toList).toArray⟩ : ByteArray) = mkB (quoteL s.data.toList) from rfl] at QU
        change Hid (∀ w, Calls _ _ _ w (GivesStrs [mkB (quoteL s.data.toList)] w)) at CQ
        have hqs : (mkB (quoteL s.data.toList)).size ≤ 2000 := by rw [mkB_size]; omega
        generalize mkB (quoteL s.data.toList) = q at QU IQ CQ hqs
        generalize mkB (unqL u.data.toList) = r at IU SU
        have n1 : ¬ 9223372036854775807 < q.size + 1 := by omega
        clear he1 hql
        go_wp2_with fail
        refine (IU.out _).mono ?_
        rintro e w8 ⟨rfl, hB8⟩
        have B8 := Lib.hid (B7.out.trans (hB8.mono B7.out.size))
        clear hB8
        go_wp2_with fail
        refine (SU.out _).mono ?_
        rintro e w9 ⟨rfl, hB9⟩
        have B9 := Lib.hid (B8.out.trans (hB9.mono B8.out.size))
        clear hB9
        go_wp2_with fail
        refine (QU.out _).mono ?_
        rintro e w10 ⟨rfl, hB10⟩
        have B10 := Lib.hid (B9.out.trans (hB10.mono B9.out.size))
        clear hB10
        go_wp2_with fail
        refine (IQ.out _).mono ?_
        rintro e w11 ⟨rfl, hB11⟩
        have B11 := Lib.hid (B10.out.trans (hB11.mono B10.out.size))
        clear hB11
        go_wp2_with fail
        refine (QU.out _).mono ?_
        rintro e w12 ⟨rfl, hB12⟩
        have B12 := Lib.hid (B11.out.trans (hB12.mono B11.out.size))
        clear hB12
        go_wp2_with fail
        refine (CQ.out _).mono ?_
        rintro e w13 ⟨vq, rfl, hvq, hB13⟩
        have V13 := Lib.hid (valsAt_of_row hvq)
        have B13 := Lib.hid (B12.out.trans (hB13.mono B12.out.size))
        clear hB13 hvq
        go_wp2_with fail
        refine (QU.out _).mono ?_
        rintro e w14 ⟨rfl, hB14⟩
        have V14 := Lib.hid (V13.out.later hB14)
        have B14 := Lib.hid (B13.out.trans (hB14.mono B13.out.size))
        have V15 := Lib.hid (V14.out.later ((Below.refl _ _).alloc (Nat.le_refl _) (.cells #[.string q] 9)))
        have B15 := Lib.hid (B14.out.alloc B14.out.size (.cells #[.string q] 9))
        have VN := Lib.hid (valsAt_new w14 [.string q] 9 1 1 rfl)
        clear hB14
        go_wp2_with fail
        refine (sameTexts_any vq _ [q] [q] _ V15.out VN.out (by simp) (by simp)).mono ?_
        rintro e w16 ⟨he, hq⟩
        obtain rfl : e = .returned (.bool true) := by rw [he]; simp
        have B16 := Lib.hid (B15.out.trans (hq.2.mono B15.out.size))
        clear he hq
        go_wp2_with fail
        go_ret
        exact ⟨rfl, B16.out⟩
  · go_enter Tryd.func4, Tryd.ntmps4
    go_wp2_with (go_at_call 10; refine (big_yes _ _ _ _ (by omega)).mono ?_; rintro e w1 ⟨rfl, rfl⟩)
    go_ret
    exact ⟨rfl, Below.refl _ _⟩
end Go.Proofs.YtplaomiegkaaiaaDoor
