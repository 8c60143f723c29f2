/-
  Addresses: the walk of impl's ReadAddrs.
-/
import Derived.Test.YtplaomiegkaaiaaDoorNsI
import Derived.Test.YtplaomiegkaaiaaDoorCmI
import Derived.Test.YtplaomiegkaaiaaDoorAdA
import Derived.Test.YtplaomiegkaaiaaDoorRowG
import Derived.Deep.RegionHeld3
import Derived.Test.YtplaomiegkaaiaaDoorOnS
import Derived.Test.YtplaomiegkaaiaaDoorStepA
import Derived.RegionTactic
namespace Go.Proofs.YtplaomiegkaaiaaDoor
set_option linter.unusedVariables false
open Go.RowKit

set_option maxRecDepth 100000 in
set_option maxHeartbeats 2000000 in
theorem implReadAddrs_any (s : ByteArray) (w : World) (hs : s.size ≤ 1048576) :
    Calls Tryd.prog 12 #[.string s] w (GivesAds (addrsL s.data.toList) w) := by
  obtain ⟨j0, hj0, hy0, hy1, hy2⟩ := info_parts infoAd
  obtain ⟨R, hR⟩ : ∃ R, addrsL s.data.toList = R := ⟨_, rfl⟩
  rw [hR]
  unfold addrsL at hR
  have htl := comL_total s.data.toList
  have hne : ∀ p ∈ comL s.data.toList, p ≠ [] := fun p hp => (comL_mem hp).1
  have SC := Lib.hid (fun w => implCommas_any s w hs)
  generalize comL s.data.toList = parts at hR htl hne SC
  rw [show s.data.toList.length = s.size by simp] at htl
  have HNE := Lib.hid hne
  have HTL : Hid (total parts ≤ 1048576) := Lib.hid (by omega)
  have hpl : parts.length ≤ 1048577 := by omega
  have HR : Hid ([] ++ (parts.drop 0).filterMap addrOf = R) := Lib.hid (by rw [List.drop_zero]; exact hR)
  clear hR htl hne
  go_enter Tryd.func12, Tryd.ntmps12
  go_wp2_with fail
  go_step3
  go_wp2_with fail
  go_step3
  go_wp2_with fail
  refine (SC.out _).mono ?_
  rintro e w1 ⟨vl, rfl, hl1, hBl⟩
  obtain ⟨pl, cl, rfl⟩ := row_slice hl1
  rw [List.length_map] at hl1
  rw [List.length_map]
  have HL1 := Lib.hid hl1
  have HB1 := Lib.hid hBl
  clear hl1 hBl
  go_wp2_with fail
  obtain ⟨wA, hwA⟩ : ∃ x : World, x = w1 := ⟨_, rfl⟩
  rw [← hwA]
  rw [← hwA] at HL1 HB1
  clear hwA
  go_loopw [3, 13] (fun o i wr => ∃ (k : Nat) (out : List Ad), k ≤ parts.length ∧ i = .int .i64 (k : Int) ∧ Hid (out ++ (parts.drop k).filterMap addrOf = R) ∧ out.length ≤ k ∧ wr.ownsRow wA.heap.size 29 3 o out.length (adCells out) ∧ Hid (Below wA.heap.size wA wr)) (fun _ i _ => parts.length - (intOf i).toNat)
  case atStart => exact ⟨0, [], Nat.zero_le _, rfl, HR, Nat.le_refl _, World.ownsRow_nil _ _ _ _, Lib.hid (Below.refl _ _)⟩
  case round =>
    obtain ⟨k, out, hk, rfl, HP, hout, hown, HBA⟩ := hrel
    have hsA := HBA.out.size
    clear HR
    by_cases hlt : k < parts.length
    · have g1 : decide ((k : Int) < (parts.length : Int)) = true := by simp; omega
      have i1 : (0 : Int) ≤ (k : Int) := by omega
      have i2 : (k : Int) < (parts.length : Int) := by omega
      have hlin := row_below HL1.out HBA.out
      obtain ⟨gl, cl2, hgl⟩ := row_slice1 hlin (by omega)
      injection hgl with hgl1 hgl2 hgl3
      subst hgl1 hgl3
      have hcell := cellAt_str hlin k hlt rfl
      have HP2 := HP.out
      rw [drop_cons parts k hlt] at HP2
      have hq1 := HNE.out _ (List.getElem_mem hlt)
      have hq2 := total_mem (List.getElem_mem hlt)
      have hq3 := HTL.out
      generalize parts[k] = q at hcell HP2 hq1 hq2
      have hq4 : 0 < q.length := List.length_pos_iff.2 hq1
      have NS := fun w => nameSpec_any (mkB q) w (by rw [mkB_size]; omega) (by rw [mkB_size]; omega)
      rw [mkB_list] at NS
      have h2l := twoOf_len q
      have hao : addrOf q = boxOf (twoOf q).1 (twoOf q).2 := rfl
      generalize (twoOf q).1 = nm at NS h2l hao
      generalize (twoOf q).2 = ml at NS h2l hao
      obtain ⟨m, rfl⟩ : ∃ m : ByteArray, ml = m.data.toList := ⟨mkB ml, rfl⟩
      rw [show mkB m.data.toList = m from rfl] at NS
      have hml : m.data.toList.length = m.size := by simp
      rw [hml] at h2l
      have hms : m.size ≤ 1048576 := by omega
      have NSH := Lib.hid NS
      have HAO := Lib.hid hao
      have HP3 := Lib.hid HP2
      have HML := Lib.hid hml
      clear NS HP2 HP hq1 hq2 hq3 hq4 hao h2l hlin hml
      go_wp2_with (first | (go_at_call 39; refine (NSH.out _).mono ?_; rintro e w3 ⟨rfl, hB3⟩))
      have HROW := Lib.hid (row_lat hown hB3)
      have HB3 := Lib.hid (HBA.out.trans (hB3.mono hsA))
      clear hB3 hown HBA
      go_loop [8, 24] (fun at' i => ∃ j : Nat, j ≤ m.size ∧ i = .int .i64 (j : Int) ∧ at' = .int .i64 (lastI 64 (m.data.toList.take j)) ∧ Hid ((m.data.toList.take j).all specB = true)) (fun _ i => m.size - (intOf i).toNat)
      case atStart => exact ⟨0, Nat.zero_le _, rfl, rfl, Lib.hid (by simp)⟩
      case round =>
        obtain ⟨j, hj, rfl, rfl, HA⟩ := hrel
        by_cases hlt2 : j < m.size
        · have d1 : decide ((j : Int) < (m.size : Int)) = true := by simp; omega
          have k1 : (0 : Int) ≤ (j : Int) := by omega
          have k2 : (j : Int) < (m.size : Int) := by omega
          have SP := Lib.hid (fun w => inSpec_any m[j] w)
          have hls := lastI_take 64 m.data.toList j (by rw [HML.out]; exact hlt2)
          rw [show m.data.toList[j]'(by rw [HML.out]; exact hlt2) = m[j] from rfl] at hls
          cases hsp : specB m[j] with
          | false =>
            rw [hsp] at SP
            have HN : Hid (out ++ (parts.drop (k + 1)).filterMap addrOf = R) := Lib.hid (by
              have hno : boxOf nm m.data.toList = none := by
                unfold boxOf
                rw [if_neg (fun h => by have h1 := h.1; rw [all_no specB m j hlt2 hsp] at h1; cases h1)]
              rw [← HP3.out, List.filterMap_cons, HAO.out, hno])
            clear hls hsp HA HP3 HAO
            go_wp2_with (go_at_call 40; refine (SP.out _).mono ?_; rintro e w' ⟨rfl, hw⟩; rw [← hw]; clear hw w')
            go_roundw
            case rel => exact ⟨k + 1, out, by omega, by go_num, HN, by omega, HROW.out, HB3⟩
            case measure => simp [intOf]; omega
          | true =>
            rw [hsp] at SP
            have HN : Hid ((m.data.toList.take (j + 1)).all specB = true) := Lib.hid (by rw [all_step specB m j hlt2, HA.out, hsp]; rfl)
            by_cases h64 : m[j] = 64
            · have d2 : ((m[j].toNat : Int) == 64) = true := by rw [h64]; rfl
              rw [if_pos h64] at hls
              have HLS := Lib.hid hls
              clear hls hsp HA h64
              go_wp2_with (go_at_call 40; refine (SP.out _).mono ?_; rintro e w' ⟨rfl, hw⟩; rw [← hw]; clear hw w')
              go_round
              case rel => exact ⟨j + 1, by omega, by go_num, by rw [HLS.out], HN⟩
              case measure => simp [intOf]; omega
            · have d2 : ((m[j].toNat : Int) == 64) = false := ne_byte (b := 64) h64
              rw [if_neg h64] at hls
              have HLS := Lib.hid hls
              clear hls hsp HA h64
              go_wp2_with (go_at_call 40; refine (SP.out _).mono ?_; rintro e w' ⟨rfl, hw⟩; rw [← hw]; clear hw w')
              go_round
              case rel => exact ⟨j + 1, by omega, by go_num, by rw [HLS.out], HN⟩
              case measure => simp [intOf]; omega
        · have hje : m.data.toList.take j = m.data.toList := List.take_of_length_le (by rw [HML.out]; omega)
          rw [hje]
          have HALL : Hid (m.data.toList.all specB = true) := Lib.hid (by rw [← hje]; exact HA.out)
          clear hje HA
          have hbd := lastI_bounds 64 m.data.toList
          rw [HML.out] at hbd
          have d1 : decide ((j : Int) < (m.size : Int)) = false := by simp; omega
          by_cases hyes : 0 < lastI 64 m.data.toList ∧ lastI 64 m.data.toList < (m.size : Int) - 1
          · obtain ⟨o, ho⟩ : ∃ o : Nat, lastI 64 m.data.toList = (o : Int) := ⟨(lastI 64 m.data.toList).toNat, by omega⟩
            have HN : Hid ((out ++ [(⟨nm, m.data.toList.take o, m.data.toList.drop (o + 1)⟩ : Ad)]) ++ (parts.drop (k + 1)).filterMap addrOf = R) := Lib.hid (by
              have hb : boxOf nm m.data.toList = some ⟨nm, m.data.toList.take o, m.data.toList.drop (o + 1)⟩ := by
                unfold boxOf
                rw [if_pos ⟨HALL.out, hyes.1, by rw [HML.out]; exact hyes.2⟩, ho]
                rfl
              rw [← HP3.out, List.filterMap_cons, HAO.out, hb, List.append_assoc]
              rfl)
            rw [ho] at hyes hbd ⊢
            have e1 : mkB (m.data.toList.take o) = m.extract 0 o := by rw [mkB_extract, List.drop_zero, Nat.sub_zero]
            have e2 : mkB (m.data.toList.drop (o + 1)) = m.extract (o + 1) m.size := by rw [mkB_extract, List.take_of_length_le (by rw [List.length_drop, HML.out]; exact Nat.le_refl _)]
            have E1 := Lib.hid e1
            have E2 := Lib.hid e2
            have d2 : decide ((0 : Int) < (o : Int)) = true := by simp; omega
            have d3 : decide ((o : Int) < (m.size : Int) - 1) = true := by simp; omega
            have o1 : (0 : Int) ≤ (o : Int) := by omega
            have o2 : (o : Int) ≤ (m.size : Int) := by omega
            have o3 : (0 : Int) ≤ (o : Int) + 1 := by omega
            have o4 : (o : Int) + 1 ≤ (m.size : Int) := by omega
            clear ho HP3 HAO HALL e1 e2
            have o5 : ((o : Int) + 1).toNat = o + 1 := by omega
            have o6 : IntKind.i64.wrap ((o : Int) + 1) = (o : Int) + 1 := by rw [IntKind.wrap_i64]; omega
            go_wp2_with fail
            go_region_law (refine step_append_own rfl (.tmp 47) (.tmp 57) 25 rfl wA.heap.size 29 j0 (.agg #[.string ⟨#[]⟩, .string ⟨#[]⟩, .string ⟨#[]⟩]) 3 48 Tryd.underlying25 hj0 hy0 hy1 hy2 rfl (by decide) (by decide) _ _ _ rfl (HROW.out.drew.alloc _) ⟨w3.drew.heap.size, 0, none⟩ 1 1 [.string (mkB nm), .string (m.extract 0 o), .string (m.extract (o + 1) m.size)] rfl rfl (cell_three_new _ _ _ _ _ _ rfl) (by simp [Value.oneCell']) (by omega) (by have := HB3.out.size; simp; omega) ?_; intro v' w5 hown' hgrow)
            have hs3 := HB3.out.size
            have hB5 : Below wA.heap.size wA w5 := (HB3.out.drew.alloc (by simpa using hs3) _).grown hgrow (by simp; omega) (fun k e => (HROW.out.lt k e).1)
            have HROW5 : Hid (w5.ownsRow wA.heap.size 29 3 v' (out ++ [(⟨nm, m.data.toList.take o, m.data.toList.drop (o + 1)⟩ : Ad)]).length (adCells (out ++ [(⟨nm, m.data.toList.take o, m.data.toList.drop (o + 1)⟩ : Ad)]))) := Lib.hid (by
              rw [adCells_append]
              have e3 : adCells [(⟨nm, m.data.toList.take o, m.data.toList.drop (o + 1)⟩ : Ad)] = [.string (mkB nm), .string (m.extract 0 o), .string (m.extract (o + 1) m.size)] := by
                rw [← E1.out, ← E2.out]
                rfl
              rw [e3]
              simpa using hown')
            have HB5 := Lib.hid hB5
            clear hB5 hown' hgrow
            go_wp2_with fail
            go_roundw
            case rel => exact ⟨k + 1, out ++ [⟨nm, m.data.toList.take o, m.data.toList.drop (o + 1)⟩], by omega, by go_num, HN, by simp; omega, HROW5.out, HB5⟩
            case measure => simp [intOf]; omega
          · have HN : Hid (out ++ (parts.drop (k + 1)).filterMap addrOf = R) := Lib.hid (by
              have hno : boxOf nm m.data.toList = none := by
                unfold boxOf
                rw [if_neg (fun h => hyes ⟨h.2.1, by have := h.2.2; rw [HML.out] at this; exact this⟩)]
              rw [← HP3.out, List.filterMap_cons, HAO.out, hno])
            generalize lastI 64 m.data.toList = t at hyes hbd ⊢
            clear HP3 HAO HALL
            by_cases h0 : 0 < t
            · have d2 : decide ((0 : Int) < t) = true := by simpa using h0
              have d3 : decide (t < (m.size : Int) - 1) = false := decide_eq_false (fun h => hyes ⟨h0, h⟩)
              clear hyes h0 hbd
              go_wp2_with fail
              go_roundw
              case rel => exact ⟨k + 1, out, by omega, by go_num, HN, by omega, HROW.out, HB3⟩
              case measure => simp [intOf]; omega
            · have d2 : decide ((0 : Int) < t) = false := by simpa using h0
              clear hyes h0 hbd
              go_wp2_with fail
              go_roundw
              case rel => exact ⟨k + 1, out, by omega, by go_num, HN, by omega, HROW.out, HB3⟩
              case measure => simp [intOf]; omega
    · obtain rfl : k = parts.length := by omega
      have g2 : decide ((parts.length : Int) < (parts.length : Int)) = false := by simp
      have HN : Hid (out = R) := Lib.hid (by have := HP.out; rw [List.drop_length] at this; simpa using this)
      clear HP
      go_wp2_with fail
      go_ret
      refine ⟨_, rfl, ?_, HB1.out.trans (HBA.out.mono HB1.out.size)⟩
      rw [← HN.out]
      exact row_baseL hown HB1.out.size
end Go.Proofs.YtplaomiegkaaiaaDoor
