/-
  Addresses: the walk of spec's ReadAddrs.
-/
import Derived.Test.YtplaomiegkaaiaaDoorOnS
import Derived.Test.YtplaomiegkaaiaaDoorCmS
import Derived.Test.YtplaomiegkaaiaaDoorAdA
import Derived.Test.YtplaomiegkaaiaaDoorRowG
import Derived.Deep.RegionHeld3
import Derived.StillTailTactics
namespace Go.Proofs.YtplaomiegkaaiaaDoor
set_option linter.unusedVariables false
open Go.RowKit

set_option maxRecDepth 100000 in
set_option maxHeartbeats 2000000 in
theorem specReadAddrs_any (s : ByteArray) (w : World) (hs : s.size ≤ 1048576) :
    Calls Tryd.prog 14 #[.string s] w (GivesAds (addrsL s.data.toList) w) := by
  obtain ⟨j0, hj, hy0, hy1, hy2⟩ := info_parts infoAd
  obtain ⟨R, hR⟩ : ∃ R, addrsL s.data.toList = R := ⟨_, rfl⟩
  rw [hR]
  unfold addrsL at hR
  have htl := comL_total s.data.toList
  have hne : ∀ p ∈ comL s.data.toList, p ≠ [] := fun p hp => (comL_mem hp).1
  have SC := Lib.hid (fun w => specCommas_any s w hs)
  generalize comL s.data.toList = parts at hR htl hne SC
  rw [show s.data.toList.length = s.size by simp] at htl
  have HNE := Lib.hid hne
  have HTL : Hid (total parts ≤ 1048576) := Lib.hid (by omega)
  have hpl : parts.length ≤ 1048577 := by omega
  have HR : Hid ([] ++ (parts.drop 0).filterMap addrOf = R) := Lib.hid (by rw [List.drop_zero]; exact hR)
  clear hR htl hne
  go_enter Tryd.func14, Tryd.ntmps14
  go_wp2_with fail
  refine (SC.out _).mono ?_
  rintro e w1 ⟨vl, rfl, hl1, hBl⟩
  obtain ⟨pl, cl, rfl⟩ := row_slice hl1
  rw [List.length_map] at hl1
  rw [List.length_map]
  have HL1 := Lib.hid hl1
  have HB1 : Hid (Below w.heap.size w w1) := Lib.hid (((Below.refl _ _).alloc (Nat.le_refl _) _).trans (hBl.mono (by simp)))
  have HO1 : Hid (w1.ownsRow w.heap.size 29 3 (.slice (some ⟨w.heap.size, 0, none⟩) 0 0) 0 []) := Lib.hid (row_lat (World.ownsRow_lit w #[] 0 (Nat.le_refl _) (by decide) rfl) hBl)
  have HA1 : Hid (Apart (.slice (some ⟨w.heap.size, 0, none⟩) 0 0) (.slice pl parts.length cl)) := Lib.hid (by
    intro g hg hx
    have h1 := (hl1.lt g hx).1
    have h2 : some w.heap.size = some g := hg
    have := Option.some.inj h2
    simp at h1
    omega)
  clear hl1 hBl
  go_wp2_with fail
  go_loopw [3, 5] (fun o i wr => ∃ (k : Nat) (out : List Ad), k ≤ parts.length ∧ i = .int .i64 (k : Int) ∧ Hid (out ++ (parts.drop k).filterMap addrOf = R) ∧ out.length ≤ k ∧ wr.ownsRow w.heap.size 29 3 o out.length (adCells out) ∧ Apart o (.slice pl parts.length cl) ∧ wr.ownsRow (w.heap.size + 1) 9 1 (.slice pl parts.length cl) parts.length ((parts.map mkB).map Value.string) ∧ Below w.heap.size w wr) (fun _ i _ => parts.length - (intOf i).toNat)
  case atStart => exact ⟨0, [], Nat.zero_le _, rfl, HR, Nat.le_refl _, HO1.out, HA1.out, by simpa using HL1.out, HB1.out⟩
  case round =>
    obtain ⟨k, out, hk, rfl, HP, hout, hown, hap, hlin, hB⟩ := hrel
    have hsz := hB.size
    by_cases hlt : k < parts.length
    · have g1 : decide ((k : Int) < (parts.length : Int)) = true := by simp; omega
      have i1 : (0 : Int) ≤ (k : Int) := by omega
      have i2 : (k : Int) < (parts.length : Int) := by omega
      obtain ⟨gl, cl2, hgl⟩ := row_slice1 hlin (by omega)
      injection hgl with hgl1 hgl2 hgl3
      subst hgl1 hgl3
      have hcell := cellAt_str hlin k hlt rfl
      have HP2 := HP.out
      rw [drop_cons parts k hlt] at HP2
      have hq1 := HNE.out _ (List.getElem_mem hlt)
      have hq2 := total_mem (List.getElem_mem hlt)
      have hq3 := HTL.out
      generalize parts[k] = q at hcell HP2 hq1 hq2
      have hq4 : 0 < q.length := List.length_pos_iff.2 hq1
      have ON := fun w => specOne_any (mkB q) w (by rw [mkB_size]; omega) (by rw [mkB_size]; omega)
      rw [mkB_list] at ON
      cases hf : addrOf q with
      | none =>
        have HN : Hid (out ++ (parts.drop (k + 1)).filterMap addrOf = R) := Lib.hid (by rw [← HP2, List.filterMap_cons, hf])
        rw [show oneV q = noV (mkB (twoOf q).1) by unfold oneV boxV; rw [show boxOf (twoOf q).1 (twoOf q).2 = none from hf]; rfl] at ON
        generalize mkB (twoOf q).1 = nn at ON
        unfold noV at ON
        have ONH := Lib.hid ON
        clear ON HP2 HP hf hq1 hq2 hq3 hq4
        go_wp2_with (first | (go_at_call 41; refine (ONH.out _).mono ?_; rintro e w3 ⟨rfl, hB3⟩))
        have hB4 : Below wr.heap.size wr (w3.alloc (.cells #[.string nn, .string ⟨#[]⟩, .string ⟨#[]⟩] 29)) := hB3.alloc hB3.size _
        have HROW := Lib.hid (row_lat hown hB4)
        have HLIN := Lib.hid (row_lat hlin hB4)
        have HB4 := Lib.hid (hB.trans (hB4.mono hsz))
        clear hB3 hB4 hown hlin
        go_wp2_with fail
        go_roundw
        case rel => exact ⟨k + 1, out, by omega, by go_num, HN, by omega, HROW.out, hap, HLIN.out, HB4.out⟩
        case measure => simp [intOf]; omega
      | some f =>
        have HN : Hid ((out ++ [f]) ++ (parts.drop (k + 1)).filterMap addrOf = R) := Lib.hid (by rw [← HP2, List.filterMap_cons, hf]; simp)
        rw [show oneV q = .tuple #[.agg #[.string (mkB f.name), .string (mkB f.box), .string (mkB f.host)], .bool true] by unfold oneV boxV; rw [show boxOf (twoOf q).1 (twoOf q).2 = some f from hf]] at ON
        have ONH := Lib.hid ON
        clear ON HP2 HP hf hq1 hq2 hq3 hq4
        go_wp2_with (first | (go_at_call 41; refine (ONH.out _).mono ?_; rintro e w3 ⟨rfl, hB3⟩) | (at_builtin; refine wpList_append_whereG rfl _ _ 25 rfl w.heap.size 29 j0 (.agg #[.string ⟨#[]⟩, .string ⟨#[]⟩, .string ⟨#[]⟩]) 3 48 Tryd.underlying25 hj hy0 hy1 hy2 rfl (by decide) (by decide) _ _ _ rfl (row_lat hown ((hB3.alloc hB3.size _).alloc (by have := hB3.size; simp; omega) _)) ⟨w3.heap.size + 1, 0, none⟩ 1 1 [.string (mkB f.name), .string (mkB f.box), .string (mkB f.host)] rfl rfl (cell_three_new _ _ _ _ _ _ (by simp)) (by simp [Value.oneCell']) (by omega) (by have := hB3.size; simp; omega) ?_; intro v' w5 hown' hgrow hwh))
        have hs3 := hB3.size
        have hB34 : Below wr.heap.size wr ((w3.alloc (.cells #[.string (mkB f.name), .string (mkB f.box), .string (mkB f.host)] 29)).alloc (.cells #[.string (mkB f.name), .string (mkB f.box), .string (mkB f.host)] 29)) := (hB3.alloc hs3 _).alloc (by simp; omega) _
        have hl3 := row_lat hlin hB34
        have hL5 := row_staysG hl3 hgrow hap
        have hA5 := Apart.more hap hl3 hwh
        have hB5 : Below w.heap.size w w5 := (hB.trans (hB34.mono hsz)).grown hgrow (by simp; omega) (fun k e => (hown.lt k e).1)
        have HROW : Hid (w5.ownsRow w.heap.size 29 3 v' (out ++ [f]).length (adCells (out ++ [f]))) := Lib.hid (by
          rw [adCells_append]
          simpa [adCells] using hown')
        have HB5 := Lib.hid hB5
        have HL5 := Lib.hid hL5
        clear hB3 hown hown' hgrow hB5 hl3 hL5 hB34 hlin hwh hap
        go_wp2_with fail
        go_roundw
        case rel => exact ⟨k + 1, out ++ [f], by omega, by go_num, HN, by simp; omega, HROW.out, hA5, HL5.out, HB5.out⟩
        case measure => simp [intOf]; omega
    · obtain rfl : k = parts.length := by omega
      have g2 : decide ((parts.length : Int) < (parts.length : Int)) = false := by simp
      have HN : Hid (out = R) := Lib.hid (by have := HP.out; rw [List.drop_length] at this; simpa using this)
      clear HP
      go_wp2_with fail
      go_ret
      refine ⟨_, rfl, ?_, hB⟩
      rw [← HN.out]
      exact hown
end Go.Proofs.YtplaomiegkaaiaaDoor
