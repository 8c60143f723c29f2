import Derived.Deep.RegionHeld3
import Derived.StillTailTactics
import Derived.Test.YtgebkpnieailbaaGreatDoorRows
import Derived.WalkKit
import Derived.WalkSpells
import Derived.Lib.Hide
import Derived.Lib.SlBuf
import Derived.Lib.LazyBuf
import Derived.Lib.BufferWrite
import Derived.Laws.IdiomStrings
import Derived.Lib.Strings
import Derived.Deep.QuietTactic
import Derived.BigQuiet
import Derived.Deep.OwnRows
import Derived.Shelf.Strings.Shaped
import Derived.Test.YtgebkpnieailbaaGreatDoorShelf
import Derived.RangeFuncNested
import Derived.RangeFuncBound
import Derived.RangeFuncCalls
import Derived.RangeFuncLeaves
import Derived.RangeFuncWrites
import Derived.RangeFuncBox
import Derived.Shelf.Abstract
import Derived.Shelf.RegionOpen
import Derived.OwnWalkIn
import Derived.TacticsInMore
import Derived.LoopNIn
import Derived.LoopIn
import Derived.Lib.CutLaws
import Derived.Lib.JoinLaws
import Derived.Deep.Draws
import Derived.WalkSmall
import Derived.Lib.Join
import Derived.Test.YtgebkpnieailbaaGreatDoorMg1
/-
  Addresses: the walk of spec's ReadAddrs.
-/
namespace Go.Proofs.YtgebkpnieailbaaGreatDoor
set_option linter.unusedVariables false
open Go.RowKit

set_option maxRecDepth 100000 in
set_option maxHeartbeats 2000000 in
theorem specReadAddrs_any (s : ByteArray) (w : World) (hs : s.size ≤ 1048576) :
    Calls Tryz.prog 124 #[.string s] w (GivesAds (addrsL s.data.toList) w) := by
  obtain ⟨j0, hj, hy0, hy1, hy2⟩ := info_parts infoAd
  obtain ⟨R, hR⟩ : ∃ R, addrsL s.data.toList = R := ⟨_, rfl⟩
  rw [hR]
  unfold addrsL at hR
  have htl := comL_total s.data.toList
  have hne : ∀ p ∈ comL s.data.toList, p ≠ [] := fun p hp => (comL_mem hp).1
  have SC := Lib.hid (fun w => specCommas_any s w hs)
  generalize comL s.data.toList = parts at hR htl hne SC
  rw [show s.data.toList.length = s.size by simp] at htl
  have HNE := Lib.hid hne
  have HTL : Hid (total parts ≤ 1048576) := Lib.hid (by omega)
  have hpl : parts.length ≤ 1048577 := by omega
  have HR : Hid ([] ++ (parts.drop 0).filterMap addrOf = R) := Lib.hid (by rw [List.drop_zero]; exact hR)
  clear hR htl hne
  go_enter Tryz.func124, Tryz.ntmps124
  go_wp2_with fail
  refine (SC.out _).mono ?_
  rintro e w1 ⟨vl, rfl, hl1, hBl⟩
  obtain ⟨pl, cl, rfl⟩ := row_slice hl1
  rw [List.length_map] at hl1
  rw [List.length_map]
  have HL1 := Lib.hid hl1
  have HB1 : Hid (Below w.heap.size w w1) := Lib.hid (((Below.refl _ _).alloc (Nat.le_refl _) _).trans (hBl.mono (by simp)))
  have HO1 : Hid (w1.ownsRow w.heap.size 195 3 (.slice (some ⟨w.heap.size, 0, none⟩) 0 0) 0 []) := Lib.hid (row_lat (World.ownsRow_lit w #[] 0 (Nat.le_refl _) (by decide) rfl) hBl)
  have HA1 : Hid (Apart (.slice (some ⟨w.heap.size, 0, none⟩) 0 0) (.slice pl parts.length cl)) := Lib.hid (by
    intro g hg hx
    have h1 := (hl1.lt g hx).1
    have h2 : some w.heap.size = some g := hg
    have := Option.some.inj h2
    simp at h1
    omega)
  clear hl1 hBl
  go_wp2_with fail
  go_loopw [3, 5] (fun o i wr => ∃ (k : Nat) (out : List Ad), k ≤ parts.length ∧ i = .int .i64 (k : Int) ∧ Hid (out ++ (parts.drop k).filterMap addrOf = R) ∧ out.length ≤ k ∧ wr.ownsRow w.heap.size 195 3 o out.length (adCells out) ∧ Apart o (.slice pl parts.length cl) ∧ wr.ownsRow (w.heap.size + 1) 9 1 (.slice pl parts.length cl) parts.length ((parts.map mkB).map Value.string) ∧ Below w.heap.size w wr) (fun _ i _ => parts.length - (intOf i).toNat)
  case atStart => exact ⟨0, [], Nat.zero_le _, rfl, HR, Nat.le_refl _, HO1.out, HA1.out, by simpa using HL1.out, HB1.out⟩
  case round =>
    obtain ⟨k, out, hk, rfl, HP, hout, hown, hap, hlin, hB⟩ := hrel
    have hsz := hB.size
    by_cases hlt : k < parts.length
    · have g1 : decide ((k : Int) < (parts.length : Int)) = true := by simp; omega
      have i1 : (0 : Int) ≤ (k : Int) := by omega
      have i2 : (k : Int) < (parts.length : Int) := by omega
      obtain ⟨gl, cl2, hgl⟩ := row_slice1 hlin (by omega)
      injection hgl with hgl1 hgl2 hgl3
      subst hgl1 hgl3
      have hcell := cellAt_str hlin k hlt rfl
      have HP2 := HP.out
      rw [drop_cons parts k hlt] at HP2
      have hq1 := HNE.out _ (List.getElem_mem hlt)
      have hq2 := total_mem (List.getElem_mem hlt)
      have hq3 := HTL.out
      generalize parts[k] = q at hcell HP2 hq1 hq2
      have hq4 : 0 < q.length := List.length_pos_iff.2 hq1
      have ON := fun w => specOne_any (mkB q) w (by rw [mkB_size]; omega) (by rw [mkB_size]; omega)
      rw [mkB_list] at ON
      cases hf : addrOf q with
      | none =>
        have HN : Hid (out ++ (parts.drop (k + 1)).filterMap addrOf = R) := Lib.hid (by rw [← HP2, List.filterMap_cons, hf])
        rw [show oneV q = noV (mkB (twoOf q).1) by unfold oneV boxV; rw [show boxOf (twoOf q).1 (twoOf q).2 = none from hf]; rfl] at ON
        generalize mkB (twoOf q).1 = nn at ON
        unfold noV at ON
        have ONH := Lib.hid ON
        clear ON HP2 HP hf hq1 hq2 hq3 hq4
        go_wp2_with (first | (go_at_call 160; refine (ONH.out _).mono ?_; rintro e w3 ⟨rfl, hB3⟩))
        have hB4 : Below wr.heap.size wr (w3.alloc (.cells #[.string nn, .string ⟨#[]⟩, .string ⟨#[]⟩] 195)) := hB3.alloc hB3.size _
        have HROW := Lib.hid (row_lat hown hB4)
        have HLIN := Lib.hid (row_lat hlin hB4)
        have HB4 := Lib.hid (hB.trans (hB4.mono hsz))
        clear hB3 hB4 hown hlin
        go_wp2_with fail
        go_roundw
        case rel => exact ⟨k + 1, out, by omega, by go_num, HN, by omega, HROW.out, hap, HLIN.out, HB4.out⟩
        case measure => simp [intOf]; omega
      | some f =>
        have HN : Hid ((out ++ [f]) ++ (parts.drop (k + 1)).filterMap addrOf = R) := Lib.hid (by rw [← HP2, List.filterMap_cons, hf]; simp)
        rw [show oneV q = .tuple #[.agg #[.string (mkB f.name), .string (mkB f.box), .string (mkB f.host)], .bool true] by unfold oneV boxV; rw [show boxOf (twoOf q).1 (twoOf q).2 = some f from hf]] at ON
        have ONH := Lib.hid ON
        clear ON HP2 HP hf hq1 hq2 hq3 hq4
        go_wp2_with (first | (go_at_call 160; refine (ONH.out _).mono ?_; rintro e w3 ⟨rfl, hB3⟩) | (at_builtin; refine wpList_append_whereG rfl _ _ 165 rfl w.heap.size 195 j0 (.agg #[.string ⟨#[]⟩, .string ⟨#[]⟩, .string ⟨#[]⟩]) 3 48 Tryz.underlying165 hj hy0 hy1 hy2 rfl (by decide) (by decide) _ _ _ rfl (row_lat hown ((hB3.alloc hB3.size _).alloc (by have := hB3.size; simp; omega) _)) ⟨w3.heap.size + 1, 0, none⟩ 1 1 [.string (mkB f.name), .string (mkB f.box), .string (mkB f.host)] rfl rfl (cell_three_new _ _ _ _ _ _ (by simp)) (by simp [Value.oneCell']) (by omega) (by have := hB3.size; simp; omega) ?_; intro v' w5 hown' hgrow hwh))
        have hs3 := hB3.size
        have hB34 : Below wr.heap.size wr ((w3.alloc (.cells #[.string (mkB f.name), .string (mkB f.box), .string (mkB f.host)] 195)).alloc (.cells #[.string (mkB f.name), .string (mkB f.box), .string (mkB f.host)] 195)) := (hB3.alloc hs3 _).alloc (by simp; omega) _
        have hl3 := row_lat hlin hB34
        have hL5 := row_staysG hl3 hgrow hap
        have hA5 := Apart.more hap hl3 hwh
        have hB5 : Below w.heap.size w w5 := (hB.trans (hB34.mono hsz)).grown hgrow (by simp; omega) (fun k e => (hown.lt k e).1)
        have HROW : Hid (w5.ownsRow w.heap.size 195 3 v' (out ++ [f]).length (adCells (out ++ [f]))) := Lib.hid (by
          rw [adCells_append]
          simpa [adCells] using hown')
        have HB5 := Lib.hid hB5
        have HL5 := Lib.hid hL5
        clear hB3 hown hown' hgrow hB5 hl3 hL5 hB34 hlin hwh hap
        go_wp2_with fail
        go_roundw
        case rel => exact ⟨k + 1, out ++ [f], by omega, by go_num, HN, by simp; omega, HROW.out, hA5, HL5.out, HB5.out⟩
        case measure => simp [intOf]; omega
    · obtain rfl : k = parts.length := by omega
      have g2 : decide ((parts.length : Int) < (parts.length : Int)) = false := by simp
      have HN : Hid (out = R) := Lib.hid (by have := HP.out; rw [List.drop_length] at this; simpa using this)
      clear HP
      go_wp2_with fail
      go_ret
      refine ⟨_, rfl, ?_, hB⟩
      rw [← HN.out]
      exact hown
end Go.Proofs.YtgebkpnieailbaaGreatDoor

/-
  Header fields: the walk of spec's l05Lines.
-/
namespace Go.Proofs.YtgebkpnieailbaaGreatDoor
set_option linter.unusedVariables false
open Go.RowKit

set_option maxRecDepth 100000 in
set_option maxHeartbeats 1000000 in
theorem specLines_any (s : ByteArray) (w : World) (hs : s.size ≤ 16777216) :
    Calls Tryz.prog 108 #[.string s] w (GivesStrs ((linesA [] s.data.toList).map mkB) w) := by
  obtain ⟨i0, hi, hz0, hz1, hz2⟩ := info_parts infoStr
  obtain ⟨T, hT⟩ : ∃ T, linesA [] s.data.toList = T := ⟨_, rfl⟩
  rw [hT]
  rw [← linesAt_zero] at hT
  have HT := Lib.hid hT
  have hlen : s.data.toList.length = s.size := by simp
  have hat : ∀ k (h : k < s.size), s.data.toList[k]? = some (s[k]'h) := fun k h => by
    rw [List.getElem?_eq_getElem (by simpa using h)]; rfl
  have HAT := Lib.hid hat
  have HLEN := Lib.hid hlen
  clear hT hat hlen
  go_enter Tryz.func108, Tryz.ntmps108
  go_wp2
  go_loopw [3, 4, 5] (fun o f i wr => ∃ (j k : Nat) (acc : List (List UInt8)), j ≤ k ∧ k ≤ s.size ∧ f = .int .i64 (j : Int) ∧ i = .int .i64 (k : Int) ∧ Hid (acc ++ linesAt s.data.toList j k = T) ∧ acc.length ≤ k ∧ wr.ownsRow w.heap.size 9 1 o acc.length ((acc.map mkB).map Value.string) ∧ Below w.heap.size w wr) (fun _ _ i _ => s.size - (intOf i).toNat)
  case atStart => exact ⟨0, 0, [], Nat.le_refl _, Nat.zero_le _, rfl, rfl, HT, Nat.zero_le _, World.ownsRow_lit w #[] 0 (Nat.le_refl _) (by decide) rfl, (Below.refl _ _).alloc (Nat.le_refl _) _⟩
  case round =>
    obtain ⟨j, k, acc, hjk, hk, rfl, rfl, HP, hacc, hown, hB⟩ := hrel
    have hsz := hB.size
    by_cases hlt : k + 1 < s.size
    · have g1 : decide ((k : Int) + 1 < (s.size : Int)) = true := by simp; omega
      have i1 : (0 : Int) ≤ (k : Int) := by omega
      have i2 : (k : Int) < (s.size : Int) := by omega
      have i3 : (0 : Int) ≤ (k : Int) + 1 := by omega
      have i4 : ((k : Int) + 1).toNat = k + 1 := by omega
      by_cases hm : s[k]'(by omega) = 13 ∧ s[k + 1] = 10
      · have HN : Hid ((acc ++ [(s.data.toList.drop j).take (k - j)]) ++ linesAt s.data.toList (k + 2) (k + 2) = T) := Lib.hid (by
          rw [← HP.out, linesAt_mark _ j k (by rw [HLEN.out]; omega) (by rw [HAT.out k (by omega), hm.1]) (by rw [HAT.out (k + 1) (by omega), hm.2])]
          simp)
        have b1 : ((s[k]'(by omega)).toNat : Int) = 13 := by rw [hm.1]; rfl
        have b2 : ((s[k + 1]).toNat : Int) = 10 := by rw [hm.2]; rfl
        have g2 : (((s[k]'(by omega)).toNat : Int) == 13) = true := by rw [b1]; rfl
        have g3 : (((s[k + 1]).toNat : Int) == 10) = true := by rw [b2]; rfl
        have i5 : (j : Int) ≤ (k : Int) := by omega
        obtain ⟨piece, hpiece⟩ : ∃ p, s.extract j k = p := ⟨_, rfl⟩
        have HPC : Hid (piece = mkB ((s.data.toList.drop j).take (k - j))) := Lib.hid (by rw [← hpiece]; exact mkB_extract s j k)
        clear hm HP b1 b2
        go_wp2_with (at_builtin; refine wpList_append_own _ rfl _ _ 104 rfl w.heap.size 9 i0 (.string ⟨#[]⟩) 1 16 Tryz.underlying104 hi hz0 hz1 hz2 rfl (by decide) _ _ _ rfl (hown.alloc _) ⟨wr.heap.size, 0, none⟩ 1 1 [.string (piece)] rfl rfl (cell_one_new _ _ _) (by simp [Value.oneCell']) (by unfold maxLen; omega) (by omega) (by simp; omega) ?_; intro v' w1 hown' hgrow _)
        have hB1 : Below w.heap.size w w1 := (hB.alloc hsz _).grown hgrow (by simp; omega) (fun k e => (hown.lt k e).1)
        have HROW : Hid (w1.ownsRow w.heap.size 9 1 v' (acc ++ [(s.data.toList.drop j).take (k - j)]).length (((acc ++ [(s.data.toList.drop j).take (k - j)]).map mkB).map Value.string)) := Lib.hid (by
          have := hown'
          rw [HPC.out] at this
          simpa using this)
        clear hown' hown hpiece
        go_wp2_with fail
        go_roundw
        case rel => exact ⟨k + 2, k + 2, acc ++ [(s.data.toList.drop j).take (k - j)], by omega, by omega, by go_num, by go_num, HN, by simp; omega, HROW.out, hB1⟩
        case measure => simp [intOf]; omega
      · have HN : Hid (acc ++ linesAt s.data.toList j (k + 1) = T) := Lib.hid (by
          rw [← HP.out, linesAt_next _ j k hjk (by rw [HLEN.out]; omega)]
          intro ⟨a, b⟩
          rw [HAT.out k (by omega)] at a
          rw [HAT.out (k + 1) (by omega)] at b
          exact hm ⟨Option.some.inj a, Option.some.inj b⟩)
        by_cases hm1 : s[k]'(by omega) = 13
        · have hm2 : ¬ s[k + 1] = 10 := fun h => hm ⟨hm1, h⟩
          have b1 : ((s[k]'(by omega)).toNat : Int) = 13 := by rw [hm1]; rfl
          have g2 : (((s[k]'(by omega)).toNat : Int) == 13) = true := by rw [b1]; rfl
          have g3 : (((s[k + 1]).toNat : Int) == 10) = false := by
            rw [beq_eq_false_iff_ne]
            intro h
            exact hm2 (UInt8.toNat_inj.1 (by have : (s[k + 1]).toNat = 10 := by omega
                                             rw [this]; rfl))
          clear hm HP b1 hm1 hm2
          go_wp2_with fail
          go_roundw
          case rel => exact ⟨j, k + 1, acc, by omega, by omega, rfl, by go_num, HN, by omega, hown, hB⟩
          case measure => simp [intOf]; omega
        · have g2 : (((s[k]'(by omega)).toNat : Int) == 13) = false := by
            rw [beq_eq_false_iff_ne]
            intro h
            exact hm1 (UInt8.toNat_inj.1 (by have : (s[k]'(by omega)).toNat = 13 := by omega
                                             rw [this]; rfl))
          clear hm HP hm1
          go_wp2_with fail
          go_roundw
          case rel => exact ⟨j, k + 1, acc, by omega, by omega, rfl, by go_num, HN, by omega, hown, hB⟩
          case measure => simp [intOf]; omega
    · have g1 : decide ((k : Int) + 1 < (s.size : Int)) = false := by simp; omega
      have he := linesAt_end s.data.toList j k hjk (by rw [HLEN.out]; exact hk) (by rw [HLEN.out]; omega)
      rw [HLEN.out] at he
      by_cases hf : j < s.size
      · rw [if_pos hf] at he
        have g2 : decide ((j : Int) < (s.size : Int)) = true := by simp; omega
        have HN : Hid (acc ++ [s.data.toList.drop j] = T) := Lib.hid (by rw [← he]; exact HP.out)
        have i1 : (0 : Int) ≤ (j : Int) := by omega
        have i2 : (j : Int) ≤ (s.size : Int) := by omega
        obtain ⟨piece, hpiece⟩ : ∃ p, s.extract j s.size = p := ⟨_, rfl⟩
        have HPC : Hid (piece = mkB (s.data.toList.drop j)) := Lib.hid (by rw [← hpiece, mkB_extract, List.take_of_length_le (by simp)])
        clear he HP
        go_wp2_with (at_builtin; refine wpList_append_own _ rfl _ _ 104 rfl w.heap.size 9 i0 (.string ⟨#[]⟩) 1 16 Tryz.underlying104 hi hz0 hz1 hz2 rfl (by decide) _ _ _ rfl (hown.alloc _) ⟨wr.heap.size, 0, none⟩ 1 1 [.string (piece)] rfl rfl (cell_one_new _ _ _) (by simp [Value.oneCell']) (by unfold maxLen; omega) (by omega) (by simp; omega) ?_; intro v' w1 hown' hgrow _)
        have hB1 : Below w.heap.size w w1 := (hB.alloc hsz _).grown hgrow (by simp; omega) (fun k e => (hown.lt k e).1)
        have HROW : Hid (w1.ownsRow w.heap.size 9 1 v' (acc ++ [s.data.toList.drop j]).length (((acc ++ [s.data.toList.drop j]).map mkB).map Value.string)) := Lib.hid (by
          have := hown'
          rw [HPC.out] at this
          simpa using this)
        clear hown' hown hpiece
        go_wp2_with fail
        go_ret
        exact ⟨_, rfl, by have := HROW.out; rw [HN.out] at this; simpa using this, hB1⟩
      · rw [if_neg hf] at he
        have g2 : decide ((j : Int) < (s.size : Int)) = false := by simp; omega
        have HN : Hid (acc = T) := Lib.hid (by have := HP.out; rw [he, List.append_nil] at this; exact this)
        clear he HP
        go_wp2_with fail
        go_ret
        exact ⟨_, rfl, by rw [← HN.out]; simpa using hown, hB⟩
end Go.Proofs.YtgebkpnieailbaaGreatDoor

/-
  The walk of spec.Find.
-/
namespace Go.Proofs.YtgebkpnieailbaaGreatDoor
set_option linter.unusedVariables false
open Go.RowKit

set_option maxHeartbeats 400000 in
theorem specFind_any (s t : ByteArray) (w : World) (hs : s.size ≤ 1048576) (ht : t.size ≤ 1048576) :
    Calls Tryz.prog 106 #[.string s, .string t] w fun e w' => e = .returned (.int .i64 (Lib.index s.data.toList t.data.toList)) ∧ w' = w := by
  go_enter Tryz.func106, Tryz.ntmps106
  go_wp2
  go_loop [5] (fun i => ∃ k : Nat, k ≤ s.size + 1 ∧ i = .int .i64 k ∧ Hid (∀ j, j < k → Lib.occAt s.data.toList t.data.toList j = false)) (fun i => s.size + 1 - (intOf i).toNat)
  case atStart => exact ⟨0, Nat.zero_le _, rfl, Lib.hid (fun j hj => by omega)⟩
  case round =>
    obtain ⟨k, hk, rfl, hno⟩ := hrel
    by_cases hle : k + t.size ≤ s.size
    · cases hoc : Lib.occAt s.data.toList t.data.toList k
      · have hq : ((s.extract k (k + t.size)).toList == t.toList) = false := by rw [← occ_piece s t k hle]; exact hoc
        have Hoc := Lib.hid hoc
        clear hoc
        go_wp2
        go_round
        case rel => exact ⟨k + 1, by omega, by go_num, Lib.hid (fun j hj => by
          rcases Nat.lt_or_ge j k with h1 | h1
          · exact hno.out j h1
          · obtain rfl : j = k := by omega
            exact Hoc.out)⟩
        case measure => simp [intOf]; omega
      · have hq : ((s.extract k (k + t.size)).toList == t.toList) = true := by rw [← occ_piece s t k hle]; exact hoc
        have Hx := Lib.hid (Lib.index_first (s := s.data.toList) (sub := t.data.toList) (i := k) (by simp; omega) hoc hno.out)
        clear hoc
        go_wp2
        go_ret
        exact ⟨by rw [Hx.out]; rfl, rfl⟩
    · have Hx := Lib.hid (Lib.index_none (s := s.data.toList) (sub := t.data.toList) (fun j hj => by
        rcases Nat.lt_or_ge j k with h1 | h1
        · exact hno.out j h1
        · exact no_room s t j (by omega) (by simpa using hj)))
      go_wp2
      go_ret
      exact ⟨by rw [Hx.out]; rfl, rfl⟩
end Go.Proofs.YtgebkpnieailbaaGreatDoor

/-
  Header fields: the walk of spec's l05Field.
-/
namespace Go.Proofs.YtgebkpnieailbaaGreatDoor
set_option linter.unusedVariables false
open Go.RowKit

/-- What l05Field tells. -/
def fieldV (t : List UInt8) : Value := match fieldOf t with
  | none => .tuple #[.agg #[.string ⟨#[]⟩, .string ⟨#[]⟩], .bool false]
  | some f => .tuple #[.agg #[.string (mkB f.name), .string (mkB f.body)], .bool true]

theorem wrap64_byte (b : UInt8) : wrap64 (b.toNat : Int) = (b.toNat : Int) := by
  have := b.toNat_lt
  unfold wrap64
  omega

theorem colon_bounds (t : List UInt8) : -1 ≤ Lib.index t [58] ∧ (0 ≤ Lib.index t [58] → Lib.index t [58] + 1 ≤ (t.length : Int)) := by
  refine ⟨?_, fun h => by have := Lib.index_room t [58] h; simpa using this⟩
  rcases Lib.index_spec t [58] with ⟨h, _⟩ | ⟨i, h, _⟩ <;> omega

theorem all_upto {t : List UInt8} {n : Nat} (hn : n ≤ t.length) (h : ∀ j (h : j < n), nameB (t[j]'(by omega)) = true) : (t.take n).all nameB = true := by
  rw [List.all_eq_true]
  intro b hb
  obtain ⟨j, hj, rfl⟩ := List.mem_iff_getElem.1 hb
  rw [List.getElem_take]
  exact h j (by rw [List.length_take] at hj; omega)
theorem not_all {t : List UInt8} {n j : Nat} (hn : n ≤ t.length) (hj : j < n) (h : nameB (t[j]'(by omega)) = false) : (t.take n).all nameB = false := by
  rw [← Bool.not_eq_true, List.all_eq_true]
  intro h2
  have := h2 (t[j]'(by omega)) (List.mem_iff_getElem.2 ⟨j, by rw [List.length_take]; omega, by rw [List.getElem_take]⟩)
  rw [h] at this
  cases this

set_option maxRecDepth 100000 in
set_option maxHeartbeats 1000000 in
theorem specField_any (s : ByteArray) (w : World) (hs : s.size ≤ 1048576) :
    Calls Tryz.prog 110 #[.string s] w fun e w' => e = .returned (fieldV s.data.toList) ∧ Below w.heap.size w w' := by
  have HF := Lib.hid (fun w => specFind_any s ⟨#[58]⟩ w hs (by decide))
  obtain ⟨V, hV⟩ : ∃ V, fieldV s.data.toList = V := ⟨_, rfl⟩
  rw [hV]
  unfold fieldV fieldOf at hV
  have hcb := colon_bounds s.data.toList
  have hlen : s.data.toList.length = s.size := by simp
  rw [hlen] at hcb
  have HLEN := Lib.hid hlen
  generalize hx : Lib.index s.data.toList [58] = x at HF hV hcb
  obtain ⟨hc1, hc2⟩ := hcb
  clear hx hlen
  by_cases h1 : x < 1
  · rw [if_pos h1] at hV
    have HV := Lib.hid hV
    have g1 : decide (x < 1) = true := by simpa using h1
    clear hV hc2
    go_enter Tryz.func110, Tryz.ntmps110
    go_wp2_with (go_at_call 106; refine (HF.out _).mono ?_; rintro e w' ⟨rfl, rfl⟩)
    have q0 := cells2_0 w (.string ⟨#[]⟩) (.string ⟨#[]⟩) 113
    have q1 := cells2_1 w (.string ⟨#[]⟩) (.string ⟨#[]⟩) 113
    refine bodyPost_ret (v := .tuple #[.agg #[.string ⟨#[]⟩, .string ⟨#[]⟩], .bool false]) (by simp [results, Tryz.results110, go_sem, q0, q1]) rfl ⟨by rw [← HV.out], (Below.refl _ _).alloc (Nat.le_refl _) _⟩
  · rw [if_neg h1] at hV
    have g1 : decide (x < 1) = false := by simpa using h1
    have hc3 := hc2 (by omega)
    obtain ⟨n, rfl⟩ := Int.eq_ofNat_of_zero_le (by omega : 0 ≤ x)
    have HV := Lib.hid hV
    have hat : ∀ k (h : k < s.size), s.data.toList[k]? = some (s[k]'h) := fun k h => by
      rw [List.getElem?_eq_getElem (by simpa using h)]; rfl
    have HAT := Lib.hid hat
    have hn1 : 1 ≤ n := by omega
    have hn2 : n + 1 ≤ s.size := by omega
    clear hV hat hc2 hc3 hc1 h1
    go_enter Tryz.func110, Tryz.ntmps110
    go_wp2_with (go_at_call 106; refine (HF.out _).mono ?_; rintro e w' ⟨rfl, rfl⟩)
    go_loop [5] (fun i => ∃ k : Nat, k ≤ n ∧ i = .int .i64 k ∧ Hid (∀ j (h : j < s.size), j < k → nameB (s[j]'h) = true)) (fun i => n - (intOf i).toNat)
    case atStart => exact ⟨0, Nat.zero_le _, rfl, Lib.hid (fun j h hj => by omega)⟩
    case round =>
      obtain ⟨k, hk, rfl, hall⟩ := hrel
      by_cases hlt : k < n
      · have g2 : decide ((k : Int) < (n : Int)) = true := by simp; omega
        have i1 : (0 : Int) ≤ (k : Int) := by omega
        have i2 : (k : Int) < (s.size : Int) := by omega
        have wq : wrap64 ((s[k]'(by omega)).toNat : Int) = ((s[k]'(by omega)).toNat : Int) := wrap64_byte _
        cases hb : nameB (s[k]'(by omega)) with
        | true =>
          have hb2 : (33 : Int) ≤ ((s[k]'(by omega)).toNat : Int) ∧ ((s[k]'(by omega)).toNat : Int) ≤ 126 := by
            unfold nameB at hb
            simp at hb
            omega
          have HB2 := Lib.hid hb2
          have HN : Hid (∀ j (h : j < s.size), j < k + 1 → nameB (s[j]'h) = true) := Lib.hid (fun j h hj => by
            rcases Nat.lt_or_ge j k with h1 | h1
            · exact hall.out j h h1
            · obtain rfl : j = k := by omega
              exact hb)
          clear hb hb2 hall
          go_wp2_with (go_at_call 117; refine (in_yes _ _ _ _ HB2.out.1 HB2.out.2).mono ?_; rintro e w' ⟨rfl, rfl⟩)
          go_round
          case rel => exact ⟨k + 1, by omega, by go_num, HN⟩
          case measure => simp [intOf]; omega
        | false =>
          have hb2 : ((s[k]'(by omega)).toNat : Int) < 33 ∨ (126 : Int) < ((s[k]'(by omega)).toNat : Int) := by
            unfold nameB at hb
            simp at hb
            omega
          have HB2 := Lib.hid hb2
          have HV2 : Hid (.tuple #[.agg #[.string ⟨#[]⟩, .string ⟨#[]⟩], .bool false] = V) := Lib.hid (by
            rw [← HV.out]
            have := not_all (t := s.data.toList) (n := n) (j := k) (by rw [HLEN.out]; omega) hlt (by
              have e := HAT.out k (by omega)
              rw [List.getElem?_eq_getElem (by rw [HLEN.out]; omega)] at e
              rw [Option.some.inj e]
              exact hb)
            rw [show ((n : Int)).toNat = n by omega, this]
            rfl)
          clear hb hb2 hall
          go_wp2_with (go_at_call 117; refine (in_no _ _ _ _ HB2.out).mono ?_; rintro e w' ⟨rfl, rfl⟩)
          have q0 := cells2_0 w (.string ⟨#[]⟩) (.string ⟨#[]⟩) 113
          have q1 := cells2_1 w (.string ⟨#[]⟩) (.string ⟨#[]⟩) 113
          refine bodyPost_ret (v := .tuple #[.agg #[.string ⟨#[]⟩, .string ⟨#[]⟩], .bool false]) (by simp [results, Tryz.results110, go_sem, q0, q1]) rfl ⟨by rw [← HV2.out], (Below.refl _ _).alloc (Nat.le_refl _) _⟩
      · obtain rfl : k = n := by omega
        have g2 : decide ((k : Int) < (k : Int)) = false := by simp
        have i1 : (0 : Int) ≤ (k : Int) := by omega
        have i2 : (k : Int) ≤ (s.size : Int) := by omega
        have i3 : (0 : Int) ≤ (k : Int) + 1 := by omega
        have i4 : (k : Int) + 1 ≤ (s.size : Int) := by omega
        have i5 : ((k : Int) + 1).toNat = k + 1 := by omega
        have i6 : IntKind.i64.wrap ((k : Int) + 1) = (k : Int) + 1 := by rw [IntKind.wrap_i64]; omega
        have HN : Hid (.tuple #[.agg #[.string (s.extract 0 k), .string ⟨(Lib.trimS (s.extract (k + 1) s.size).data.toList [32, 9]).toArray⟩], .bool true] = V) := Lib.hid (by
          rw [← HV.out]
          have := all_upto (t := s.data.toList) (n := k) (by rw [HLEN.out]; omega) (fun j hj => by
            have e := HAT.out j (by omega)
            rw [List.getElem?_eq_getElem (by rw [HLEN.out]; omega)] at e
            rw [Option.some.inj e]
            exact hall.out j (by omega) hj)
          rw [show ((k : Int)).toNat = k by omega, this]
          rw [if_pos rfl, mkB_extract, mkB_extract, mkB_list, List.take_of_length_le (l := s.data.toList.drop (k + 1)) (by simp)]
          simp [mkB])
        have TR := Lib.hid (fun w => specTrim_any (s.extract (k + 1) s.size) w (by rw [ByteArray.size_extract]; omega))
        generalize (⟨(Lib.trimS (s.extract (k + 1) s.size).data.toList [32, 9]).toArray⟩ : ByteArray) = B at HN TR
        obtain ⟨A, hA⟩ : ∃ A, s.extract 0 k = A := ⟨_, rfl⟩
        rw [hA] at HN
        clear hall
        go_wp2_with fail
        go_region_held3 (fun w' => True) (first | go_keep | exact trivial) (first | (go_at_call 115; refine (TR.out _).mono ?_; rintro e w1 ⟨rfl, rfl⟩))
        go_wp2_with fail
        have q0 : ((w.alloc (.cells #[.string A, .string B] 113)).drew).cell? ⟨w.heap.size, 0, none⟩ = some (.string A) := cells2_0 w _ _ _
        have q1 : ((w.alloc (.cells #[.string A, .string B] 113)).drew).cell? ⟨w.heap.size, 1, none⟩ = some (.string B) := cells2_1 w _ _ _
        refine bodyPost_ret (v := .tuple #[.agg #[.string A, .string B], .bool true]) (by simp [results, Tryz.results110, go_sem, q0, q1]) rfl ⟨by rw [← HN.out], ((Below.refl _ _).alloc (Nat.le_refl _) _).drew⟩
end Go.Proofs.YtgebkpnieailbaaGreatDoor

/-
  Header fields: the walk of spec's Fields.
-/
namespace Go.Proofs.YtgebkpnieailbaaGreatDoor
set_option linter.unusedVariables false
open Go.RowKit

theorem infoFl : (Tryz.prog.info? 113).map (fun i => (i.zero, i.size, i.bytes)) = some (some (.agg #[.string ⟨#[]⟩, .string ⟨#[]⟩]), 2, 32) := by kernel_rfl
/-- The call hands back a slice that owns the fields l; nothing that was there has turned. -/
def GivesFls (l : List Fl) (w : World) (e : Ending) (w' : World) : Prop :=
  ∃ v, e = .returned v ∧ w'.ownsRow w.heap.size 113 2 v l.length (flCells l) ∧ Below w.heap.size w w'

theorem blank_any (b : UInt8) (w : World) : Calls Tryz.prog 109 #[.int .u8 (b.toNat : Int)] w fun e w' => e = .returned (.bool (blankB b)) ∧ w' = w := by
  cases h : blankB b with
  | true =>
    have h2 := (blankB_iff b).1 h
    exact blank_yes _ w (by omega)
  | false =>
    have h2 : ¬ (b.toNat = 32 ∨ b.toNat = 9) := fun x => by rw [(blankB_iff b).2 x] at h; cases h
    exact blank_no _ w (by omega) (by omega)

set_option maxRecDepth 100000 in
set_option maxHeartbeats 2000000 in
theorem specFields_any (s : ByteArray) (w : World) (hs : s.size ≤ 1048576) :
    Calls Tryz.prog 58 #[.string s] w (GivesFls (fieldsL s.data.toList) w) := by
  obtain ⟨i0, hi, hz0, hz1, hz2⟩ := info_parts infoStr
  obtain ⟨j0, hj, hy0, hy1, hy2⟩ := info_parts infoFl
  obtain ⟨R, hR⟩ : ∃ R, fieldsL s.data.toList = R := ⟨_, rfl⟩
  rw [hR]
  unfold fieldsL at hR
  have htl := total_lines s.data.toList.length [] s.data.toList (Nat.le_refl _)
  have SL := Lib.hid (fun w => specLines_any s w (by omega))
  generalize linesA [] s.data.toList = lines at hR htl SL
  obtain ⟨T, hT⟩ : ∃ T, joinT [] lines = T := ⟨_, rfl⟩
  rw [hT] at hR
  have HR := Lib.hid hR
  have HT0 : Hid (joinT [] (lines.drop 0) = T) := Lib.hid (by rw [List.drop_zero]; exact hT)
  obtain ⟨htl1, htl2⟩ := htl
  have hlb : lines.length ≤ 1048577 := by simp at htl2; omega
  have HTL : Hid (total lines ≤ 1048576) := Lib.hid (by simp at htl1; omega)
  clear hR hT htl1 htl2
  go_enter Tryz.func58, Tryz.ntmps58
  go_wp2_with fail
  refine (SL.out _).mono ?_
  rintro e w1 ⟨vl, rfl, hl1, hBl⟩
  obtain ⟨pl, cl, rfl⟩ := row_slice hl1
  rw [List.length_map] at hl1
  rw [List.length_map]
  have HL1 := Lib.hid hl1
  have HB1 : Hid (Below w.heap.size w w1) := Lib.hid (((Below.refl _ _).alloc (Nat.le_refl _) _).trans (hBl.mono (by simp)))
  have HO1 : Hid (w1.ownsRow w.heap.size 9 1 (.slice (some ⟨w.heap.size, 0, none⟩) 0 0) 0 []) := Lib.hid (row_below (World.ownsRow_lit w #[] 0 (Nat.le_refl _) (by decide) rfl) hBl)
  have HA1 : Hid (Apart (.slice (some ⟨w.heap.size, 0, none⟩) 0 0) (.slice pl lines.length cl)) := Lib.hid (by
    intro g hg hx
    have h1 := (hl1.lt g hx).1
    have h2 : some w.heap.size = some g := hg
    have := Option.some.inj h2
    simp at h1
    omega)
  clear hl1 hBl
  go_wp2_with fail
  go_loopw [3, 5] (fun o i wr => ∃ (k : Nat) (acc : List (List UInt8)), k ≤ lines.length ∧ i = .int .i64 (k : Int) ∧ Hid (joinT acc (lines.drop k) = T) ∧ acc.length ≤ k ∧ Hid (total acc + total (lines.drop k) ≤ 1048576) ∧ wr.ownsRow w.heap.size 9 1 o acc.length ((acc.map mkB).map Value.string) ∧ Apart o (.slice pl lines.length cl) ∧ wr.ownsRow (w.heap.size + 1) 9 1 (.slice pl lines.length cl) lines.length ((lines.map mkB).map Value.string) ∧ Below w.heap.size w wr) (fun _ i _ => lines.length - (intOf i).toNat)
  case atStart => exact ⟨0, [], Nat.zero_le _, rfl, HT0, Nat.le_refl _, Lib.hid (by rw [List.drop_zero]; simpa [total] using HTL.out), HO1.out, HA1.out, by simpa using HL1.out, HB1.out⟩
  case round =>
    obtain ⟨k, acc, hk, rfl, HP, hacc, HTO, hown, hap, hlin, hB⟩ := hrel
    have hsz := hB.size
    by_cases hlt : k < lines.length
    · have g1 : decide ((k : Int) < (lines.length : Int)) = true := by simp; omega
      have i1 : (0 : Int) ≤ (k : Int) := by omega
      have i2 : (k : Int) < (lines.length : Int) := by omega
      obtain ⟨gl, cl2, hgl⟩ := row_slice1 hlin (by omega)
      injection hgl with hgl1 hgl2 hgl3
      subst hgl1 hgl3
      have hcell := cellAt_str hlin k hlt rfl
      have HP2 := HP.out
      have HTO2 := HTO.out
      rw [drop_cons lines k hlt, joinT] at HP2
      rw [drop_cons lines k hlt, total_cons] at HTO2
      generalize hq : lines[k] = q at hcell HP2 HTO2
      have HT1 : Hid (total (addLine acc q) + total (lines.drop (k + 1)) ≤ 1048576) := Lib.hid (by rw [total_addLine]; omega)
      have hqs : (mkB q).size ≤ 1048576 := by rw [mkB_size]; omega
      clear HTO HTO2 HP hq
      cases q with
      | nil =>
        obtain ⟨q, hq0⟩ : ∃ q : List UInt8, q = [] := ⟨_, rfl⟩
        have HJ : Hid (joinT (acc ++ [q]) (lines.drop (k + 1)) = T) := Lib.hid (by rw [hq0]; exact HP2)
        rw [show addLine acc [] = acc ++ [q] by rw [hq0]; rfl] at HT1
        rw [← hq0] at hcell hqs
        have hue : (mkB q).toList.isEmpty = true := by rw [Lib.toList_data, mkB_list, hq0]; rfl
        have BL := Lib.hid (fun w => blank_any 0 w)
        clear HP2
        clear hq0
        go_wp2_with (first | (go_at_call 109; refine (BL.out _).mono ?_; rintro e wz ⟨rfl, hwz⟩; rw [hwz]; clear hwz wz) | (at_builtin; refine wpList_append_whereG rfl _ _ 104 rfl w.heap.size 9 i0 (.string ⟨#[]⟩) 1 16 Tryz.underlying104 hi hz0 hz1 hz2 rfl (by decide) (by decide) _ _ _ rfl (hown.alloc _) ⟨wr.heap.size, 0, none⟩ 1 1 [.string (mkB q)] rfl rfl (cell_one_new _ _ _) (by simp [Value.oneCell']) (by omega) (by simp; omega) ?_; intro v' w1 hown' hgrow hwh))
        have hL1 := row_staysG (hlin.alloc (.cells #[.string (mkB q)] 9)) hgrow hap
        have hB1 : Below w.heap.size w w1 := (hB.alloc hsz _).grown hgrow (by simp; omega) (fun k e => (hown.lt k e).1)
        have hA1 := Apart.more hap (hlin.alloc (.cells #[.string (mkB q)] 9)) hwh
        have HROW : Hid (w1.ownsRow w.heap.size 9 1 v' (acc ++ [q]).length (((acc ++ [q]).map mkB).map Value.string)) := Lib.hid (by simpa using hown')
        clear hown' hown hlin hap hB
        go_wp2_with fail
        go_roundw
        case rel => exact ⟨k + 1, acc ++ [q], by omega, by go_num, HJ, by simp; omega, HT1, HROW.out, hA1, hL1, hB1⟩
        case measure => simp [intOf]; omega
      | cons b r =>
        obtain ⟨q, hq0⟩ : ∃ q : List UInt8, q = b :: r := ⟨_, rfl⟩
        rw [← hq0] at hcell HP2 HT1 hqs
        have hue : (mkB q).toList.isEmpty = false := by rw [Lib.toList_data, mkB_list, hq0]; rfl
        have hsz0 : 0 < (mkB q).size := by rw [mkB_size, hq0]; simp
        have hb0 : (mkB q)[0]'hsz0 = b := by
          have : (mkB q).data.toList[0]? = some b := by rw [mkB_list, hq0]; rfl
          rw [List.getElem?_eq_getElem (by rw [mkB_list, hq0]; simp)] at this
          exact Option.some.inj this
        have i3 : (0 : Int) < ((mkB q).size : Int) := by omega
        have BL := Lib.hid (fun w => blank_any b w)
        have hbh : blankHead q = blankB b := by rw [hq0]; rfl
        cases hb : blankB b with
        | false =>
          rw [hb] at BL hbh
          have HJ : Hid (joinT (acc ++ [q]) (lines.drop (k + 1)) = T) := Lib.hid (by rw [← HP2, addLine, hbh]; rfl)
          rw [show addLine acc q = acc ++ [q] by rw [addLine, hbh]; rfl] at HT1
          clear HP2 hbh hq0 hb
          go_wp2_with (first | (go_at_call 109; refine (BL.out _).mono ?_; rintro e wz ⟨rfl, hwz⟩; rw [hwz]; clear hwz wz) | (at_builtin; refine wpList_append_whereG rfl _ _ 104 rfl w.heap.size 9 i0 (.string ⟨#[]⟩) 1 16 Tryz.underlying104 hi hz0 hz1 hz2 rfl (by decide) (by decide) _ _ _ rfl (hown.alloc _) ⟨wr.heap.size, 0, none⟩ 1 1 [.string (mkB q)] rfl rfl (cell_one_new _ _ _) (by simp [Value.oneCell']) (by omega) (by simp; omega) ?_; intro v' w1 hown' hgrow hwh))
          have hL1 := row_staysG (hlin.alloc (.cells #[.string (mkB q)] 9)) hgrow hap
          have hB1 : Below w.heap.size w w1 := (hB.alloc hsz _).grown hgrow (by simp; omega) (fun k e => (hown.lt k e).1)
          have hA1 := Apart.more hap (hlin.alloc (.cells #[.string (mkB q)] 9)) hwh
          have HROW : Hid (w1.ownsRow w.heap.size 9 1 v' (acc ++ [q]).length (((acc ++ [q]).map mkB).map Value.string)) := Lib.hid (by simpa using hown')
          clear hown' hown hlin hap hB
          go_wp2_with fail
          go_roundw
          case rel => exact ⟨k + 1, acc ++ [q], by omega, by go_num, HJ, by simp; omega, HT1, HROW.out, hA1, hL1, hB1⟩
          case measure => simp [intOf]; omega
        | true =>
          rw [hb] at BL hbh
          by_cases ha : acc.length = 0
          · have HJ : Hid (joinT (acc ++ [q]) (lines.drop (k + 1)) = T) := Lib.hid (by rw [← HP2, addLine, hbh, ha]; rfl)
            rw [show addLine acc q = acc ++ [q] by rw [addLine, hbh, ha]; rfl] at HT1
            have g4 : decide ((0 : Int) < (acc.length : Int)) = false := by rw [ha]; rfl
            have g5 : ¬ (0 < acc.length) := by omega
            obtain ⟨po, co, rfl⟩ := row_slice hown
            clear HP2 hbh hq0 hb ha
            go_wp2_with (first | (go_at_call 109; refine (BL.out _).mono ?_; rintro e wz ⟨rfl, hwz⟩; rw [hwz]; clear hwz wz) | (at_builtin; refine wpList_append_whereG rfl _ _ 104 rfl w.heap.size 9 i0 (.string ⟨#[]⟩) 1 16 Tryz.underlying104 hi hz0 hz1 hz2 rfl (by decide) (by decide) _ _ _ rfl (hown.alloc _) ⟨wr.heap.size, 0, none⟩ 1 1 [.string (mkB q)] rfl rfl (cell_one_new _ _ _) (by simp [Value.oneCell']) (by omega) (by simp; omega) ?_; intro v' w1 hown' hgrow hwh))
            have hL1 := row_staysG (hlin.alloc (.cells #[.string (mkB q)] 9)) hgrow hap
            have hB1 : Below w.heap.size w w1 := (hB.alloc hsz _).grown hgrow (by simp; omega) (fun k e => (hown.lt k e).1)
            have hA1 := Apart.more hap (hlin.alloc (.cells #[.string (mkB q)] 9)) hwh
            have HROW : Hid (w1.ownsRow w.heap.size 9 1 v' (acc ++ [q]).length (((acc ++ [q]).map mkB).map Value.string)) := Lib.hid (by simpa using hown')
            clear hown' hown hlin hap hB
            go_wp2_with fail
            go_roundw
            case rel => exact ⟨k + 1, acc ++ [q], by omega, by go_num, HJ, by simp; omega, HT1, HROW.out, hA1, hL1, hB1⟩
            case measure => simp [intOf]; omega
          · have hpos : 0 < acc.length := Nat.pos_of_ne_zero ha
            obtain ⟨go, co, rfl⟩ := row_slice1 hown hpos
            have g4 : decide ((0 : Int) < (acc.length : Int)) = true := by simp; omega
            have hal : addLine acc q = acc.set (acc.length - 1) (acc.getD (acc.length - 1) [] ++ q) := by
              rw [addLine, hbh, if_pos]
              simpa using hpos
            rw [hal] at HP2 HT1
            have hca := cellAt_str hown (acc.length - 1) (by omega) rfl
            have hfa := hown.frozenAt (acc.length - 1)
            have hgd : acc.getD (acc.length - 1) [] = acc[acc.length - 1]'(by omega) := by
              rw [List.getD_eq_getElem?_getD, List.getElem?_eq_getElem (by omega)]
              rfl
            rw [hgd] at HP2 HT1
            have hlen1 : acc.length ≤ 1048577 := by omega
            have hq1 : (mkB (acc[acc.length - 1]'(by omega))).size + (mkB q).size ≤ 1048576 := by
              have h1 := HT1.out
              have h2 := total_set acc (acc.length - 1) q (by omega)
              rw [hgd] at h2
              have h3 := total_mem (l := acc) (List.getElem_mem (by omega : acc.length - 1 < acc.length))
              rw [mkB_size, mkB_size]
              omega
            generalize hla : acc[acc.length - 1]'(by omega) = last at hca HP2 HT1 hq1
            have hst := (hown.stored (acc.length - 1) (.string (mkB last ++ mkB q))).1
            have hcat : mkB last ++ mkB q = mkB (last ++ q) := by
              apply ByteArray.ext
              simp [mkB]
            have HST : Hid ((wr.setCell ⟨go, acc.length - 1, none⟩ (.string (mkB last ++ mkB q))).ownsRow w.heap.size 9 1 (.slice (some ⟨go, 0, none⟩) acc.length co) (acc.set (acc.length - 1) (last ++ q)).length (((acc.set (acc.length - 1) (last ++ q)).map mkB).map Value.string)) := Lib.hid (by
              rw [List.length_set, List.map_set, List.map_set, ← hcat]
              exact hst)
            have HG := Lib.hid (grownBy_one wr go (acc.length - 1) (.string (mkB last ++ mkB q)))
            have HL := Lib.hid (row_staysG (v1 := .slice (some ⟨go, 0, none⟩) acc.length co) hlin HG.out hap)
            have HBW : Hid (Below w.heap.size w (wr.setCell ⟨go, acc.length - 1, none⟩ (.string (mkB last ++ mkB q)))) := Lib.hid (hB.grown HG.out hsz (fun k e => (hown.lt k e).1))
            have HJ : Hid (joinT (acc.set (acc.length - 1) (last ++ q)) (lines.drop (k + 1)) = T) := Lib.hid HP2
            have HPOS := Lib.hid hpos
            have HAC := Lib.hid hacc
            have c1 : (0 : Int) ≤ (acc.length : Int) - 1 := by omega
            have c2 : (acc.length : Int) - 1 < (acc.length : Int) := by omega
            have c3 : ((acc.length : Int) - 1).toNat = acc.length - 1 := by omega
            have c5 : IntKind.i64.wrap ((acc.length : Int) - 1) = (acc.length : Int) - 1 := by rw [IntKind.wrap_i64]; omega
            have c4 : ¬ 9223372036854775807 < (mkB last).size + (mkB q).size := by omega
            have g5 : 0 < acc.length := hpos
            have e1 : (1 : Int) ≤ (acc.length : Int) := by omega
            have e2 : 1 ≤ acc.length := hpos
            have e3 : (0 : Int) < (acc.length : Int) := by omega
            have e4 : (0 : Int) ≤ (acc.length : Int) + -1 := by omega
            have HAP := Lib.hid hap
            clear hap
            clear HP2 hbh hq0 hb ha hal hgd hst hcat hla hown hlin hB hpos hacc
            go_wp2_with (first | (go_at_call 109; refine (BL.out _).mono ?_; rintro e wz ⟨rfl, hwz⟩; rw [hwz]; clear hwz wz))
            go_still_tail 16, (by kernel_rfl)
            change wpList _ _ _ _ _ wr.drew
            have hca2 : wr.drew.cell? ⟨go, acc.length - 1, none⟩ = some (.string (mkB last)) := hca
            have hcell2 : wr.drew.cell? ⟨gl, k, none⟩ = some (.string (mkB q)) := hcell
            have hfa2 : wr.drew.frozen? ⟨go, acc.length - 1, none⟩ = false := hfa
            go_wp2_with fail
            go_roundw
            case rel => exact ⟨k + 1, acc.set (acc.length - 1) (last ++ q), by omega, by go_num, HJ, by have := HAC.out; rw [List.length_set]; omega, HT1, HST.out, HAP.out, HL.out, HBW.out.drew⟩
            case measure => simp [intOf]; omega
    · obtain rfl : k = lines.length := by omega
      have HF : Hid (acc = T) := Lib.hid (by have := HP.out; rwa [List.drop_length, joinT] at this)
      have hTt : Hid (total T ≤ 1048576) := Lib.hid (by rw [← HF.out]; have := HTO.out; omega)
      obtain rfl : acc = T := HF.out
      have g1 : decide ((lines.length : Int) < (lines.length : Int)) = false := by simp
      obtain ⟨po, co, rfl⟩ := row_slice hown
      have HOWN := Lib.hid hown
      have HB := Lib.hid hB
      have hal : acc.length ≤ 1048577 := by omega
      clear HP HTO HT0 HTL HL1 HB1 HO1 HA1 SL hown hap hlin hB HF
      obtain ⟨wA, hwA⟩ : ∃ x : World, x = wr := ⟨_, rfl⟩
      rw [← hwA]
      rw [← hwA] at HOWN HB hsz
      clear hwA
      go_wp2_with fail
      go_loopw [6, 7] (fun o i wr => ∃ (k : Nat) (out : List Fl), k ≤ acc.length ∧ i = .int .i64 (k : Int) ∧ Hid (out ++ (acc.drop k).filterMap fieldOf = R) ∧ out.length ≤ k ∧ wr.ownsRow wA.heap.size 113 2 o out.length (flCells out) ∧ Hid (Below wA.heap.size wA wr)) (fun _ i _ => acc.length - (intOf i).toNat)
      case atStart => exact ⟨0, [], Nat.zero_le _, rfl, Lib.hid (by rw [List.drop_zero]; exact HR.out), Nat.le_refl _, World.ownsRow_lit wA #[] 0 (Nat.le_refl _) (by decide) rfl, Lib.hid ((Below.refl _ _).alloc (Nat.le_refl _) _)⟩
      case round =>
        obtain ⟨k, out, hk, rfl, HP, hout, hown, HBA⟩ := hrel
        have hsA := HBA.out.size
        by_cases hlt : k < acc.length
        · have g2 : decide ((k : Int) < (acc.length : Int)) = true := by simp; omega
          have i1 : (0 : Int) ≤ (k : Int) := by omega
          have i2 : (k : Int) < (acc.length : Int) := by omega
          have hrow := row_below HOWN.out HBA.out
          obtain ⟨gt, ct, hgt⟩ := row_slice1 hrow (by omega)
          injection hgt with hgt1 hgt2 hgt3
          subst hgt1 hgt3
          have hcell := cellAt_str hrow k hlt rfl
          have HP2 := HP.out
          rw [drop_cons acc k hlt] at HP2
          have hqs : (mkB (acc[k])).size ≤ 1048576 := by
            have := total_mem (l := acc) (List.getElem_mem hlt)
            have := hTt.out
            rw [mkB_size]; omega
          generalize acc[k] = q at hcell HP2 hqs
          have FS := fun w => specField_any (mkB q) w hqs
          rw [mkB_list] at FS
          cases hf : fieldOf q with
          | none =>
            have HN : Hid (out ++ (acc.drop (k + 1)).filterMap fieldOf = R) := Lib.hid (by rw [← HP2, List.filterMap_cons, hf])
            rw [show fieldV q = .tuple #[.agg #[.string ⟨#[]⟩, .string ⟨#[]⟩], .bool false] by rw [fieldV, hf]] at FS
            have FSH := Lib.hid FS
            clear FS HP2 HP hf hrow
            go_wp2_with (first | (go_at_call 110; refine (FSH.out _).mono ?_; rintro e w3 ⟨rfl, hB3⟩))
            have hB4 : Below wr.heap.size wr (w3.alloc (.cells #[.string ⟨#[]⟩, .string ⟨#[]⟩] 113)) := hB3.alloc hB3.size _
            have HROW := Lib.hid (row_lat hown hB4)
            have HBA4 := Lib.hid (HBA.out.trans (hB4.mono hsA))
            clear hB3 hB4 hown
            go_wp2_with fail
            go_roundw
            case rel => exact ⟨k + 1, out, by omega, by go_num, HN, by omega, HROW.out, HBA4⟩
            case measure => simp [intOf]; omega
          | some f =>
            have HN : Hid ((out ++ [f]) ++ (acc.drop (k + 1)).filterMap fieldOf = R) := Lib.hid (by rw [← HP2, List.filterMap_cons, hf]; simp)
            rw [show fieldV q = .tuple #[.agg #[.string (mkB f.name), .string (mkB f.body)], .bool true] by rw [fieldV, hf]] at FS
            have FSH := Lib.hid FS
            clear FS HP2 HP hf hrow
            go_wp2_with (first | (go_at_call 110; refine (FSH.out _).mono ?_; rintro e w3 ⟨rfl, hB3⟩) | (at_builtin; refine wpList_append_own _ rfl _ _ 42 rfl wA.heap.size 113 j0 (.agg #[.string ⟨#[]⟩, .string ⟨#[]⟩]) 2 32 Tryz.underlying42 hj hy0 hy1 hy2 rfl (by decide) _ _ _ rfl (row_lat hown ((hB3.alloc hB3.size _).alloc (by have := hB3.size; simp; omega) _)) ⟨w3.heap.size + 1, 0, none⟩ 1 1 [.string (mkB f.name), .string (mkB f.body)] rfl rfl (cell_two_new _ _ _ _ _ (by simp)) (by simp [Value.oneCell']) (by unfold maxLen; omega) (by omega) (by have := hB3.size; simp; omega) ?_; intro v' w5 hown' hgrow _))
            have hB5 : Below wA.heap.size wA w5 := ((HBA.out.trans (hB3.mono hsA)).alloc (by have := hB3.size; omega) _ |>.alloc (by have := hB3.size; simp; omega) _).grown hgrow (by have := hB3.size; simp; omega) (fun k e => (hown.lt k e).1)
            have HROW : Hid (w5.ownsRow wA.heap.size 113 2 v' (out ++ [f]).length (flCells (out ++ [f]))) := Lib.hid (by
              rw [flCells_append]
              simpa [flCells] using hown')
            have HB5 := Lib.hid hB5
            clear hB3 hown hown' hgrow hB5
            go_wp2_with fail
            go_roundw
            case rel => exact ⟨k + 1, out ++ [f], by omega, by go_num, HN, by simp; omega, HROW.out, HB5⟩
            case measure => simp [intOf]; omega
        · obtain rfl : k = acc.length := by omega
          have g2 : decide ((acc.length : Int) < (acc.length : Int)) = false := by simp
          have HN : Hid (out = R) := Lib.hid (by have := HP.out; rw [List.drop_length] at this; simpa using this)
          clear HP
          go_wp2_with fail
          go_ret
          refine ⟨_, rfl, ?_, HB.out.trans (HBA.out.mono hsz)⟩
          rw [← HN.out]
          exact row_baseL hown hsz
end Go.Proofs.YtgebkpnieailbaaGreatDoor

/-
  Envelopes: the walks of spec's l08Body, l08Addrs, l08Or.
-/
namespace Go.Proofs.YtgebkpnieailbaaGreatDoor
set_option linter.unusedVariables false
open Go.RowKit

/-- What the envelope needs of the fields: how long their names and bodies are. -/
def FlsOk (l : List Fl) : Prop := l.length ≤ 1048576 ∧ ∀ f ∈ l, f.name.length + f.body.length ≤ 1048576
theorem FlsOk.body {l : List Fl} (h : FlsOk l) (n : List UInt8) : ((bodyOf n l).getD []).length ≤ 1048576 := by
  cases hb : bodyOf n l with
  | none => simp
  | some b =>
    obtain ⟨f, h1, h2⟩ := bodyOf_mem hb
    have := h.2 f h1
    rw [← h2]
    simp only [Option.getD_some]
    omega
theorem fields_ok (s : List UInt8) (h : s.length ≤ 1048576) : FlsOk (fieldsL s) :=
  ⟨by have := fieldsL_few s; omega, fun f hf => by have := fieldsL_mem hf; omega⟩

set_option maxRecDepth 100000 in
set_option maxHeartbeats 1000000 in
theorem specBody8_any (v : Value) (l : List Fl) (K : ByteArray) (w : World) (hv : FlsAt w v l) (hk : K.size ≤ 100) (hl : FlsOk l) :
    Calls Tryz.prog 74 #[v, .string K] w fun e w' => e = .returned (.string (mkB (bodyT (bodyOf K.data.toList l)))) ∧ Below w.heap.size w w' := by
  have BO := Lib.hid (specBody_any v l K w hv (by unfold maxLen; omega) (fun f hf => by have := hl.2 f hf; rw [mkB_size]; unfold maxLen; omega) (by have := hl.1; omega))
  have hs := hl.body K.data.toList
  generalize bodyOf K.data.toList l = R at BO hs
  clear hv hl
  cases R with
  | none =>
    rw [show bodyV none = .tuple #[.string ⟨#[]⟩, .bool false] from rfl] at BO
    go_enter Tryz.func74, Tryz.ntmps74
    go_wp2_with fail
    refine BO.out.mono ?_
    rintro e w1 ⟨rfl, hB⟩
    go_wp2_with fail
    go_ret
    exact ⟨rfl, hB⟩
  | some s =>
    rw [show bodyV (some s) = .tuple #[.string (mkB s), .bool true] from rfl] at BO
    rw [show (Option.getD (some s) [] : List UInt8) = s from rfl] at hs
    have PS := Lib.hid (fun w => specPutString_any (mkB s) w (by rw [mkB_size]; omega))
    rw [mkB_list, show (⟨(putStr s).toArray⟩ : ByteArray) = mkB (putStr s) from rfl] at PS
    by_cases h0 : putStr s = []
    · rw [show bodyT (some s) = nilL from by simp [bodyT, h0]]
      have q1 : ((mkB (putStr s)).toList == ([] : List UInt8)) = true := by rw [Lib.toList_data, mkB_list, h0]; rfl
      have q2 : (mkB (putStr s)).toList = ([] : List UInt8) := by rw [Lib.toList_data, mkB_list, h0]
      generalize mkB (putStr s) = Z at PS q1 q2
      generalize mkB s = e0 at BO PS
      clear h0 hs
      go_enter Tryz.func74, Tryz.ntmps74
      go_wp2_with fail
      refine BO.out.mono ?_
      rintro e w1 ⟨rfl, hB⟩
      have hB1 := Lib.hid hB
      clear hB
      go_wp2_with fail
      refine (PS.out _).mono ?_
      rintro e w2 ⟨rfl, hB⟩
      have hB2 := Lib.hid (hB1.out.trans (hB.mono hB1.out.size))
      clear hB
      go_wp2_with fail
      go_ret
      exact ⟨rfl, hB2.out⟩
    · rw [show bodyT (some s) = putStr s from by simp [bodyT, h0]]
      have q1 : ((mkB (putStr s)).toList == ([] : List UInt8)) = false := by
        rw [Lib.toList_data, mkB_list]
        cases hp : putStr s with
        | nil => exact absurd hp h0
        | cons a r => rfl
      have q2 : ¬ (mkB (putStr s)).toList = ([] : List UInt8) := by rw [Lib.toList_data, mkB_list]; exact h0
      have q3 : (mkB (putStr s)).toList.isEmpty = false := by
        rw [Lib.toList_data, mkB_list]
        cases hp : putStr s with
        | nil => exact absurd hp h0
        | cons a r => rfl
      generalize mkB (putStr s) = Z at PS q1 q2 q3 ⊢
      generalize mkB s = e0 at BO PS
      clear h0 hs
      go_enter Tryz.func74, Tryz.ntmps74
      go_wp2_with fail
      refine BO.out.mono ?_
      rintro e w1 ⟨rfl, hB⟩
      have hB1 := Lib.hid hB
      clear hB
      go_wp2_with fail
      refine (PS.out _).mono ?_
      rintro e w2 ⟨rfl, hB⟩
      have hB2 := Lib.hid (hB1.out.trans (hB.mono hB1.out.size))
      clear hB
      go_wp2_with fail
      refine (PS.out _).mono ?_
      rintro e w3 ⟨rfl, hB⟩
      have hB3 := Lib.hid (hB2.out.trans (hB.mono hB2.out.size))
      clear hB
      go_wp2_with fail
      go_ret
      exact ⟨rfl, hB3.out⟩

theorem bodyV_parts (R : Option (List UInt8)) : bodyV R = .tuple #[.string (mkB (R.getD [])), .bool R.isSome] := by cases R <;> rfl
set_option maxRecDepth 100000 in
set_option maxHeartbeats 1000000 in
theorem specAddrs8_any (v : Value) (l : List Fl) (K : ByteArray) (w : World) (hv : FlsAt w v l) (hk : K.size ≤ 100) (hl : FlsOk l) :
    Calls Tryz.prog 73 #[v, .string K] w fun e w' => e = .returned (.string (mkB (adT (bodyOf K.data.toList l)))) ∧ Below w.heap.size w w' := by
  have BO := Lib.hid (specBody_any v l K w hv (by unfold maxLen; omega) (fun f hf => by have := hl.2 f hf; rw [mkB_size]; unfold maxLen; omega) (by have := hl.1; omega))
  have hs := hl.body K.data.toList
  unfold adT
  rw [bodyV_parts] at BO
  generalize bodyOf K.data.toList l = R at BO hs
  generalize R.isSome = B at BO
  generalize R.getD [] = s at BO hs
  have RA := Lib.hid (fun w => specReadAddrs_any (mkB s) w (by rw [mkB_size]; omega))
  rw [mkB_list] at RA
  obtain ⟨a1, a2⟩ := addrs_small s hs
  generalize addrsL s = ads at RA a1 a2
  generalize mkB s = e0 at BO RA
  have AT := Lib.hid (fun v w hv => specAddrText_any v ads w hv (by omega) (by omega))
  clear hv hl hs a1 a2
  go_enter Tryz.func73, Tryz.ntmps73
  go_wp2_with fail
  refine BO.out.mono ?_
  rintro e w1 ⟨rfl, hB⟩
  have hB1 := Lib.hid hB
  clear hB
  go_wp2_with fail
  refine (RA.out _).mono ?_
  rintro e w2 ⟨va, rfl, hr, hB⟩
  have HVA := Lib.hid (ads_of_row hr)
  have hB2 := Lib.hid (hB1.out.trans (hB.mono hB1.out.size))
  clear hB hr
  go_wp2_with fail
  refine (AT.out _ _ HVA.out).mono ?_
  rintro e w3 ⟨rfl, hB⟩
  have hB3 := Lib.hid (hB2.out.trans (hB.mono hB2.out.size))
  clear hB
  go_wp2_with fail
  go_ret
  exact ⟨rfl, hB3.out⟩

set_option maxRecDepth 100000 in
set_option maxHeartbeats 1000000 in
theorem specOr8_any (v : Value) (l : List Fl) (K : ByteArray) (x : List UInt8) (w : World) (hv : FlsAt w v l) (hk : K.size ≤ 100) (hl : FlsOk l) :
    Calls Tryz.prog 75 #[v, .string K, .string (mkB x)] w fun e w' => e = .returned (.string (mkB (orT (adT (bodyOf K.data.toList l)) x))) ∧ Below w.heap.size w w' := by
  have A8 := Lib.hid (specAddrs8_any v l K w hv hk hl)
  clear hv hl hk
  generalize adT (bodyOf K.data.toList l) = s at A8
  unfold orT
  by_cases h0 : s = nilL
  · rw [if_pos h0]
    have q1 : ((mkB s).toList == ([78, 73, 76] : List UInt8)) = true := by rw [Lib.toList_data, mkB_list, h0]; rfl
    generalize mkB s = Z at A8 q1
    generalize mkB x = X
    clear h0
    go_enter Tryz.func75, Tryz.ntmps75
    go_wp2_with fail
    refine A8.out.mono ?_
    rintro e w1 ⟨rfl, hB⟩
    go_wp2_with fail
    go_ret
    exact ⟨rfl, hB⟩
  · rw [if_neg h0]
    have q1 : ((mkB s).toList == ([78, 73, 76] : List UInt8)) = false := by rw [Lib.toList_data, mkB_list, beq_eq_false_iff_ne]; exact h0
    generalize mkB s = Z at A8 q1 ⊢
    generalize mkB x = X
    clear h0
    go_enter Tryz.func75, Tryz.ntmps75
    go_wp2_with fail
    refine A8.out.mono ?_
    rintro e w1 ⟨rfl, hB⟩
    go_wp2_with fail
    go_ret
    exact ⟨rfl, hB⟩
end Go.Proofs.YtgebkpnieailbaaGreatDoor

/-
  Strings copied behind each other into a row of the call's own.
-/
namespace Go.Proofs.YtgebkpnieailbaaGreatDoor
set_option linter.unusedVariables false
open Go.RowKit
variable {P : Program}

/-- 'copy(out[at:], s)', at = how much is filled. -/
theorem copy_str (w0 wr : World) (h N : Nat) (acc : List UInt8) (s : ByteArray) (dT sT ty elem : TypeId) (hu : P.underlying dT = some (.slice elem)) (hs : (P.info? elem).map (·.size) = some 1)
    (hb : Lib.Buf w0 wr h N acc) (hfit : acc.length + s.size ≤ N) :
    ∃ wr', (Builtin.copy_ #[dT, sT] ty #[Lib.tailV h N acc.length, .string s]).run P wr = .ok (.int .i64 (s.size : Int)) wr' ∧ Lib.Buf w0 wr' h N (acc ++ s.data.toList) := by
  have hl : s.data.toList.length = s.size := by simp
  by_cases h0 : s.size = 0
  · refine ⟨wr, ?_, ?_⟩
    · unfold Lib.tailV
      have := Lib.run_copy_empty_string (P := P) wr dT sT ty elem (some (if N = acc.length then ⟨h, 0, none⟩ else ⟨h, acc.length, none⟩)) (N - acc.length) (N - acc.length) s hu (by rw [hs]; rfl) h0
      rw [this, h0]
      rfl
    · have : s.data.toList = [] := List.eq_nil_of_length_eq_zero (by rw [hl]; exact h0)
      rw [this, List.append_nil]
      exact hb
  · have hne : ¬ N = acc.length := by omega
    have hz : ∀ w, (Go.sizeOf elem).run P w = .ok 1 w := fun w => by
      cases hq : P.info? elem with
      | none => simp [hq] at hs
      | some i =>
        have hi : i.size = 1 := by simpa [hq] using hs
        simp [sizeOf, typeInfo, hq, hi]
    have hr := run_copy_string (P := P) wr dT sT ty elem h acc.length (N - acc.length) (N - acc.length) s hu hz (by omega) (fun j hj => hb.there _ (by omega)) (fun j hj => hb.free _ (by omega))
    have hml : (s.data.toList.map fun x : UInt8 => Value.int .u8 (x.toNat : Int)).length = s.size := by rw [List.length_map, hl]
    have hin := World.cell?_setCells_in h (s.data.toList.map fun x => Value.int .u8 (x.toNat : Int)) acc.length wr (fun j hj => hb.there _ (by omega))
    have hout := World.cell?_setCells_out h (s.data.toList.map fun x => Value.int .u8 (x.toNat : Int)) acc.length wr
    refine ⟨_, by unfold Lib.tailV; rw [if_neg hne]; exact hr, ?_, ?_, ?_, ?_, by rw [List.length_append, hl]; exact hfit⟩
    · exact Lib.below_setCells h (Nat.le_refl _) _ _ hb.below
    · intro j hj
      by_cases h1 : acc.length ≤ j ∧ j < acc.length + s.size
      · obtain ⟨d, rfl⟩ : ∃ d, j = acc.length + d := ⟨j - acc.length, by omega⟩
        rw [hin d (by omega)]
        rfl
      · rw [hout ⟨h, j, none⟩ (fun _ _ => by rw [hml]; show j < _ ∨ _ ≤ j; omega)]
        exact hb.there j hj
    · intro j hj
      rw [World.frozen?_setCells]
      exact hb.free j hj
    · intro j x hx
      by_cases h1 : j < acc.length
      · rw [List.getElem?_append_left h1] at hx
        rw [hout ⟨h, j, none⟩ (fun _ _ => Or.inl h1)]
        exact hb.holds j x hx
      · rw [List.getElem?_append_right (by omega)] at hx
        obtain ⟨d, rfl⟩ : ∃ d, j = acc.length + d := ⟨j - acc.length, by omega⟩
        rw [Nat.add_sub_cancel_left] at hx
        have hd : d < s.data.toList.length := (List.getElem?_eq_some_iff.1 hx).1
        rw [hin d (by omega)]
        simp [List.getElem_map, (List.getElem?_eq_some_iff.1 hx).2]

/-- 'make([]byte, n)': nothing is filled yet. -/
theorem buf_made (w : World) (e : TypeId) (cs : Array Value) (N : Nat) (hN : N ≤ cs.size) : Lib.Buf w (w.alloc (.cells cs e)) w.heap.size N [] where
  below := (Below.refl _ w).alloc (Nat.le_refl _) _
  there := fun j hj => by
    rw [World.cell?_alloc_mark, Array.getElem?_eq_getElem (by omega)]
    rfl
  free := fun j _ => by
    rw [World.frozen?_alloc_mark w _ e 0 0 j]
    simp
  holds := fun j x hx => by simp at hx
  fits := Nat.zero_le _

/-- 'string(out[:at])'. -/
theorem buf_back {w0 w : World} {h N : Nat} {acc : List UInt8} (hb : Lib.Buf w0 w h N acc) (src dst e : TypeId) (cap n : Nat) (hn : n = acc.length) (hs : P.underlying src = some (.slice e)) (he : P.underlying e = some (.int .u8)) (hd : P.underlying dst = some .string) :
    (convert src dst (.slice (some ⟨h, 0, none⟩) n cap)).run P w = .ok (.string ⟨acc.toArray⟩) w := by
  subst hn
  refine run_convert_bytes_back w src dst e ⟨h, 0, none⟩ cap acc hs he hd fun j hj => ?_
  have hadd : (⟨h, 0, none⟩ : Addr).add j = ⟨h, j, none⟩ := by unfold Addr.add; split <;> simp_all
  rw [hadd, hb.holds j acc[j] (List.getElem?_eq_getElem hj)]
end Go.Proofs.YtgebkpnieailbaaGreatDoor

/-
  Slices of values: what a walk reads of one; a world that has drawn at most.
-/
namespace Go.Proofs.YtgebkpnieailbaaGreatDoor
set_option linter.unusedVariables false
open Go.RowKit

/-- v is a slice of the values xs, whose cells may be read and written. -/
def ValsAt (w : World) (v : Value) (xs : List Value) : Prop :=
  (xs = [] ∧ ∃ p cap, v = .slice p 0 cap) ∨
  ∃ g cap, v = .slice (some ⟨g, 0, none⟩) xs.length cap ∧ g < w.heap.size ∧ ∀ j, j < xs.length → w.cell? ⟨g, j, none⟩ = xs[j]? ∧ w.frozen? ⟨g, j, none⟩ = false

theorem valsAt_of_row {w : World} {B : Nat} {e : TypeId} {v : Value} {n : Nat} {xs : List Value} (h : w.ownsRow B e 1 v n xs) : ValsAt w v xs := by
  obtain ⟨hl, h⟩ := h
  rw [Nat.mul_one] at hl
  rcases h with ⟨rfl, rfl⟩ | ⟨g, cap, cur, rfl, _, hg, hn, _, hc, ht⟩
  · exact .inl ⟨List.eq_nil_of_length_eq_zero hl, _, _, rfl⟩
  · refine .inr ⟨g, cap, by rw [hl], (Array.getElem?_eq_some_iff.1 hg).1, fun j hj => ⟨?_, ?_⟩⟩
    · simp only [World.cell?, hg]
      rw [← ht]
      simp [List.getElem?_take]
      intro h1; omega
    · simp [World.frozen?, hg]
theorem ValsAt.of_heap {w w' : World} {v : Value} {xs : List Value} (h : ValsAt w v xs) (e : w'.heap = w.heap) : ValsAt w' v xs := by
  rcases h with h | ⟨g, cap, h1, h2, h3⟩
  · exact .inl h
  · exact .inr ⟨g, cap, h1, by rw [e]; exact h2, fun j hj => by
      have := h3 j hj
      simp only [World.cell?, World.frozen?, e] at this ⊢
      exact this⟩

/-- The world has drawn at most. -/
def Quietly (w w' : World) : Prop := w'.heap = w.heap ∧ Below w.heap.size w w'
theorem Quietly.refl (w : World) : Quietly w w := ⟨rfl, Below.refl _ _⟩
theorem Quietly.drewN {w wr : World} (h : Quietly w wr) (n : Nat) : Quietly w (wr.drewN n) := by
  obtain ⟨h1, h2⟩ := h
  exact ⟨h1, ⟨h2.os, h2.tape, h2.output, h2.size, h2.block⟩⟩

theorem str_ne {x y : ByteArray} (h : x ≠ y) : (x.toList == y.toList) = false := by
  rw [beq_eq_false_iff_ne, Lib.toList_data, Lib.toList_data]
  intro e; apply h
  exact ByteArray.ext (Array.ext' e)
theorem ValsAt.later {w w' : World} {v : Value} {xs : List Value} (h : ValsAt w v xs) (hb : Below w.heap.size w w') : ValsAt w' v xs := by
  rcases h with h | ⟨g, cap, h1, h2, h3⟩
  · exact .inl h
  · refine .inr ⟨g, cap, h1, Nat.lt_of_lt_of_le h2 hb.size, fun j hj => ?_⟩
    have := h3 j hj
    simp only [World.cell?, World.frozen?, hb.block g h2] at this ⊢
    exact this
end Go.Proofs.YtgebkpnieailbaaGreatDoor

/-
  Elements with blanks between, in brackets: the walk of impl's listText.
-/
namespace Go.Proofs.YtgebkpnieailbaaGreatDoor
set_option linter.unusedVariables false
open Go.RowKit

def bytesL (L : List ByteArray) : List (List UInt8) := L.map (·.data.toList)
theorem bytes_take (L : List ByteArray) (k : Nat) (h : k < L.length) : bytesL (L.take (k + 1)) = bytesL (L.take k) ++ [L[k].data.toList] := by
  unfold bytesL
  rw [List.take_add_one, List.getElem?_eq_getElem h, List.map_append]
  rfl
theorem bytes_total (L : List ByteArray) (k : Nat) : total (bytesL (L.take k)) ≤ total (bytesL L) := by
  have : bytesL L = bytesL (L.take k) ++ bytesL (L.drop k) := by
    unfold bytesL
    rw [← List.map_append, List.take_append_drop]
  rw [this, total_append]
  omega
theorem bytes_len (L : List ByteArray) : (bytesL L).length = L.length := by simp [bytesL]

set_option maxRecDepth 100000 in
set_option maxHeartbeats 1000000 in
theorem listText_any (v : Value) (L : List ByteArray) (w : World) (hv : ValsAt w v (L.map Value.string)) (hl : L.length ≤ 4194304) (ht : total (bytesL L) ≤ 2147483648) :
    Calls Tryz.prog 71 #[v] w fun e w' => e = .returned (.string (mkB (listT (bytesL L)))) ∧ Below w.heap.size w w' := by
  obtain ⟨p, cap, rfl, hcell⟩ : ∃ p cap, v = .slice p L.length cap ∧ ∀ k (h : k < L.length), ∃ g, p = some ⟨g, 0, none⟩ ∧ g < w.heap.size ∧ w.cell? ⟨g, k, none⟩ = some (.string L[k]) := by
    rcases hv with ⟨h1, p, cap, rfl⟩ | ⟨g, cap, rfl, hg, hc⟩
    · have h0 : L.length = 0 := by
        have := congrArg List.length h1
        simpa using this
      exact ⟨p, cap, by rw [h0], fun k h => by omega⟩
    · refine ⟨some ⟨g, 0, none⟩, cap, by simp, fun k h => ⟨g, rfl, hg, ?_⟩⟩
      have := (hc k (by simpa using h)).1
      rw [this]
      simp [h]
  have HC := Lib.hid hcell
  have HT := Lib.hid ht
  clear hcell hv ht
  go_enter Tryz.func71, Tryz.ntmps71
  go_wp2
  go_loopw [3, 12] (fun z i wr => wr = w ∧ ∃ k : Nat, k ≤ L.length ∧ i = .int .i64 (k : Int) ∧ z = .int .i64 ((2 + total (bytesL (L.take k)) + k : Nat) : Int)) (fun _ i _ => L.length - (intOf i).toNat)
  case atStart => exact ⟨rfl, 0, Nat.zero_le _, rfl, by simp [bytesL, total]⟩
  case round =>
    obtain ⟨rfl, k, hk, rfl, rfl⟩ := hrel
    have hle := bytes_total L k
    have hT := HT.out
    by_cases hlt : k < L.length
    · have g1 : decide ((k : Int) < (L.length : Int)) = true := by simp; omega
      have i1 : (0 : Int) ≤ (k : Int) := by omega
      have i2 : (k : Int) < (L.length : Int) := by omega
      obtain ⟨g, rfl, hg, hc⟩ := HC.out k hlt
      have hst := bytes_take L k hlt
      have hle2 := bytes_total L (k + 1)
      rw [hst, total_append, total_cons] at hle2
      have hN : Hid (total (bytesL (L.take (k + 1))) = total (bytesL (L.take k)) + L[k].size) := Lib.hid (by rw [hst, total_append, total_cons]; simp [total])
      have hzz : L[k].size ≤ 2147483648 := by
        have : L[k].data.toList.length = L[k].size := by simp
        omega
      generalize total (bytesL (L.take k)) = t1 at hN hle ⊢
      generalize L[k] = x at hc hN hzz
      have ht1 : t1 ≤ 2147483648 := by omega
      clear hst hle2 hle
      go_wp2
      go_roundw
      case rel => exact ⟨trivial, k + 1, by omega, by go_num, by rw [hN.out]; go_num⟩
      case measure => simp [intOf]; omega
    · obtain rfl : k = L.length := by omega
      have g1 : decide ((L.length : Int) < (L.length : Int)) = false := by simp
      rw [List.take_length] at hle ⊢
      obtain ⟨N, hN⟩ : ∃ N, 2 + total (bytesL L) + L.length = N := ⟨_, rfl⟩
      rw [hN]
      have n1 : 2 ≤ N := by omega
      have n2 : N ≤ 2152000000 := by omega
      have HN := Lib.hid hN
      clear hN hle hT
      have i1 : (0 : Int) ≤ (N : Int) := by omega
      have i2 : (N : Int) ≤ 2152000000 := by omega
      have hmk := run_make_row' (P := Tryz.prog) 22 5 (.int .u8 0) 1 Tryz.underlying22 (by kernel_rfl) rfl .i64 .i64 N (by omega) (by omega) wr
      obtain ⟨cs, hcs, hcz⟩ : ∃ cs : Array Value, madeCells #[.int .u8 0] N = cs ∧ cs.size = N := ⟨_, rfl, by simp [madeCells]⟩
      rw [hcs] at hmk
      have B0 : Lib.Buf wr (wr.alloc (.cells cs 5)) wr.heap.size N [] := buf_made wr 5 cs N (by omega)
      obtain ⟨w1, hr1, B1⟩ := copy_str (P := Tryz.prog) wr _ wr.heap.size N [] ⟨#[40]⟩ 22 9 3 5 Tryz.underlying22 (by kernel_rfl) B0 (by simp [ByteArray.size]; omega)
      rw [List.length_nil, Lib.tailV_zero] at hr1
      have HB1 := Lib.hid B1
      clear B0 B1 hcs hcz
      go_wp2_with (at_builtin; refine Lib.wpList_copy_run _ rfl _ _ 22 9 rfl _ _ rfl rfl hr1 ?_)
      have HC2 : Hid (∀ w2, Below wr.heap.size wr w2 → ∀ k (h : k < L.length), ∃ g, p = some ⟨g, 0, none⟩ ∧ w2.cell? ⟨g, k, none⟩ = some (.string L[k])) := Lib.hid (fun w2 hB k h => by
        obtain ⟨g, h1, h2, h3⟩ := HC.out k h
        exact ⟨g, h1, (hB.cell (p := ⟨g, k, none⟩) h2).trans h3⟩)
      clear HC
      clear hk hlt hr1 hmk
      obtain ⟨w0, rfl⟩ : ∃ w0 : World, w0 = wr := ⟨_, rfl⟩
      go_loopw [7, 28] (fun z i wr => ∃ (k : Nat) (acc : List UInt8), k ≤ L.length ∧ i = .int .i64 (k : Int) ∧ z = .int .i64 (acc.length : Int) ∧ Hid (acc = 40 :: joinB (bytesL (L.take k))) ∧ Hid (Lib.Buf w0 wr w0.heap.size N acc)) (fun _ i _ => L.length - (intOf i).toNat)
      case atStart => exact ⟨0, [40], Nat.zero_le _, rfl, rfl, Lib.hid rfl, HB1⟩
      case round =>
        obtain ⟨k, acc, hk, rfl, rfl, HA, HB⟩ := hrel
        have hB2 := HB.out.below
        have hT := HT.out
        have hNN := HN.out
        have hlen : acc.length = 1 + total (bytesL (L.take k)) + (k - 1) := by
          rw [HA.out, List.length_cons, joinB_len, bytes_len, List.length_take, Nat.min_eq_left hk]
          omega
        have hle := bytes_total L k
        by_cases hlt : k < L.length
        · have g1 : decide ((k : Int) < (L.length : Int)) = true := by simp; omega
          have i1 : (0 : Int) ≤ (k : Int) := by omega
          have i2 : (k : Int) < (L.length : Int) := by omega
          obtain ⟨g, rfl, hc⟩ := HC2.out wr hB2 k hlt
          have hst := bytes_take L k hlt
          have hle2 := bytes_total L (k + 1)
          rw [hst, total_append, total_cons] at hle2
          have hxl : L[k].data.toList.length = L[k].size := by simp
          have htn : total ([] : List (List UInt8)) = 0 := rfl
          rw [hxl, htn] at hle2
          have hfit : acc.length + 1 + L[k].size + 1 ≤ N := by omega
          have HJ : Hid (joinB (bytesL (L.take (k + 1))) = if k = 0 then L[k].data.toList else joinB (bytesL (L.take k)) ++ 32 :: L[k].data.toList) := Lib.hid (by
            rw [hst]
            by_cases h0 : k = 0
            · subst h0
              simp [bytesL, joinB, glueT]
            · rw [if_neg h0, joinB_snoc]
              intro hx
              have := congrArg List.length hx
              rw [bytes_len, List.length_take, List.length_nil] at this
              omega)
          generalize L[k] = x at hc HJ hfit
          clear hst hle2 hxl htn hle hlen hT hNN
          have hsl1 : ∀ W, (Instr.slice 22 (.slice (some ⟨w0.heap.size, 0, none⟩) N N) (some (.int .i64 (acc.length : Int))) none none).run Tryz.prog W = .ok (Lib.tailV w0.heap.size N acc.length) W := fun W => Lib.run_slice_tailV W 22 5 Tryz.underlying22 (fun w => by kernel_rfl) _ N acc.length (by omega)
          have h1z : (⟨#[32]⟩ : ByteArray).size = 1 := rfl
          by_cases h0 : k = 0
          · have g2 : decide (0 < k) = false := by simp; omega
            obtain ⟨w3, hr2, B3⟩ := copy_str (P := Tryz.prog) w0 wr w0.heap.size N acc x 22 9 3 5 Tryz.underlying22 (by kernel_rfl) HB.out (by omega)
            have HB3 := Lib.hid B3
            have HA3 : Hid (acc ++ x.data.toList = 40 :: joinB (bytesL (L.take (k + 1)))) := Lib.hid (by rw [HJ.out, if_pos h0, HA.out, h0]; rfl)
            have hl3 : (acc ++ x.data.toList).length = acc.length + x.size := by rw [List.length_append]; simp
            obtain ⟨a3, ha3⟩ : ∃ a3, acc ++ x.data.toList = a3 := ⟨_, rfl⟩
            rw [ha3] at HB3 HA3 hl3
            clear B3 HJ ha3 h0
            go_wp2_with (at_builtin; refine Lib.wpList_copy_run _ rfl _ _ 22 9 rfl _ _ rfl rfl hr2 ?_)
            go_roundw
            case rel => exact ⟨k + 1, a3, by omega, by go_num, by rw [hl3]; go_num, HA3, HB3⟩
            case measure => simp [intOf]; omega
          · have g2 : decide ((0 : Int) < (k : Int)) = true := by simp; omega
            obtain ⟨w3, hr2, B3⟩ := copy_str (P := Tryz.prog) w0 wr w0.heap.size N acc ⟨#[32]⟩ 22 9 3 5 Tryz.underlying22 (by kernel_rfl) HB.out (by rw [h1z]; omega)
            obtain ⟨w4, hr3, B4⟩ := copy_str (P := Tryz.prog) w0 w3 w0.heap.size N (acc ++ [32]) x 22 9 3 5 Tryz.underlying22 (by kernel_rfl) B3 (by rw [List.length_append]; simp; omega)
            have hcl : (acc ++ ([32] : List UInt8)).length = acc.length + 1 := by simp
            rw [hcl] at hr3
            have hs2 : ∀ W, (Instr.slice 22 (.slice (some ⟨w0.heap.size, 0, none⟩) N N) (some (.int .i64 ((acc.length : Int) + 1))) none none).run Tryz.prog W = .ok (Lib.tailV w0.heap.size N (acc.length + 1)) W := fun W => by
              have := Lib.run_slice_tailV (P := Tryz.prog) W 22 5 Tryz.underlying22 (fun w => by kernel_rfl) w0.heap.size N (acc.length + 1) (by omega)
              rwa [show ((acc.length + 1 : Nat) : Int) = (acc.length : Int) + 1 by omega] at this
            clear hcl
            have HB4 := Lib.hid B4
            have HA4 : Hid (acc ++ [32] ++ x.data.toList = 40 :: joinB (bytesL (L.take (k + 1)))) := Lib.hid (by rw [HJ.out, if_neg h0, HA.out]; simp)
            have hl4 : (acc ++ [32] ++ x.data.toList).length = acc.length + 1 + x.size := by rw [List.length_append, List.length_append]; simp
            rw [h1z] at hr2
            obtain ⟨a4, ha4⟩ : ∃ a4, acc ++ [32] ++ x.data.toList = a4 := ⟨_, rfl⟩
            rw [ha4] at HB4 HA4 hl4
            clear B3 B4 HJ ha4
            go_wp2_with (at_builtin; first | refine Lib.wpList_copy_run _ rfl _ _ 22 9 rfl _ _ rfl rfl hr2 ?_ | refine Lib.wpList_copy_run _ rfl _ _ 22 9 rfl _ _ rfl rfl hr3 ?_)
            go_roundw
            case rel => exact ⟨k + 1, a4, by omega, by go_num, by rw [hl4]; go_num, HA4, HB4⟩
            case measure => simp [intOf]; omega
        · obtain rfl : k = L.length := by omega
          have g1 : decide ((L.length : Int) < (L.length : Int)) = false := by simp
          have hfit : acc.length + 1 ≤ N := by
            rw [List.take_length] at hlen hle
            omega
          have h1z : (⟨#[41]⟩ : ByteArray).size = 1 := rfl
          have hsl1 : ∀ W, (Instr.slice 22 (.slice (some ⟨w0.heap.size, 0, none⟩) N N) (some (.int .i64 (acc.length : Int))) none none).run Tryz.prog W = .ok (Lib.tailV w0.heap.size N acc.length) W := fun W => Lib.run_slice_tailV W 22 5 Tryz.underlying22 (fun w => by kernel_rfl) _ N acc.length (by omega)
          obtain ⟨w3, hr2, B3⟩ := copy_str (P := Tryz.prog) w0 wr w0.heap.size N acc ⟨#[41]⟩ 22 9 3 5 Tryz.underlying22 (by kernel_rfl) HB.out (by rw [h1z]; omega)
          rw [h1z] at hr2
          have hbk := buf_back B3 22 9 5 N (acc.length + 1) (by simp) Tryz.underlying22 Tryz.underlying5 Tryz.underlying9
          have HF : Hid (acc ++ [41] = listT (bytesL L)) := Lib.hid (by rw [HA.out, List.take_length]; rfl)
          have HB3 := Lib.hid B3.below
          have e1 : ((⟨#[41]⟩ : ByteArray).data.toList) = [41] := rfl
          rw [e1] at hbk
          obtain ⟨a3, ha3⟩ : ∃ a3, acc ++ [41] = a3 := ⟨_, rfl⟩
          rw [ha3] at hbk HF
          have j1 : (0 : Int) ≤ (acc.length : Int) + 1 := by omega
          have j2 : (acc.length : Int) + 1 ≤ (N : Int) := by omega
          clear B3 ha3 HA hlen hle hT hNN
          go_wp2_with (at_builtin; refine Lib.wpList_copy_run _ rfl _ _ 22 9 rfl _ _ rfl rfl hr2 ?_)
          go_ret
          exact ⟨by rw [← HF.out]; rfl, HB3.out⟩
end Go.Proofs.YtgebkpnieailbaaGreatDoor

/-
  The walk of impl.Find: the first index of a sublist.
-/
namespace Go.Proofs.YtgebkpnieailbaaGreatDoor
set_option linter.unusedVariables false
open Go.RowKit

/-- The library's variable holds some number. -/
def MaxLenAt (w : World) : Prop := ∃ m : Int, w.cell? ⟨0, 0, none⟩ = some (.int .i64 m)
theorem maxLenAt_of_shaped {w : World} (h : w.ShapedOpen Tryz.prog) : MaxLenAt w :=
  Go.Proofs.cell_of_shapedOpen_int (zero := #[.int .i64 0]) (t := 3) h (of_decide_eq_true (by kernel_rfl)) (by kernel_rfl) rfl (by kernel_rfl) (by kernel_rfl) Tryz.underlying3
theorem MaxLenAt.lt {w : World} (h : MaxLenAt w) : 0 < w.heap.size := by
  obtain ⟨m, hm⟩ := h
  exact block_lt_of_cell hm
theorem MaxLenAt.below {B : Nat} {w w' : World} (h : MaxLenAt w) (hb : Below B w w') (hB : 0 < B) : MaxLenAt w' := by
  obtain ⟨m, hm⟩ := h
  exact ⟨m, (hb.cell (p := ⟨0, 0, none⟩) hB).trans hm⟩
theorem MaxLenAt.after {w w' : World} (h : MaxLenAt w) (hb : Below w.heap.size w w') : MaxLenAt w' := h.below hb h.lt

set_option maxHeartbeats 400000 in
theorem implFind_any (s t : ByteArray) (w : World) (hm : MaxLenAt w) (hs : s.size < 4294967281) :
    Calls Tryz.prog 92 #[.string s, .string t] w fun e w' => e = .returned (.int .i64 (Lib.index s.data.toList t.data.toList)) ∧ w' = w := by
  obtain ⟨m, hm⟩ := hm
  have HM := Lib.hid hm
  clear hm
  go_enter Tryz.func92, Tryz.ntmps92
  go_wp2_with (go_at_call 148; refine (Tryz.strings_Index _ _ m _ hs HM.out).mono ?_; rintro e w' ⟨rfl, rfl⟩)
  go_ret
  exact ⟨rfl, rfl⟩

end Go.Proofs.YtgebkpnieailbaaGreatDoor

/-
  What is asked of impl's Fields.
-/
namespace Go.Proofs.YtgebkpnieailbaaGreatDoor
set_option linter.unusedVariables false
open Go.RowKit

/-- What is asked of impl's Fields. -/
def FieldsIs : Prop := ∀ (s : ByteArray) (w : World), MaxLenAt w → s.size ≤ 1048576 → Calls Tryz.prog 28 #[.string s] w (GivesFls (fieldsL s.data.toList) w)
end Go.Proofs.YtgebkpnieailbaaGreatDoor

/-
  Header fields: what is written comes back; heads one behind the other; plain.
-/
namespace Go.Proofs.YtgebkpnieailbaaGreatDoor
set_option linter.unusedVariables false
open Go.RowKit

/-- No line end stands in it. -/
def noMark (l : List UInt8) : Prop := ∀ i : Nat, ¬ (l[i]? = some 13 ∧ l[i + 1]? = some 10)
theorem noMark_nil : noMark [] := fun i h => by simp at h
theorem noMark_append {a b : List UInt8} (ha : noMark a) (hb : noMark b) (h : ¬ (a.getLast? = some 13 ∧ b.head? = some 10)) : noMark (a ++ b) := by
  intro i ⟨h1, h2⟩
  rcases Nat.lt_or_ge (i + 1) a.length with h3 | h3
  · rw [List.getElem?_append_left (by omega)] at h1
    rw [List.getElem?_append_left h3] at h2
    exact ha i ⟨h1, h2⟩
  · rcases Nat.lt_or_ge i a.length with h4 | h4
    · rw [List.getElem?_append_left h4] at h1
      rw [List.getElem?_append_right h3, show i + 1 - a.length = 0 by omega] at h2
      refine h ⟨?_, ?_⟩
      · rw [List.getLast?_eq_getElem?, show a.length - 1 = i by omega]
        exact h1
      · rw [List.head?_eq_getElem?]
        exact h2
    · rw [List.getElem?_append_right h4] at h1
      rw [List.getElem?_append_right h3, show i + 1 - a.length = i - a.length + 1 by omega] at h2
      exact hb _ ⟨h1, h2⟩
theorem noMark_infix {a l : List UInt8} (h : a <:+: l) (hl : noMark l) : noMark a := by
  obtain ⟨x, y, rfl⟩ := h
  intro i ⟨h1, h2⟩
  have b1 : i + 1 < a.length := (List.getElem?_eq_some_iff.1 h2).1
  refine hl (x.length + i) ⟨?_, ?_⟩
  · rw [List.append_assoc, List.getElem?_append_right (by omega), show x.length + i - x.length = i by omega, List.getElem?_append_left (by omega)]
    exact h1
  · rw [List.append_assoc, List.getElem?_append_right (by omega), show x.length + i + 1 - x.length = i + 1 by omega, List.getElem?_append_left (by omega)]
    exact h2
theorem noMark_one (b : UInt8) : noMark [b] := fun i ⟨h1, h2⟩ => by
  have := (List.getElem?_eq_some_iff.1 h2).1
  simp at this
theorem noMark_two {b c : UInt8} {r : List UInt8} (h : noMark (b :: c :: r)) : ¬ (b = 13 ∧ c = 10) := fun ⟨h1, h2⟩ => h 0 ⟨by simp [h1], by simp [h2]⟩
theorem noMark_tail {b : UInt8} {r : List UInt8} (h : noMark (b :: r)) : noMark r := fun i ⟨h1, h2⟩ => h (i + 1) ⟨by simpa using h1, by simpa using h2⟩

/-- A line without a line end in it, and its end. -/
theorem linesA_line : ∀ (x acc r : List UInt8), noMark x → linesA acc (x ++ 13 :: 10 :: r) = (acc ++ x) :: linesA [] r
  | [], acc, r, _ => by rw [List.nil_append, linesA, if_pos ⟨rfl, rfl⟩, List.append_nil]
  | [b], acc, r, h => by
    rw [List.cons_append, List.nil_append, linesA, if_neg (by rintro ⟨_, h2⟩; cases h2), linesA, if_pos ⟨rfl, rfl⟩]
  | b :: c :: x, acc, r, h => by
    have ih := linesA_line (c :: x) (acc ++ [b]) r (noMark_tail h)
    rw [List.cons_append, List.cons_append, linesA, if_neg (noMark_two h)]
    rw [List.cons_append] at ih
    rw [ih, List.append_assoc]
    rfl
/-- In no line stands a line end. -/
theorem linesA_noMark : ∀ (n : Nat) (acc l : List UInt8), l.length ≤ n → noMark acc → ¬ (acc.getLast? = some 13 ∧ l.head? = some 10) → ∀ x ∈ linesA acc l, noMark x
  | n, acc, [], _, ha, _ => by
    rw [linesA]
    split
    · simp
    · intro x hx
      rw [List.mem_singleton.1 hx]
      exact ha
  | n, acc, [b], _, ha, hb => by
    rw [linesA]
    intro x hx
    rw [List.mem_singleton.1 hx]
    exact noMark_append ha (noMark_one b) hb
  | 0, acc, b :: c :: r, h, _, _ => by simp at h
  | n + 1, acc, b :: c :: r, h, ha, hb => by
    rw [linesA]
    simp at h
    split
    · intro x hx
      rcases List.mem_cons.1 hx with rfl | hx
      · exact ha
      · exact linesA_noMark n [] r (by omega) noMark_nil (by simp) x hx
    · rename_i hn
      refine linesA_noMark n (acc ++ [b]) (c :: r) (by simp; omega) (noMark_append ha (noMark_one b) hb) ?_
      intro ⟨h1, h2⟩
      simp at h1 h2
      exact hn ⟨h1, h2⟩
theorem blank_ne_ten {l : List UInt8} (h : blankHead l = true) : l.head? ≠ some 10 := by
  cases l with
  | nil => simp
  | cons b r =>
    intro h2
    have h3 : b = 10 := by simpa using h2
    subst h3
    change blankB 10 = true at h
    revert h
    decide
theorem addLine_noMark {t : List (List UInt8)} {l : List UInt8} (ht : ∀ x ∈ t, noMark x) (hl : noMark l) : ∀ x ∈ addLine t l, noMark x := by
  unfold addLine
  split
  · rename_i h
    intro x hx
    rw [Bool.and_eq_true] at h
    rcases List.mem_or_eq_of_mem_set hx with hx | rfl
    · exact ht x hx
    · refine noMark_append ?_ hl (fun ⟨_, h2⟩ => blank_ne_ten h.1 h2)
      have hp : 0 < t.length := by simpa using h.2
      rw [List.getD_eq_getElem?_getD, List.getElem?_eq_getElem (by omega)]
      exact ht _ (List.getElem_mem _)
  · intro x hx
    rcases List.mem_append.1 hx with hx | hx
    · exact ht x hx
    · rw [List.mem_singleton.1 hx]; exact hl
theorem joinT_noMark : ∀ (ls t : List (List UInt8)), (∀ x ∈ t, noMark x) → (∀ x ∈ ls, noMark x) → ∀ x ∈ joinT t ls, noMark x
  | [], t, ht, _ => by rw [joinT]; exact ht
  | l :: r, t, ht, hl => by
    rw [joinT]
    exact joinT_noMark r _ (addLine_noMark ht (hl l List.mem_cons_self)) (fun x hx => hl x (List.mem_cons_of_mem _ hx))

theorem trimS_infix (l cs : List UInt8) : Lib.trimS l cs <:+: l := by
  unfold Lib.trimS Lib.trimLeftS Lib.trimRightS
  have h1 := List.dropWhile_suffix (l := (List.dropWhile (cs.contains ·) l.reverse).reverse) (cs.contains ·)
  have h2 := List.dropWhile_suffix (l := l.reverse) (cs.contains ·)
  have h3 : (List.dropWhile (cs.contains ·) l.reverse).reverse <+: l := by
    have := List.reverse_prefix.2 h2
    rwa [List.reverse_reverse] at this
  exact h1.isInfix.trans h3.isInfix
theorem dw_left (p : UInt8 → Bool) (l : List UInt8) (a : UInt8) (ha : p a = true) : ((a :: l).reverse.dropWhile p).reverse.dropWhile p = (l.reverse.dropWhile p).reverse.dropWhile p := by
  rw [List.reverse_cons, List.dropWhile_append]
  cases hd : l.reverse.dropWhile p with
  | nil => simp [ha]
  | cons x xs => simp [ha]
theorem trimS_left (l cs : List UInt8) (a : UInt8) (ha : cs.contains a = true) : Lib.trimS (a :: l) cs = Lib.trimS l cs := dw_left (cs.contains ·) l a ha

/-- A field as it is told. -/
structure Good (f : Fl) : Prop where
  some : f.name ≠ []
  signs : f.name.all nameB = true
  colon : ∀ b ∈ f.name, b ≠ 58
  trimmed : Lib.trimS f.body [32, 9] = f.body
  line : noMark f.body
theorem occ_one (l : List UInt8) (b : UInt8) (j : Nat) : Lib.occAt l [b] j = true ↔ l[j]? = some b := by
  unfold Lib.occAt
  rw [List.isPrefixOf_iff_prefix]
  rcases Nat.lt_or_ge j l.length with h | h
  · rw [List.drop_eq_getElem_cons h, List.getElem?_eq_getElem h]
    constructor
    · rintro ⟨t, ht⟩
      rw [(List.cons.inj (show b :: t = l[j] :: l.drop (j + 1) from ht)).1]
    · intro h2
      exact ⟨l.drop (j + 1), by simp [Option.some.inj h2]⟩
  · rw [List.drop_eq_nil_of_le h, List.getElem?_eq_none h]
    simp
theorem fieldOf_good {t : List UInt8} {f : Fl} (h : fieldOf t = Option.some f) (ht : noMark t) : Good f := by
  unfold fieldOf at h
  split at h
  · cases h
  · rename_i h1
    split at h
    · rename_i h2
      obtain rfl := Option.some.inj h
      rcases Lib.index_spec t [58] with ⟨h3, _⟩ | ⟨i, h3, h4, h5, h6⟩
      · omega
      · rw [h3] at h2 ⊢
        rw [show ((i : Int)).toNat = i by omega] at h2 ⊢
        refine ⟨?_, h2, ?_, trim_twice _ _, noMark_infix ((trimS_infix _ _).trans (List.drop_suffix _ _).isInfix) ht⟩
        · intro he
          have := congrArg List.length he
          have h7 := (List.getElem?_eq_some_iff.1 ((occ_one t 58 i).1 h5)).1
          rw [List.length_take, List.length_nil] at this
          omega
        · intro b hb he
          subst he
          obtain ⟨j, hj, hjb⟩ := List.mem_iff_getElem.1 hb
          rw [List.length_take] at hj
          rw [List.getElem_take] at hjb
          have := h6 j (by omega)
          rw [(occ_one t 58 j).2 (by rw [List.getElem?_eq_getElem (by omega), hjb])] at this
          cases this
    · cases h
theorem fieldsL_good (s : List UInt8) : ∀ f ∈ fieldsL s, Good f := by
  intro f hf
  unfold fieldsL at hf
  obtain ⟨t, ht, hft⟩ := List.mem_filterMap.1 hf
  exact fieldOf_good hft (joinT_noMark _ [] (by simp) (linesA_noMark s.length [] s (Nat.le_refl _) noMark_nil (by simp)) t ht)

/-- A field's line. -/
def textF (f : Fl) : List UInt8 := f.name ++ [58, 32] ++ f.body
theorem putF_text (f : Fl) : putF f = textF f ++ [13, 10] := rfl
theorem nameB_no (b : UInt8) (h : nameB b = true) : b ≠ 13 ∧ b ≠ 10 ∧ blankB b = false := by
  unfold nameB at h
  simp at h
  refine ⟨?_, ?_, ?_⟩
  · rintro rfl; simp at h
  · rintro rfl; simp at h
  · rw [← Bool.not_eq_true]
    intro hb
    have := (blankB_iff b).1 hb
    omega
theorem Good.noMark {f : Fl} (h : Good f) : noMark (textF f) := by
  have hn : ∀ i : Nat, f.name[i]? ≠ Option.some 13 := fun i hi => by
    have hm := List.mem_iff_getElem?.2 ⟨i, hi⟩
    exact (nameB_no 13 (List.all_eq_true.1 h.signs _ hm)).1 rfl
  unfold textF
  refine noMark_append (noMark_append (fun i hi => hn i hi.1) (fun i hi => ?_) (fun hi => by simp at hi)) h.line (fun hi => by simp at hi)
  match i with
  | 0 => simp at hi
  | 1 => simp at hi
  | i + 2 => simp at hi
end Go.Proofs.YtgebkpnieailbaaGreatDoor

/-
  Header fields: what is written is read; heads one behind the other; plain.
-/
namespace Go.Proofs.YtgebkpnieailbaaGreatDoor
set_option linter.unusedVariables false
open Go.RowKit

theorem linesA_put : ∀ (l : List Fl) (y : List UInt8), (∀ f ∈ l, Good f) → linesA [] (putL l ++ y) = l.map textF ++ linesA [] y
  | [], y, _ => rfl
  | f :: r, y, h => by
    have h1 := linesA_line (textF f) [] (putL r ++ y) (h f List.mem_cons_self).noMark
    rw [putL_cons, putF_text, List.map_cons, List.cons_append]
    rw [show textF f ++ [13, 10] ++ putL r ++ y = textF f ++ 13 :: 10 :: (putL r ++ y) by simp, h1, List.nil_append, linesA_put r y (fun g hg => h g (List.mem_cons_of_mem _ hg))]
theorem Good.head {f : Fl} (h : Good f) : blankHead (textF f) = false := by
  unfold textF
  cases hn : f.name with
  | nil => exact absurd hn h.some
  | cons b r =>
    have hs := h.signs
    rw [hn] at hs
    simp at hs
    exact (nameB_no b hs.1).2.2
theorem addLine_no {t : List (List UInt8)} {l : List UInt8} (h : blankHead l = false) : addLine t l = t ++ [l] := by
  unfold addLine
  rw [h]
  rfl
theorem joinT_put : ∀ (l : List Fl) (T ls : List (List UInt8)), (∀ f ∈ l, Good f) → joinT T (l.map textF ++ ls) = joinT (T ++ l.map textF) ls
  | [], T, ls, _ => by simp
  | f :: r, T, ls, h => by
    rw [List.map_cons, List.cons_append, joinT, addLine_no (h f List.mem_cons_self).head, joinT_put r _ ls (fun g hg => h g (List.mem_cons_of_mem _ hg)), List.append_assoc]
    rfl
theorem addLine_behind (T u : List (List UInt8)) (l : List UInt8) (hu : u ≠ []) : addLine (T ++ u) l = T ++ addLine u l ∧ addLine u l ≠ [] := by
  have hp : 0 < u.length := List.length_pos_iff.2 hu
  unfold addLine
  cases hb : blankHead l with
  | false =>
    refine ⟨?_, ?_⟩
    · simp
    · simp
  | true =>
    rw [List.length_append, decide_eq_true (show 0 < T.length + u.length by omega), decide_eq_true hp]
    simp only [Bool.and_self, if_true]
    refine ⟨?_, ?_⟩
    · rw [List.getD_eq_getElem?_getD, List.getD_eq_getElem?_getD, List.getElem?_append_right (by omega), List.set_append_right _ _ (by omega), show T.length + u.length - 1 - T.length = u.length - 1 by omega]
    · intro he
      have := congrArg List.length he
      rw [List.length_set, List.length_nil] at this
      omega
theorem joinT_behind : ∀ (ls T u : List (List UInt8)), u ≠ [] → joinT (T ++ u) ls = T ++ joinT u ls
  | [], T, u, _ => by rw [joinT, joinT]
  | l :: r, T, u, hu => by
    obtain ⟨h1, h2⟩ := addLine_behind T u l hu
    rw [joinT, joinT, h1, joinT_behind r T _ h2]
/-- A head behind another one, where its first line doesn't go on. -/
theorem joinT_two (l : List Fl) (u : List UInt8) (ls : List (List UInt8)) (h : ∀ f ∈ l, Good f) (hu : blankHead u = false) : joinT [] (l.map textF ++ u :: ls) = l.map textF ++ joinT [] (u :: ls) := by
  rw [joinT_put l [] _ h, List.nil_append, joinT, joinT, addLine_no hu, addLine_no hu, List.nil_append, joinT_behind _ _ _ (by simp)]

theorem fieldOf_text (f : Fl) (e : List UInt8) (h : Good f) : fieldOf (textF f ++ e) = some ⟨f.name, Lib.trimS (f.body ++ e) [32, 9]⟩ := by
  have hpos : 0 < f.name.length := List.length_pos_iff.2 h.some
  have e0 : textF f ++ e = f.name ++ 58 :: 32 :: (f.body ++ e) := by simp [textF]
  have hix : Lib.index (textF f ++ e) [58] = (f.name.length : Nat) := by
    refine Lib.index_first ?_ ?_ ?_
    · rw [e0, List.length_append]; omega
    · rw [occ_one, e0, List.getElem?_append_right (Nat.le_refl _), Nat.sub_self]
      rfl
    · intro j hj
      rw [← Bool.not_eq_true, occ_one, e0, List.getElem?_append_left hj]
      intro h2
      exact h.colon 58 (List.mem_iff_getElem?.2 ⟨j, h2⟩) rfl
  have ht : (textF f ++ e).take f.name.length = f.name := by rw [e0, List.take_left]
  have hd : (textF f ++ e).drop (f.name.length + 1) = 32 :: (f.body ++ e) := by
    rw [e0, ← List.drop_drop, List.drop_left]
    rfl
  unfold fieldOf
  rw [hix, if_neg (by omega), show ((f.name.length : Nat) : Int).toNat = f.name.length by omega, ht, h.signs, if_pos rfl, hd, trimS_left _ _ _ (by decide)]
theorem fieldOf_text0 (f : Fl) (h : Good f) : fieldOf (textF f) = some f := by
  have := fieldOf_text f [] h
  rw [List.append_nil, List.append_nil, h.trimmed] at this
  exact this
theorem filter_text : ∀ (l : List Fl), (∀ f ∈ l, Good f) → (l.map textF).filterMap fieldOf = l
  | [], _ => rfl
  | f :: r, h => by
    rw [List.map_cons, List.filterMap_cons, fieldOf_text0 f (h f List.mem_cons_self), filter_text r (fun g hg => h g (List.mem_cons_of_mem _ hg))]

/-- Fields come back from how they are written. -/
theorem fields_put (l : List Fl) (h : ∀ f ∈ l, Good f) : fieldsL (putL l) = l := by
  have h1 := linesA_put l [] h
  rw [List.append_nil] at h1
  unfold fieldsL
  rw [h1, show linesA [] [] = [] by rw [linesA]; rfl, joinT_put l [] [] h, List.nil_append, joinT, filter_text l h]
/-- .. of heads one behind the other too. -/
theorem fields_two (l : List Fl) (u y : List UInt8) (h : ∀ f ∈ l, Good f) (hu : blankHead u = false) (hm : noMark u) : fieldsL (putL l ++ (u ++ 13 :: 10 :: y)) = l ++ fieldsL (u ++ 13 :: 10 :: y) := by
  unfold fieldsL
  rw [linesA_put l _ h, linesA_line u [] y hm, List.nil_append, joinT_two l u _ h hu, List.filterMap_append, filter_text l h]
/-- A line that goes on belongs to the one ahead. -/
theorem fields_more (l : List Fl) (f : Fl) (u : List UInt8) (h : ∀ g ∈ l, Good g) (hf : Good f) (hu : blankHead u = true) (hm : noMark u) :
    fieldsL (putL (l ++ [f]) ++ (u ++ [13, 10])) = l ++ [⟨f.name, Lib.trimS (f.body ++ u) [32, 9]⟩] := by
  have h2 : ∀ g ∈ l ++ [f], Good g := fun g hg => (List.mem_append.1 hg).elim (h g) (fun hg => by rw [List.mem_singleton.1 hg]; exact hf)
  unfold fieldsL
  rw [linesA_put _ _ h2, linesA_line u [] [] hm, show linesA [] [] = [] by rw [linesA]; rfl, joinT_put _ _ _ h2, List.nil_append, List.nil_append, joinT, joinT]
  rw [List.map_append, List.map_cons, List.map_nil, (addLine_behind _ _ _ (by simp)).1]
  rw [List.filterMap_append, filter_text l h]
  unfold addLine
  rw [hu]
  simp only [List.length_cons, List.length_nil, Bool.true_and]
  rw [if_pos (by simp)]
  simp only [Nat.zero_add, Nat.sub_self, List.set_cons_zero, List.getD_cons_zero]
  rw [List.filterMap_cons, fieldOf_text f u hf]
  rfl
/-- .. and to none where there is none. -/
theorem fields_lone (u : List UInt8) (hm : noMark u) (hc : ∀ b ∈ u, b ≠ 58) : fieldsL (u ++ [13, 10]) = [] := by
  unfold fieldsL
  rw [linesA_line u [] [] hm, show linesA [] [] = [] by rw [linesA]; rfl, List.nil_append, joinT, joinT]
  have ha : addLine [] u = [u] := by
    unfold addLine
    simp
  rw [ha, List.filterMap_cons]
  have hix : Lib.index u [58] = -1 := Lib.index_none (fun j hj => by
    rw [← Bool.not_eq_true, occ_one]
    intro h2
    exact hc 58 (List.mem_iff_getElem?.2 ⟨j, h2⟩) rfl)
  unfold fieldOf
  rw [hix, if_pos (by omega)]
  rfl
theorem joinT_first : ∀ (ls : List (List UInt8)) (u : List UInt8), ∃ e r, joinT [u] ls = (u ++ e) :: r
  | [], u => ⟨[], [], by rw [joinT, List.append_nil]⟩
  | l :: r, u => by
    rw [joinT]
    cases hb : blankHead l with
    | false =>
      rw [addLine_no hb]
      have := joinT_behind r [u] [l] (by simp)
      rw [show ([u] : List (List UInt8)) ++ [l] = [u] ++ [l] from rfl, this]
      exact ⟨[], joinT [l] r, by rw [List.append_nil]; rfl⟩
    | true =>
      have ha : addLine [u] l = [u ++ l] := by
        unfold addLine
        rw [hb]
        rfl
      rw [ha]
      obtain ⟨e, r2, h2⟩ := joinT_first r (u ++ l)
      exact ⟨l ++ e, r2, by rw [h2, List.append_assoc]⟩
/-- A head that begins with a field has one. -/
theorem fields_some (f : Fl) (y : List UInt8) (h : Good f) : 1 ≤ (fieldsL (textF f ++ 13 :: 10 :: y)).length := by
  unfold fieldsL
  rw [linesA_line (textF f) [] y h.noMark, List.nil_append, joinT, addLine_no h.head, List.nil_append]
  obtain ⟨e, r, h2⟩ := joinT_first (linesA [] y) (textF f)
  rw [h2, List.filterMap_cons, fieldOf_text f e h]
  simp
end Go.Proofs.YtgebkpnieailbaaGreatDoor

/-
  The iterator of impl.pieces: it hands on the parts of a text between the occurrences of a mark, one by one.
-/
namespace Go.Proofs.YtgebkpnieailbaaGreatDoor
set_option linter.unusedVariables false
open Go.RowKit Go.Shelf
attribute [local go_sem] Oper.semAt_some

/-- The parts of r between occurrences of m. -/
inductive Pcs (m : ByteArray) : ByteArray → List ByteArray → Prop
  | last (r : ByteArray) (h : Lib.index r.data.toList m.data.toList < 0) : Pcs m r [r]
  | more (r : ByteArray) (i : Nat) (ps : List ByteArray) (h : Lib.index r.data.toList m.data.toList = (i : Int)) (hi : i + m.size ≤ r.size) (t : Pcs m (r.extract (i + m.size) r.size) ps) : Pcs m r (r.extract 0 i :: ps)

theorem index_facts (r m : ByteArray) (i : Nat) (h : Lib.index r.data.toList m.data.toList = (i : Int)) :
    i ≤ r.size ∧ Lib.occAt r.data.toList m.data.toList i = true ∧ ∀ j, j < i → Lib.occAt r.data.toList m.data.toList j = false := by
  rcases Lib.index_spec r.data.toList m.data.toList with ⟨h1, _⟩ | ⟨k, h1, h2, h3, h4⟩
  · omega
  · obtain rfl : k = i := by omega
    exact ⟨by simpa using h2, h3, h4⟩
theorem index_neg (r m : ByteArray) (h : Lib.index r.data.toList m.data.toList < 0) (j : Nat) (hj : j ≤ r.size) : Lib.occAt r.data.toList m.data.toList j = false := by
  rcases Lib.index_spec r.data.toList m.data.toList with ⟨_, h2⟩ | ⟨k, h1, _, _, _⟩
  · exact h2 j (by simpa using hj)
  · omega
theorem index_room (r m : ByteArray) (i : Nat) (h : Lib.index r.data.toList m.data.toList = (i : Int)) : i + m.size ≤ r.size := by
  have h1 := Lib.index_room r.data.toList m.data.toList (by omega)
  rw [h] at h1
  simp at h1
  omega

theorem Pcs.pos {m r : ByteArray} {ps : List ByteArray} (h : Pcs m r ps) : 0 < ps.length := by
  cases h <;> simp

/-- Two blocks stay as they are. -/
def Keep2 (a b : Nat) (W W' : World) : Prop := W'.heap[a]? = W.heap[a]? ∧ W'.heap[b]? = W.heap[b]?
theorem Keep2.trans {a b : Nat} {A B C : World} (h : Keep2 a b A B) (k : Keep2 a b B C) : Keep2 a b A C := ⟨k.1.trans h.1, k.2.trans h.2⟩
theorem Keep2.of_below {a b B : Nat} {W W' : World} (h : Below B W W') (ha : a < B) (hb : b < B) : Keep2 a b W W' := ⟨h.block a ha, h.block b hb⟩
theorem Keep2.putObj {a b n : Nat} (ha : a < n) (hb : b < n) (W : World) (l : Nat) (o o' : Obj) (hl : n ≤ l) (_ : W.heap[l]? = some o) (_ : o.isCells = false) (_ : o.isWalk = false) : Keep2 a b W (W.putObj l o') :=
  ⟨World.putObj_heap_other (by omega), World.putObj_heap_other (by omega)⟩
theorem cell_of_heap {W W' : World} {a : Nat} (h : W'.heap[a]? = W.heap[a]?) (j : Nat) : W'.cell? ⟨a, j, none⟩ = W.cell? ⟨a, j, none⟩ := by
  simp only [World.cell?, h]
theorem MaxLenAt.keep {b : Nat} {W W' : World} (h : MaxLenAt W) (k : Keep2 0 b W W') : MaxLenAt W' := by
  obtain ⟨m, hm⟩ := h
  exact ⟨m, (cell_of_heap k.1 0).trans hm⟩

set_option maxRecDepth 100000 in
set_option maxHeartbeats 1000000 in
theorem pieces1_in (n : Nat) (hn : 1 ≤ n) (l Bs Bm : Nat) (m s : ByteArray) (full : List ByteArray) (hps : Pcs m s full) (J Jx : List ByteArray → World → Prop)
    (hs : s.size < 4294967281) (hm1 : 1 ≤ m.size)
    (hY : ∀ pre x W, J pre W → pre ++ [x] <+: full → YieldAt Fence.wide (n - 1) Tryz.prog l #[.string x] W fun e W' =>
      (e = .returned (.bool true) ∧ J (pre ++ [x]) W' ∧ Keep2 0 Bm W W') ∨ (e = .returned (.bool false) ∧ Jx (pre ++ [x]) W'))
    (W : World) (hcs : W.cell? ⟨Bs, 0, none⟩ = some (.string s)) (hcm : W.cell? ⟨Bm, 0, none⟩ = some (.string m)) (hML : MaxLenAt W) (h0 : J [] W) :
    CallsIn Fence.wide n Tryz.prog 127 #[.func (.yield l) #[] #[], .pointer (some ⟨Bs, 0, none⟩), .pointer (some ⟨Bm, 0, none⟩)] W fun e W' => (∃ v, e = .returned v) ∧
      ((∃ ys, ys = full ∧ J ys W') ∨ (∃ pre, pre <+: full ∧ Jx pre W')) := by
  have HML := Lib.hid hML
  clear hML
  refine callsIn_of_wp Tryz.func127 rfl trivial ?_ rfl
  simp only [Tryz.ntmps127, List.size_toArray, List.length_cons, List.length_nil, Nat.reduceAdd, Nat.reduceSub, Array.replicate_succ, Array.replicate_zero, List.push_toArray, List.append_toArray, List.nil_append, List.cons_append]
  gi_wp2_with (refine ⟨trivial, ?_⟩; gi_at_call 92; refine (callsIn_wide.2 (implFind_any _ _ _ HML.out hs)).mono ?_; rintro e w' ⟨rfl, rfl⟩)
  gi_loopw [4, 5] (fun r i wr => ∃ (pre ps : List ByteArray) (q : ByteArray), r = .string q ∧ i = .int .i64 (Lib.index q.data.toList m.data.toList) ∧ Hid (full = pre ++ ps) ∧ Hid (Pcs m q ps) ∧ q.size < 4294967281 ∧ J pre wr ∧ wr.cell? ⟨Bm, 0, none⟩ = some (.string m) ∧ Hid (MaxLenAt wr))
    (fun r _ _ => match r with | .string q => q.size | _ => 0)
  case atStart =>
    exact ⟨[], full, s, rfl, rfl, Lib.hid rfl, Lib.hid hps, hs, h0, hcm, HML⟩
  case round =>
    obtain ⟨pre, ps, q, rfl, rfl, hx, hp, hq, hJs, hcm1, hML1⟩ := hrel
    rcases hp.out with ⟨r, hneg⟩ | ⟨r, i, ps', hi, hroom, ht⟩
    · obtain ⟨fn, tmps, assign, body, hy, hR⟩ := hY pre q wr hJs (by rw [hx.out]; exact List.prefix_refl _)
      generalize hix : Lib.index q.data.toList m.data.toList = ix at *
      gi_wp2
      refine hR.mono ?_
      rintro e W3 (⟨rfl, hJ3, hk3⟩ | ⟨rfl, hJx3⟩)
      · gi_wp2
        go_end0
        exact ⟨⟨_, rfl⟩, .inl ⟨_, hx.out.symm, hJ3⟩⟩
      · gi_wp2
        go_end0
        exact ⟨⟨_, rfl⟩, .inr ⟨_, by rw [hx.out]; exact List.prefix_refl _, hJx3⟩⟩
    · obtain ⟨fn, tmps, assign, body, hy, hR⟩ := hY pre (q.extract 0 i) wr hJs (by rw [hx.out]; exact ⟨ps', by simp⟩)
      rw [hi]
      have Hi := Lib.hid hi
      clear hi
      have hext : (q.extract (i + m.size) q.size).size ≤ q.size - (i + m.size) := by simp
      have HEXT := Lib.hid hext
      clear hext
      gi_wp2
      refine hR.mono ?_
      rintro e W3 (⟨rfl, hJ3, hk3⟩ | ⟨rfl, hJx3⟩)
      · have hcm3 : W3.cell? ⟨Bm, 0, none⟩ = some (.string m) := (cell_of_heap hk3.2 0).trans hcm1
        have HML3 := Lib.hid (hML1.out.keep hk3)
        gi_wp2_with (refine ⟨trivial, ?_⟩; gi_at_call 92; refine (callsIn_wide.2 (implFind_any _ _ _ HML3.out (by have := HEXT.out; omega))).mono ?_; rintro e w' ⟨rfl, rfl⟩)
        go_roundw
        case rel => exact ⟨pre ++ [q.extract 0 i], ps', _, rfl, by rw [Lib.extract_data], Lib.hid (by rw [hx.out]; simp), Lib.hid ht, by have := HEXT.out; omega, hJ3, hcm3, HML3⟩
        case measure => have := HEXT.out; simp; omega
      · gi_wp2
        refine bodyPost_ret (results_none rfl _ _ _) rfl ?_
        exact ⟨⟨_, rfl⟩, .inr ⟨pre ++ [q.extract 0 i], ⟨ps', by rw [hx.out]; simp⟩, hJx3⟩⟩

set_option maxHeartbeats 400000 in
/-- The iterator's value: its two arguments boxed. -/
theorem pieces_in (n : Nat) (s m : ByteArray) (w : World) :
    CallsIn Fence.wide n Tryz.prog 78 #[.string s, .string m] w fun e w' =>
      e = .returned (.func (.func 127) #[] #[.pointer (some ⟨w.heap.size, 0, none⟩), .pointer (some ⟨w.heap.size + 1, 0, none⟩)]) ∧
      w' = (w.alloc (.cells #[.string s] 9)).alloc (.cells #[.string m] 9) := by
  refine callsIn_of_wp Tryz.func78 rfl trivial ?_ rfl
  simp only [Tryz.ntmps78, List.size_toArray, List.length_cons, List.length_nil, Nat.reduceAdd, Nat.reduceSub, Array.replicate_succ, Array.replicate_zero, List.push_toArray, List.append_toArray, List.nil_append, List.cons_append]
  gi_wp2
  go_ret
  exact ⟨rfl, rfl⟩

theorem pieces_stops (n : Nat) (hn : 1 ≤ n) (Bs Bm : Nat) (m s : ByteArray) (full : List ByteArray) (hps : Pcs m s full) (hs : s.size < 4294967281) (hm1 : 1 ≤ m.size) (w : World)
    (hBs : Bs < w.heap.size) (hBm : Bm < w.heap.size) (hML : MaxLenAt w)
    (hcs : w.cell? ⟨Bs, 0, none⟩ = some (.string s)) (hcm : w.cell? ⟨Bm, 0, none⟩ = some (.string m)) :
    SeqStopsK Fence.wide n Tryz.prog 127 #[.pointer (some ⟨Bs, 0, none⟩), .pointer (some ⟨Bm, 0, none⟩)] (fun x : ByteArray => #[Value.string x]) (Keep2 0 Bm) (fun ys => ys = full) (fun pre => pre <+: full) full.length w := fun l J Jx W hW _ _ hY h0 =>
  pieces1_in n hn l Bs Bm m s full hps J Jx hs hm1 (fun pre x W1 h hp => hY pre x W1 h (by have := hp.length_le; simp at this; omega)) W ((hW.cell (p := ⟨Bs, 0, none⟩) hBs).trans hcs) ((hW.cell (p := ⟨Bm, 0, none⟩) hBm).trans hcm) (hML.after hW) h0

/-- Every text has parts. -/
theorem pcs_exists (m : ByteArray) (hm : 1 ≤ m.size) : ∀ (n : Nat) (r : ByteArray), r.size ≤ n → ∃ ps, Pcs m r ps := by
  intro n
  induction n with
  | zero =>
    intro r hr
    rcases Int.lt_or_le (Lib.index r.data.toList m.data.toList) 0 with h | h
    · exact ⟨_, .last r h⟩
    · exfalso
      obtain ⟨i, hi⟩ := Int.eq_ofNat_of_zero_le h
      have := index_room r m i hi
      omega
  | succ n ih =>
    intro r hr
    rcases Int.lt_or_le (Lib.index r.data.toList m.data.toList) 0 with h | h
    · exact ⟨_, .last r h⟩
    · obtain ⟨i, hi⟩ := Int.eq_ofNat_of_zero_le h
      have hroom := index_room r m i hi
      obtain ⟨ps, hp⟩ := ih (r.extract (i + m.size) r.size) (by simp; omega)
      exact ⟨_, .more r i ps hi hroom hp⟩
end Go.Proofs.YtgebkpnieailbaaGreatDoor

/-
  Plain: where the line ends of a text stand, and how many parts it has between them.
-/
namespace Go.Proofs.YtgebkpnieailbaaGreatDoor
set_option linter.unusedVariables false
open Go.RowKit

def crlf : ByteArray := ⟨#[13, 10]⟩
def occC (s : ByteArray) (k : Nat) : Bool := Lib.occAt s.data.toList crlf.data.toList k
/-- Line ends that begin ahead of k, and the place behind the last of them. -/
def crF (s : ByteArray) : Nat → Nat × Nat
  | 0 => (0, 0)
  | k + 1 => if occC s k then ((crF s k).1 + 1, k + 2) else crF s k
theorem crF_yes {s : ByteArray} {k : Nat} (h : occC s k = true) : crF s (k + 1) = ((crF s k).1 + 1, k + 2) := by simp [crF, h]
theorem crF_no {s : ByteArray} {k : Nat} (h : occC s k = false) : crF s (k + 1) = crF s k := by simp [crF, h]
theorem crF_run {s : ByteArray} (a : Nat) : ∀ d, (∀ j, a ≤ j → j < a + d → occC s j = false) → crF s (a + d) = crF s a := by
  intro d
  induction d with
  | zero => intro _; rfl
  | succ d ih =>
    intro h
    rw [← Nat.add_assoc, crF_no (h (a + d) (by omega) (by omega))]
    exact ih (fun j h1 h2 => h j h1 (by omega))
theorem occC_iff (s : ByteArray) (k : Nat) : occC s k = true ↔ s.data.toList[k]? = some 13 ∧ s.data.toList[k + 1]? = some 10 := by
  unfold occC Lib.occAt crlf
  rw [List.isPrefixOf_iff_prefix]
  constructor
  · rintro ⟨t, ht⟩
    have h0 : (s.data.toList.drop k)[0]? = some 13 := by rw [← ht]; rfl
    have h1 : (s.data.toList.drop k)[1]? = some 10 := by rw [← ht]; rfl
    rw [List.getElem?_drop] at h0 h1
    exact ⟨h0, h1⟩
  · rintro ⟨h0, h1⟩
    refine ⟨s.data.toList.drop (k + 2), ?_⟩
    obtain ⟨a, ha⟩ := List.getElem?_eq_some_iff.1 h0
    obtain ⟨b, hb⟩ := List.getElem?_eq_some_iff.1 h1
    rw [List.drop_eq_getElem_cons a, List.drop_eq_getElem_cons b, ha, hb]
    rfl
theorem occC_next {s : ByteArray} {k : Nat} (h : occC s k = true) : occC s (k + 1) = false := by
  rw [← Bool.not_eq_true]
  intro h2
  have := ((occC_iff s k).1 h).2
  rw [((occC_iff s (k + 1)).1 h2).1] at this
  cases this
theorem occC_late {s : ByteArray} {k : Nat} (h : s.size ≤ k + 1) : occC s k = false := by
  rw [← Bool.not_eq_true]
  intro h2
  have := ((occC_iff s k).1 h2).2
  obtain ⟨a, _⟩ := List.getElem?_eq_some_iff.1 this
  simp at a
  omega

theorem occ_suffix (s m : ByteArray) (o j : Nat) (ho : o ≤ s.size) : Lib.occAt (s.extract o s.size).data.toList m.data.toList j = Lib.occAt s.data.toList m.data.toList (o + j) := by
  unfold Lib.occAt
  rw [Lib.extract_data, List.drop_take, List.drop_drop]
  congr 1
  rw [List.take_of_length_le (by simp; omega)]

/-- What the parts of a suffix tell of the line ends from there on. -/
theorem pcs_lines (s : ByteArray) : ∀ (q : ByteArray) (ps : List ByteArray), Pcs crlf q ps → ∀ o n, o ≤ s.size → q = s.extract o s.size → crF s o = (n, o) →
    ∃ last, ps.getLast? = some last ∧ last.size ≤ s.size ∧ crF s s.size = (n + ps.length - 1, s.size - last.size) := by
  intro q ps hp
  induction hp with
  | last r h =>
    intro o n ho hq hf
    subst hq
    refine ⟨_, rfl, by simp, ?_⟩
    have : crF s (o + (s.size - o)) = crF s o := crF_run o (s.size - o) (fun j h1 h2 => by
      have := index_neg _ _ h (j - o) (by simp; omega)
      rw [occ_suffix s crlf o _ ho, show o + (j - o) = j by omega] at this
      exact this)
    rw [show o + (s.size - o) = s.size by omega] at this
    rw [this, hf]
    simp
    omega
  | more r i ps h hi _ ih =>
    intro o n ho hq hf
    subst hq
    obtain ⟨h1, h2, h3⟩ := index_facts _ _ _ h
    have hroom : i + 2 ≤ s.size - o := by
      have : crlf.size = 2 := rfl
      rw [this] at hi
      simpa using hi
    have hocc : occC s (o + i) = true := by rw [occ_suffix s crlf o i ho] at h2; exact h2
    have hrun : crF s (o + i) = crF s o := crF_run o i (fun j g1 g2 => by
      have := h3 (j - o) (by omega)
      rw [occ_suffix s crlf o _ ho, show o + (j - o) = j by omega] at this
      exact this)
    have hstep : crF s (o + i + 2) = (n + 1, o + i + 2) := by
      rw [show o + i + 2 = (o + i + 1) + 1 from rfl, crF_no (occC_next hocc), crF_yes hocc, hrun, hf]
    obtain ⟨last, g1, g2, g3⟩ := ih (o + i + 2) (n + 1) (by omega) (by
      have : crlf.size = 2 := rfl
      rw [this]
      apply ByteArray.ext
      apply Array.ext'
      rw [Lib.extract_data, Lib.extract_data, Lib.extract_data, List.drop_take, List.drop_drop, List.take_take]
      simp
      congr 1
      omega) hstep
    refine ⟨last, ?_, g2, ?_⟩
    · rw [List.getLast?_cons, g1]; rfl
    · rw [g3]
      simp
end Go.Proofs.YtgebkpnieailbaaGreatDoor

/-
  Header fields: lines gathered in groups; plain.
-/
namespace Go.Proofs.YtgebkpnieailbaaGreatDoor
set_option linter.unusedVariables false
open Go.RowKit

theorem noMark_of_index {l : List UInt8} (h : Lib.index l [13, 10] < 0) : noMark l := by
  intro i ⟨h1, h2⟩
  rcases Lib.index_spec l [13, 10] with ⟨_, hn⟩ | ⟨k, hk, _⟩
  · have hi : i < l.length := (List.getElem?_eq_some_iff.1 h1).1
    have := hn i (by omega)
    have ho : Lib.occAt l [13, 10] i = true := by
      unfold Lib.occAt
      rw [List.isPrefixOf_iff_prefix]
      have hi2 : i + 1 < l.length := (List.getElem?_eq_some_iff.1 h2).1
      refine ⟨l.drop (i + 2), ?_⟩
      rw [List.drop_eq_getElem_cons (by omega : i < l.length), List.drop_eq_getElem_cons (by omega : i + 1 < l.length)]
      rw [List.getElem?_eq_getElem (by omega)] at h1 h2
      rw [Option.some.inj h1, Option.some.inj h2]
      rfl
    rw [ho] at this
    cases this
  · omega
theorem linesA_lone : ∀ (x acc : List UInt8), noMark x → linesA acc x = if acc ++ x = [] then [] else [acc ++ x]
  | [], acc, _ => by rw [linesA, List.append_nil]
  | [b], acc, _ => by rw [linesA]; simp
  | b :: c :: r, acc, h => by
    rw [linesA, if_neg (noMark_two h), linesA_lone (c :: r) (acc ++ [b]) (noMark_tail h)]
    simp
/-- The parts between line ends are the lines, but for an empty one at the end. -/
theorem pcs_linesA {r : ByteArray} {ps : List ByteArray} (h : Pcs crlf r ps) : ps.map (·.data.toList) = linesA [] r.data.toList ∨ ps.map (·.data.toList) = linesA [] r.data.toList ++ [[]] := by
  induction h with
  | last r hn =>
    have hm := noMark_of_index (l := r.data.toList) hn
    rw [linesA_lone _ _ hm]
    by_cases he : r.data.toList = []
    · right; simp [he]
    · left; simp [he]
  | more r i ps hi hroom t ih =>
    obtain ⟨hle, hocc, hfirst⟩ := index_facts r crlf i hi
    have hlen : r.data.toList.length = r.size := by simp
    have h2 : crlf.size = 2 := rfl
    rw [h2] at hroom
    have hocc2 : Lib.occAt r.data.toList [13, 10] i = true := hocc
    have hp : [13, 10] <+: r.data.toList.drop i := by
      unfold Lib.occAt at hocc2
      rwa [List.isPrefixOf_iff_prefix] at hocc2
    obtain ⟨q, hq⟩ := hp
    have hq2 : r.data.toList.drop (i + 2) = q := by
      rw [← List.drop_drop, ← hq]
      rfl
    have hl : r.data.toList = r.data.toList.take i ++ 13 :: 10 :: r.data.toList.drop (i + 2) := by
      conv => lhs; rw [← List.take_append_drop i r.data.toList, ← hq]
      rw [hq2]
      rfl
    have hnm : noMark (r.data.toList.take i) := by
      intro j ⟨h1, h2'⟩
      have hj : j + 1 < i := by
        have := (List.getElem?_eq_some_iff.1 h2').1
        rw [List.length_take] at this
        omega
      rw [List.getElem?_take_of_lt (by omega)] at h1 h2'
      have := hfirst j (by omega)
      have ho : Lib.occAt r.data.toList crlf.data.toList j = true := by
        have := (occC_iff r j).2 ⟨h1, h2'⟩
        exact this
      rw [ho] at this
      cases this
    have e1 : (r.extract 0 i).data.toList = r.data.toList.take i := by rw [Lib.extract_data]; simp
    have e2 : (r.extract (i + crlf.size) r.size).data.toList = r.data.toList.drop (i + 2) := by
      rw [Lib.extract_data, h2, List.take_of_length_le (by simp)]
    rw [e2] at ih
    have hx := linesA_line (r.data.toList.take i) [] (r.data.toList.drop (i + 2)) hnm
    rw [← hl, List.nil_append] at hx
    rw [hx, List.map_cons, e1]
    rcases ih with ih | ih
    · left; rw [ih]
    · right; rw [ih]; rfl

theorem joinT_snoc : ∀ (ls T : List (List UInt8)) (l : List UInt8), joinT T (ls ++ [l]) = addLine (joinT T ls) l
  | [], T, l => rfl
  | x :: r, T, l => by rw [List.cons_append, joinT, joinT, joinT_snoc r]
theorem fieldOf_nil : fieldOf [] = none := by decide
/-- The fields of a text, by its parts. -/
theorem fields_pcs {r : ByteArray} {ps : List ByteArray} (h : Pcs crlf r ps) : (joinT [] (ps.map (·.data.toList))).filterMap fieldOf = fieldsL r.data.toList := by
  unfold fieldsL
  rcases pcs_linesA h with e | e
  · rw [e]
  · rw [e, joinT_snoc, addLine_no rfl, List.filterMap_append]
    simp [fieldOf_nil]

/-- A line goes on. -/
def goesB (ls : List (List UInt8)) (t : Nat) : Bool := blankHead (ls.getD t [])
/-- The groups of lines ahead of line k + 1, and where the next one begins. -/
def grpF (ls : List (List UInt8)) : Nat → List (Nat × Nat) × Nat
  | 0 => ([], 0)
  | t + 1 => if t + 1 = ls.length ∨ goesB ls (t + 1) = false then ((grpF ls t).1 ++ [((grpF ls t).2, t + 1)], t + 1) else grpF ls t
theorem grpF_cut {ls : List (List UInt8)} {t : Nat} (h : t + 1 = ls.length ∨ goesB ls (t + 1) = false) : grpF ls (t + 1) = ((grpF ls t).1 ++ [((grpF ls t).2, t + 1)], t + 1) := by rw [grpF, if_pos h]
theorem grpF_on {ls : List (List UInt8)} {t : Nat} (h1 : t + 1 ≠ ls.length) (h2 : goesB ls (t + 1) = true) : grpF ls (t + 1) = grpF ls t := by rw [grpF, if_neg (by rw [h2]; simp [h1])]
theorem grpF_le (ls : List (List UInt8)) : ∀ k, (grpF ls k).2 ≤ k ∧ (grpF ls k).1.length ≤ k ∧ ∀ x ∈ (grpF ls k).1, x.1 < x.2 ∧ x.2 ≤ k
  | 0 => by simp [grpF]
  | t + 1 => by
    obtain ⟨h1, h2, h3⟩ := grpF_le ls t
    rw [grpF]
    split
    · refine ⟨Nat.le_refl _, by simp; omega, fun x hx => ?_⟩
      rcases List.mem_append.1 hx with hx | hx
      · have := h3 x hx; omega
      · rw [List.mem_singleton.1 hx]
        simp
        omega
    · exact ⟨by omega, by omega, fun x hx => by have := h3 x hx; omega⟩
def textOf (ls : List (List UInt8)) (x : Nat × Nat) : List UInt8 := ((ls.take x.2).drop x.1).flatten
theorem textOf_more (ls : List (List UInt8)) (a k : Nat) (ha : a ≤ k) (hk : k < ls.length) : textOf ls (a, k + 1) = textOf ls (a, k) ++ ls.getD k [] := by
  unfold textOf
  simp only
  rw [List.take_add_one, List.getElem?_eq_getElem hk, List.drop_append_of_le_length (by simp; omega)]
  simp [List.getD_eq_getElem?_getD, hk]
theorem addLine_last (T : List (List UInt8)) (u l : List UInt8) (h : blankHead l = true) : addLine (T ++ [u]) l = T ++ [u ++ l] := by
  unfold addLine
  rw [h, if_pos (by simp)]
  simp [List.getD_eq_getElem?_getD]
theorem grp_joins (ls : List (List UInt8)) : ∀ k, k < ls.length → (grpF ls k).1.map (textOf ls) ++ [textOf ls ((grpF ls k).2, k + 1)] = joinT [] (ls.take (k + 1))
  | 0, h => by
    cases ls with
    | nil => simp at h
    | cons x r => simp [grpF, textOf, joinT, addLine]
  | t + 1, h => by
    have ih := grp_joins ls t (by omega)
    have hle := (grpF_le ls t).1
    have e : ls.take (t + 1 + 1) = ls.take (t + 1) ++ [ls.getD (t + 1) []] := by
      rw [List.take_add_one, List.getElem?_eq_getElem h]
      simp [List.getD_eq_getElem?_getD, h]
    rw [e, joinT_snoc, ← ih]
    cases hg : goesB ls (t + 1) with
    | true =>
      rw [grpF_on (by omega) hg, addLine_last _ _ _ hg, textOf_more _ _ _ (by omega) h]
    | false =>
      rw [grpF_cut (.inr hg), addLine_no hg, List.map_append]
      congr 1
      unfold textOf
      simp only
      rw [e, List.drop_append_of_le_length (by simp; omega), List.drop_of_length_le (by rw [List.length_take]; omega)]
      simp
theorem grp_all (ls : List (List UInt8)) (h : 0 < ls.length) : (grpF ls ls.length).1.map (textOf ls) = joinT [] ls := by
  obtain ⟨n, hn⟩ : ∃ n, ls.length = n + 1 := ⟨ls.length - 1, by omega⟩
  have := grp_joins ls n (by omega)
  rw [hn, grpF_cut (.inl hn.symm), List.map_append]
  rw [show ls.take (n + 1) = ls from List.take_of_length_le (by omega)] at this
  exact this
end Go.Proofs.YtgebkpnieailbaaGreatDoor

/-
  Header fields: the walks of impl's continues and groups.
-/
namespace Go.Proofs.YtgebkpnieailbaaGreatDoor
set_option linter.unusedVariables false
open Go.RowKit

theorem prefix_one (l : List UInt8) (b : UInt8) : Lib.hasPrefix l [b] = (l.head? == some b) := by
  cases l with
  | nil => rfl
  | cons x r =>
    rw [Bool.eq_iff_iff]
    unfold Lib.hasPrefix
    rw [List.isPrefixOf_iff_prefix, List.cons_prefix_cons, beq_iff_eq, List.head?_cons, Option.some.injEq]
    exact ⟨fun h => h.1.symm, fun h => ⟨h.symm, List.nil_prefix⟩⟩
set_option maxRecDepth 100000 in
theorem goes_any (s : ByteArray) (w : World) : Calls Tryz.prog 125 #[.string s] w fun e w' => e = .returned (.bool (blankHead s.data.toList)) ∧ w' = w := by
  have H1 := Lib.hid (fun w => Tryz.strings_HasPrefix s ⟨#[32]⟩ w)
  have H2 := Lib.hid (fun w => Tryz.strings_HasPrefix s ⟨#[9]⟩ w)
  rw [show (⟨#[32]⟩ : ByteArray).data.toList = [32] from rfl, prefix_one] at H1
  rw [show (⟨#[9]⟩ : ByteArray).data.toList = [9] from rfl, prefix_one] at H2
  obtain ⟨V, hV⟩ : ∃ V, blankHead s.data.toList = V := ⟨_, rfl⟩
  have hb : V = ((s.data.toList.head? == some 32) || (s.data.toList.head? == some 9)) := by
    rw [← hV]
    cases s.data.toList with
    | nil => rfl
    | cons x r =>
      show blankB x = _
      rw [Bool.eq_iff_iff, blankB_iff]
      simp only [List.head?_cons, Bool.or_eq_true, beq_iff_eq, Option.some.injEq]
      constructor
      · rintro (h | h)
        · exact .inl (UInt8.toNat_inj.1 h)
        · exact .inr (UInt8.toNat_inj.1 h)
      · rintro (rfl | rfl)
        · exact .inl rfl
        · exact .inr rfl
  rw [hV]
  clear hV
  cases h1 : (s.data.toList.head? == some 32) with
  | true =>
    rw [h1] at H1 hb
    obtain rfl : V = true := hb
    clear h1
    go_enter Tryz.func125, Tryz.ntmps125
    go_wp2_with (go_at_call 91; refine (H1.out _).mono ?_; rintro e w' ⟨rfl, rfl⟩)
    go_ret
    exact ⟨rfl, rfl⟩
  | false =>
    rw [h1] at H1 hb
    rw [Bool.false_or] at hb
    rw [← hb] at H2
    clear h1 hb
    go_enter Tryz.func125, Tryz.ntmps125
    go_wp2_with (first | (go_at_call 91; refine (H1.out _).mono ?_; rintro e w' ⟨rfl, rfl⟩) | (go_at_call 91; refine (H2.out _).mono ?_; rintro e w' ⟨rfl, rfl⟩))
    go_ret
    exact ⟨rfl, rfl⟩

theorem infoStrs : (Tryz.prog.info? 104).map (fun i => (i.zero, i.size, i.bytes)) = some (some (.slice none 0 0), 1, 24) := by kernel_rfl
/-- A group as it lies: a piece of the lines. -/
def grpV (g : Nat) (x : Nat × Nat) : Value := .slice (some ⟨g, x.1, none⟩) (x.2 - x.1) (x.2 - x.1)

set_option maxRecDepth 100000 in
set_option maxHeartbeats 1000000 in
theorem groups_any (g cap : Nat) (full : List ByteArray) (w : World) (hg : g < w.heap.size) (hc : ∀ (j : Nat) x, full[j]? = some x → w.cell? ⟨g, j, none⟩ = some (.string x)) (hn : 1 ≤ full.length) (hcap : full.length ≤ cap) (hfull : full.length ≤ 16777216) :
    Calls Tryz.prog 76 #[.slice (some ⟨g, 0, none⟩) full.length cap] w fun e w' => ∃ v, e = .returned v ∧
      w'.ownsRow w.heap.size 104 1 v (grpF (full.map (·.data.toList)) full.length).1.length ((grpF (full.map (·.data.toList)) full.length).1.map (grpV g)) ∧ Below w.heap.size w w' := by
  obtain ⟨i0, hi, hz0, hz1, hz2⟩ := info_parts infoStrs
  obtain ⟨ls, hls⟩ : ∃ ls, full.map (·.data.toList) = ls := ⟨_, rfl⟩
  rw [hls]
  have hlen : ls.length = full.length := by rw [← hls]; simp
  have HLEN := Lib.hid hlen
  have HLS := Lib.hid hls
  have HC := Lib.hid hc
  clear hls hlen hc
  obtain ⟨n, hnn⟩ : ∃ n, full.length = n := ⟨_, rfl⟩
  rw [hnn] at hn hcap hfull HLEN ⊢
  have HN := Lib.hid hnn
  clear hnn
  go_enter Tryz.func76, Tryz.ntmps76
  go_wp2
  go_loopw [3, 4, 5] (fun o fr i wr => ∃ t : Nat, t ≤ n ∧ i = .int .i64 ((t : Int) + 1) ∧ fr = .int .i64 ((grpF ls t).2 : Int) ∧ wr.ownsRow w.heap.size 104 1 o (grpF ls t).1.length ((grpF ls t).1.map (grpV g)) ∧ Below w.heap.size w wr) (fun _ _ i _ => n + 1 - (intOf i).toNat)
  case atStart => exact ⟨0, Nat.zero_le _, rfl, rfl, World.ownsRow_nil _ _ _ _, Below.refl _ _⟩
  case round =>
    obtain ⟨t, ht, rfl, rfl, hown, hB⟩ := hrel
    have hsz := hB.size
    obtain ⟨hle1, hle2, _⟩ := grpF_le ls t
    by_cases hlt : t < n
    · have g1 : decide ((t : Int) + 1 ≤ (n : Int)) = true := by simp; omega
      by_cases hend : t + 1 = n
      · have g2 : (((t : Int) + 1) == (n : Int)) = true := by simp; omega
        have HST := Lib.hid (grpF_cut (ls := ls) (t := t) (.inl (by rw [HLEN.out]; exact hend)))
        generalize hG : grpF ls t = G at hown hle1 hle2 HST
        clear hG
        obtain ⟨xs, fr⟩ := G
        simp only at hown hle1 hle2 HST
        go_wp2_with (at_builtin; refine wpList_append_own _ rfl _ _ 114 rfl w.heap.size 104 i0 (.slice none 0 0) 1 24 Tryz.underlying114 hi hz0 hz1 hz2 rfl (by decide) _ _ _ rfl (hown.alloc _) ⟨wr.heap.size, 0, none⟩ 1 1 [grpV g (fr, n)] rfl rfl (cell_one_new _ _ _) (by simp [Value.oneCell', grpV]) (by unfold maxLen; omega) (by omega) (by rw [World.size_alloc]; omega) ?_; intro v' w1 hown' hgrow _)
        have hB1 : Below w.heap.size w w1 := app_below (hB.alloc hsz _) (hown.alloc _) hgrow
        have HROW : Hid (w1.ownsRow w.heap.size 104 1 v' (xs ++ [(fr, t + 1)]).length ((xs ++ [(fr, t + 1)]).map (grpV g))) := Lib.hid (by
          rw [List.length_append, List.map_append]
          subst hend
          exact hown')
        clear hown' hgrow hown hB
        go_wp2_with fail
        go_roundw
        case rel => exact ⟨t + 1, by omega, by go_num, by rw [HST.out]; go_num, by rw [HST.out]; exact HROW.out, hB1⟩
        case measure => simp [intOf]; omega
      · have g2 : (((t : Int) + 1) == (n : Int)) = false := by simp; omega
        have hlt2 : t + 1 < full.length := by have := HN.out; omega
        have HCL := Lib.hid (fun W (h : Below w.heap.size w W) => (h.cell (p := ⟨g, t + 1, none⟩) hg).trans (HC.out (t + 1) full[t + 1] (List.getElem?_eq_getElem hlt2)))
        have HG := Lib.hid (fun W => goes_any full[t + 1] W)
        have hgo : blankHead full[t + 1].data.toList = goesB ls (t + 1) := by
          unfold goesB
          rw [← HLS.out]
          simp [List.getD_eq_getElem?_getD, hlt2]
        rw [hgo] at HG
        generalize full[t + 1] = X at HCL HG
        have hcl := HCL.out wr hB
        have i1 : (0 : Int) ≤ (t : Int) + 1 := by omega
        have i2 : (t : Int) + 1 < (n : Int) := by omega
        clear hgo hlt2
        cases hgb : goesB ls (t + 1) with
        | true =>
          rw [hgb] at HG
          have HST := Lib.hid (grpF_on (ls := ls) (t := t) (by rw [HLEN.out]; omega) hgb)
          clear hgb
          go_wp2_with (go_at_call 125; refine (HG.out _).mono ?_; rintro e w' ⟨rfl, hw⟩; rw [hw]; clear hw w')
          go_roundw
          case rel => exact ⟨t + 1, by omega, by go_num, by rw [HST.out], by rw [HST.out]; exact hown, hB⟩
          case measure => simp [intOf]; omega
        | false =>
          rw [hgb] at HG
          have HST := Lib.hid (grpF_cut (ls := ls) (t := t) (.inr hgb))
          generalize hG : grpF ls t = G at hown hle1 hle2 HST
          clear hG hgb
          obtain ⟨xs, fr⟩ := G
          simp only at hown hle1 hle2 HST
          have i3 : (0 : Int) ≤ (fr : Int) := by omega
          have i4 : (fr : Int) ≤ (t : Int) + 1 := by omega
          have i5 : (t : Int) + 1 ≤ (cap : Int) := by omega
          go_wp2_with (first | (go_at_call 125; refine (HG.out _).mono ?_; rintro e w' ⟨rfl, hw⟩; rw [hw]; clear hw w') | (at_builtin; refine wpList_append_own _ rfl _ _ 114 rfl w.heap.size 104 i0 (.slice none 0 0) 1 24 Tryz.underlying114 hi hz0 hz1 hz2 rfl (by decide) _ _ _ rfl (hown.alloc _) ⟨wr.heap.size, 0, none⟩ 1 1 [grpV g (fr, t + 1)] rfl rfl (cell_one_new _ _ _) (by simp [Value.oneCell', grpV]) (by unfold maxLen; omega) (by omega) (by rw [World.size_alloc]; omega) ?_; intro v' w1 hown' hgrow _))
          have hB1 : Below w.heap.size w w1 := app_below (hB.alloc hsz _) (hown.alloc _) hgrow
          have HROW : Hid (w1.ownsRow w.heap.size 104 1 v' (xs ++ [(fr, t + 1)]).length ((xs ++ [(fr, t + 1)]).map (grpV g))) := Lib.hid (by
            rw [List.length_append, List.map_append]
            exact hown')
          clear hown' hgrow hown hB
          go_wp2_with fail
          go_roundw
          case rel => exact ⟨t + 1, by omega, by go_num, by rw [HST.out]; go_num, by rw [HST.out]; exact HROW.out, hB1⟩
          case measure => simp [intOf]; omega
    · obtain rfl : t = n := by omega
      have g1 : decide ((t : Int) + 1 ≤ (t : Int)) = false := by simp; omega
      go_wp2
      go_ret
      exact ⟨_, rfl, hown, hB⟩
end Go.Proofs.YtgebkpnieailbaaGreatDoor

/-
  Header fields: the walk of impl's readField.
-/
namespace Go.Proofs.YtgebkpnieailbaaGreatDoor
set_option linter.unusedVariables false
open Go.RowKit

theorem set_two {W : World} {n : Nat} {T : TypeId} {a b : Value} (h : W.heap[n]? = some (.cells #[a, b] T (0, 0))) (A B : Value) :
    ((W.setCell ⟨n, 0, none⟩ A).setCell ⟨n, 1, none⟩ B).heap[n]? = some (.cells #[A, B] T (0, 0)) := by
  have h1 := heap_setCell_same W n 0 #[a, b] T A h
  have h2 := heap_setCell_same _ n 1 _ T B h1
  simpa using h2
theorem two_cells {W : World} {n : Nat} {T : TypeId} {a b : Value} {fr : Nat × Nat} (h : W.heap[n]? = some (.cells #[a, b] T fr)) : W.cell? ⟨n, 0, none⟩ = some a ∧ W.cell? ⟨n, 1, none⟩ = some b := by
  constructor <;> simp [World.cell?, h]
theorem two_free {W : World} {n : Nat} {T : TypeId} {a b : Value} (h : W.heap[n]? = some (.cells #[a, b] T (0, 0))) : W.frozen? ⟨n, 0, none⟩ = false ∧ W.frozen? ⟨n, 1, none⟩ = false := by
  constructor <;> simp [World.frozen?, h]
theorem new_two (w : World) (a b : Value) (T : TypeId) : (w.alloc (.cells #[a, b] T)).heap[w.heap.size]? = some (.cells #[a, b] T (0, 0)) := by
  show (w.heap.push _)[w.heap.size]? = some _
  simp

def noneV : Value := .tuple #[.agg #[.string ⟨#[]⟩, .string ⟨#[]⟩], .bool false]
theorem fieldV_cut (t : List UInt8) : fieldV t = if (Lib.cut t [58]).2.2 = true ∧ (Lib.cut t [58]).1 ≠ [] ∧ (Lib.cut t [58]).1.all nameB = true then .tuple #[.agg #[.string (mkB (Lib.cut t [58]).1), .string (mkB (Lib.trimS (Lib.cut t [58]).2.1 [32, 9]))], .bool true] else noneV := by
  have hcb := colon_bounds t
  unfold fieldV fieldOf Lib.cut
  generalize hx : Lib.index t [58] = x at hcb
  obtain ⟨hc1, hc2⟩ := hcb
  by_cases h0 : x < 0
  · rw [if_pos (by omega), if_neg (by omega : ¬ 0 ≤ x)]
    simp [noneV]
  · rw [if_pos (by omega : 0 ≤ x)]
    by_cases h1 : x = 0
    · subst h1
      simp [noneV]
    · have h2 := hc2 (by omega)
      rw [if_neg (by omega : ¬ x < 1)]
      simp only [List.length_singleton, true_and]
      have h3 : t.take x.toNat ≠ [] := by
        intro h
        have := congrArg List.length h
        rw [List.length_take, List.length_nil] at this
        omega
      cases ha : (t.take x.toNat).all nameB with
      | true => rw [if_pos rfl, if_pos ⟨h3, rfl⟩]
      | false => rw [if_neg (by simp), if_neg (by simp)]; rfl

set_option maxRecDepth 100000 in
set_option maxHeartbeats 1000000 in
theorem implField_any (s : ByteArray) (w : World) (hML : MaxLenAt w) (hs : s.size ≤ 1048576) :
    Calls Tryz.prog 79 #[.string s] w fun e w' => e = .returned (fieldV s.data.toList) ∧ Below w.heap.size w w' := by
  obtain ⟨m, hm⟩ := hML
  have hlt : 0 < w.heap.size := block_lt_of_cell hm
  have HC := Lib.hid (fun W (h : Below w.heap.size w W) => Tryz.strings_Cut s ⟨#[58]⟩ m W (by omega) ((h.cell (p := ⟨0, 0, none⟩) hlt).trans hm))
  rw [fieldV_cut]
  rw [show (⟨#[58]⟩ : ByteArray).data.toList = [58] from rfl] at HC
  obtain ⟨b1, b2⟩ : (Lib.cut s.data.toList [58]).1.length ≤ s.size ∧ (Lib.cut s.data.toList [58]).2.1.length ≤ s.size := by
    have : s.data.toList.length = s.size := by simp
    unfold Lib.cut
    split <;> simp <;> omega
  generalize (Lib.cut s.data.toList [58]).1 = A at HC b1 ⊢
  generalize (Lib.cut s.data.toList [58]).2.1 = B at HC b2 ⊢
  generalize (Lib.cut s.data.toList [58]).2.2 = f at HC ⊢
  have AL := Lib.hid (fun w => all_any 130 nameB fits_vis (mkB A) w (by rw [mkB_size]; omega))
  rw [mkB_list] at AL
  have TR := Lib.hid (fun w => implTrim_any (mkB B) w (by rw [mkB_size]; omega))
  rw [mkB_list] at TR
  have hem : (mkB A).toList.isEmpty = A.isEmpty := by rw [Lib.toList_data]; rfl
  change Hid (∀ W, Below w.heap.size w W → Calls Tryz.prog _ _ W fun e w' => e = .returned (.tuple #[.string (mkB A), .string (mkB B), .bool f]) ∧ _) at HC
  change Hid (∀ W, Calls Tryz.prog _ _ W fun e w' => e = .returned (.string (mkB (Lib.trimS B [32, 9]))) ∧ _) at TR
  obtain ⟨T, hT⟩ : ∃ T, mkB (Lib.trimS B [32, 9]) = T := ⟨_, rfl⟩
  rw [hT] at TR ⊢
  generalize mkB A = NA at HC AL hem ⊢
  generalize mkB B = NB at HC TR
  clear hT hm
  have z0 := cells2_0 w (.string ⟨#[]⟩) (.string ⟨#[]⟩) 113
  have z1 := cells2_1 w (.string ⟨#[]⟩) (.string ⟨#[]⟩) 113
  cases f with
  | false =>
    rw [if_neg (by simp)]
    clear hem b1 b2
    go_enter Tryz.func79, Tryz.ntmps79
    go_wp2_with (first | (go_at_call 128; refine (HC.out _ ((Below.refl _ _).alloc (Nat.le_refl _) _)).mono ?_; rintro e w' ⟨rfl, n, rfl⟩) | (go_at_call 129; refine (AL.out _).mono ?_; rintro e w' ⟨rfl, rfl⟩))
    have q := two_cells (set_two (W := (w.alloc (.cells #[.string ⟨#[]⟩, .string ⟨#[]⟩] 113)).drewN n) (new_two w (.string ⟨#[]⟩) (.string ⟨#[]⟩) 113) (.string ⟨#[]⟩) (.string ⟨#[]⟩))
    refine bodyPost_ret (v := noneV) (by simp [results, Tryz.results79, go_sem, q.1, q.2, noneV]) rfl ⟨rfl, ?_⟩
    exact ((below_drewN ((Below.refl _ _).alloc (Nat.le_refl _) _) n).setCell (p := ⟨w.heap.size, 0, none⟩) (Nat.le_refl _) _).setCell (p := ⟨w.heap.size, 1, none⟩) (Nat.le_refl _) _
  | true =>
  cases hA : A.isEmpty with
  | true =>
    rw [if_neg (by rw [List.isEmpty_iff.1 hA]; simp)]
    rw [hA] at hem
    clear hA b1 b2
    go_enter Tryz.func79, Tryz.ntmps79
    go_wp2_with (first | (go_at_call 128; refine (HC.out _ ((Below.refl _ _).alloc (Nat.le_refl _) _)).mono ?_; rintro e w' ⟨rfl, n, rfl⟩) | (go_at_call 129; refine (AL.out _).mono ?_; rintro e w' ⟨rfl, rfl⟩))
    have q := two_cells (set_two (W := (w.alloc (.cells #[.string ⟨#[]⟩, .string ⟨#[]⟩] 113)).drewN n) (new_two w (.string ⟨#[]⟩) (.string ⟨#[]⟩) 113) (.string ⟨#[]⟩) (.string ⟨#[]⟩))
    refine bodyPost_ret (v := noneV) (by simp [results, Tryz.results79, go_sem, q.1, q.2, noneV]) rfl ⟨rfl, ?_⟩
    exact ((below_drewN ((Below.refl _ _).alloc (Nat.le_refl _) _) n).setCell (p := ⟨w.heap.size, 0, none⟩) (Nat.le_refl _) _).setCell (p := ⟨w.heap.size, 1, none⟩) (Nat.le_refl _) _
  | false =>
  rw [hA] at hem
  have hA2 : A ≠ [] := by intro h; rw [h] at hA; cases hA
  cases ha : A.all nameB with
  | false =>
    rw [if_neg (by simp)]
    rw [ha] at AL
    clear hA hA2 ha b1 b2
    go_enter Tryz.func79, Tryz.ntmps79
    go_wp2_with (first | (go_at_call 128; refine (HC.out _ ((Below.refl _ _).alloc (Nat.le_refl _) _)).mono ?_; rintro e w' ⟨rfl, n, rfl⟩) | (go_at_call 129; refine (AL.out _).mono ?_; rintro e w' ⟨rfl, rfl⟩))
    have q := two_cells (set_two (W := (w.alloc (.cells #[.string ⟨#[]⟩, .string ⟨#[]⟩] 113)).drewN n) (new_two w (.string ⟨#[]⟩) (.string ⟨#[]⟩) 113) (.string ⟨#[]⟩) (.string ⟨#[]⟩))
    refine bodyPost_ret (v := noneV) (by simp [results, Tryz.results79, go_sem, q.1, q.2, noneV]) rfl ⟨rfl, ?_⟩
    exact ((below_drewN ((Below.refl _ _).alloc (Nat.le_refl _) _) n).setCell (p := ⟨w.heap.size, 0, none⟩) (Nat.le_refl _) _).setCell (p := ⟨w.heap.size, 1, none⟩) (Nat.le_refl _) _
  | true =>
    rw [if_pos ⟨rfl, hA2, rfl⟩]
    rw [ha] at AL
    clear hA hA2 ha b1 b2
    go_enter Tryz.func79, Tryz.ntmps79
    go_wp2_with (first | (go_at_call 128; refine (HC.out _ ((Below.refl _ _).alloc (Nat.le_refl _) _)).mono ?_; rintro e w' ⟨rfl, n, rfl⟩) | (go_at_call 129; refine (AL.out _).mono ?_; rintro e w' ⟨rfl, rfl⟩))
    refine (TR.out _).mono ?_
    rintro e w2 ⟨rfl, hB2⟩
    obtain ⟨w1, hw1⟩ : ∃ w1, (w.alloc (.cells #[.string ⟨#[]⟩, .string ⟨#[]⟩] 113)).drewN n = w1 := ⟨_, rfl⟩
    rw [hw1] at hB2
    have h1 : w1.heap[w.heap.size]? = some (.cells #[.string ⟨#[]⟩, .string ⟨#[]⟩] 113 (0, 0)) := by rw [← hw1]; exact new_two w _ _ _
    have B1 : Below w.heap.size w w1 := by rw [← hw1]; exact below_drewN ((Below.refl _ _).alloc (Nat.le_refl _) _) n
    have h2 := (hB2.block _ (Array.getElem?_eq_some_iff.1 h1).1).trans h1
    have B2 := Lib.hid (B1.trans (hB2.mono B1.size))
    have H2 := Lib.hid h2
    obtain ⟨k0, k1⟩ := two_cells h2
    obtain ⟨k2, k3⟩ := two_free h2
    clear hB2 h1 B1 h2 hw1 z0 z1
    go_wp2_with fail
    have q := two_cells (set_two H2.out (.string NA) (.string T))
    refine bodyPost_ret (v := .tuple #[.agg #[.string NA, .string T], .bool true]) (by simp [results, Tryz.results79, go_sem, q.1, q.2]) rfl ⟨rfl, ?_⟩
    exact (B2.out.setCell (p := ⟨w.heap.size, 0, none⟩) (Nat.le_refl _) _).setCell (p := ⟨w.heap.size, 1, none⟩) (Nat.le_refl _) _
end Go.Proofs.YtgebkpnieailbaaGreatDoor

/-
  slices.AppendSeq and slices.Collect over the iterator of impl.pieces.
-/
namespace Go.Proofs.YtgebkpnieailbaaGreatDoor
set_option linter.unusedVariables false
open Go.RowKit Go.Shelf
attribute [local go_sem] Oper.semAt_some

set_option maxRecDepth 100000 in
set_option maxHeartbeats 1000000 in
theorem appendSeq_in (Bs Bm : Nat) (m s : ByteArray) (full : List ByteArray) (hps : Pcs m s full) (hs : s.size < 4294967281) (hm1 : 1 ≤ m.size) (hfull : full.length ≤ 4294967281) (w : World)
    (hBs : Bs < w.heap.size) (hBm : Bm < w.heap.size) (hML : MaxLenAt w) (hcs : w.cell? ⟨Bs, 0, none⟩ = some (.string s)) (hcm : w.cell? ⟨Bm, 0, none⟩ = some (.string m)) :
    CallsIn Fence.wide 4 Tryz.prog 126 #[.slice none 0 0, .func (.func 127) #[] #[.pointer (some ⟨Bs, 0, none⟩), .pointer (some ⟨Bm, 0, none⟩)]] w (GivesStrs full w) := by
  have HML := Lib.hid hML
  have HCS := Lib.hid hcs
  have HCM := Lib.hid hcm
  clear hML hcs hcm
  obtain ⟨i0, hi, hz0, hz1, hz2⟩ := info_parts infoStr
  refine callsIn_of_wp_marks Tryz.func126 rfl trivial ?_ rfl
  simp only [Tryz.ntmps126, List.size_toArray, List.length_cons, List.length_nil, Nat.reduceAdd, Nat.reduceSub, Array.replicate_succ, Array.replicate_zero, List.push_toArray, List.append_toArray, List.nil_append, List.cons_append]
  gi_wp2
  have hlt := HML.out.lt
  have hb0 := Boxed.new w 104 (.slice none 0 0)
  have hB0 : Below w.heap.size w (w.alloc (.cells #[.slice none 0 0] 104)) := (Below.refl _ w).alloc (Nat.le_refl _) _
  have hsz : (w.alloc (.cells #[.slice none 0 0] 104)).heap.size = w.heap.size + 1 := by simp
  change Code.wpIn _ _ _ _ _ _ (w.alloc (.cells #[.slice none 0 0] 104))
  generalize (w.alloc (.cells #[.slice none 0 0] 104)) = W0 at *
  refine wpIn_rangeFunc_ownF rfl (by decide) (gf := 127) (lb := #[.pointer (some ⟨Bs, 0, none⟩), .pointer (some ⟨Bm, 0, none⟩)]) rfl trivial (enters_of Tryz.func127 (by kernel_rfl) rfl)
    (pieces_stops 3 (by decide) Bs Bm m s full hps hs hm1 W0 (by omega) (by omega) (HML.out.after hB0) ((hB0.cell (p := ⟨Bs, 0, none⟩) hBs).trans HCS.out) ((hB0.cell (p := ⟨Bm, 0, none⟩) hBm).trans HCM.out)) Keep2.trans (Keep2.putObj (by omega) (by omega)) (Below.refl _ _) (fun _ => rfl)
    (fun pre W => (∃ v, Boxed W w.heap.size 104 v ∧ W.ownsRow (w.heap.size + 1) 9 1 v pre.length (pre.map Value.string) ∧ True) ∧ Below w.heap.size w W ∧ Below 0 W0 W)
    (fun _ _ _ => False)
    (OwnFrom.and (Own.from (holdsRow_own (w.heap.size + 1) w.heap.size 104 9 1 (fun pre : List ByteArray => pre.length) (fun pre => pre.map Value.string) (fun _ _ => True)) _) (OwnFrom.and (ownFrom_below (Nat.le_refl _) (by omega)) (ownFrom_below (Nat.zero_le _) (Nat.zero_le _))))
    (fun _ _ _ _ _ hs _ _ => hs)
    ⟨⟨_, hb0, World.ownsRow_nil _ _ _ _, trivial⟩, hB0, Below.refl _ _⟩
    (fun x => { tmps := #[.slice none 0 0, .func (.func 127) #[] #[.pointer (some ⟨Bs, 0, none⟩), .pointer (some ⟨Bm, 0, none⟩)], .pointer (some ⟨w.heap.size, 0, none⟩), undef, .slice none 0 0, .string x, .func (.func 127) #[] #[.pointer (some ⟨Bs, 0, none⟩), .pointer (some ⟨Bm, 0, none⟩)], .string x, undef, undef, undef, undef, undef], defers := [] }) ?assign ?body ?done ?stop
  case assign =>
    intro l x W K hK
    gi_wp2
    exact hK
  case body =>
    rintro l pre x W ⟨⟨v, hv, hrow, _⟩, hB, hB'⟩ hpl
    have hc := hv.cell
    have hsW := hB'.size
    gi_wp2_with (gi_at_builtin; refine wpListIn_append_own _ rfl _ _ 104 rfl (w.heap.size + 1) 9 i0 (.string ⟨#[]⟩) 1 16 Tryz.underlying104 hi hz0 hz1 hz2 rfl (by decide) _ _ _ rfl (hrow.alloc _) ⟨W.heap.size, 0, none⟩ 1 1 [.string x] rfl rfl (cell_one_new _ _ _) (by simp [Value.oneCell']) (by unfold maxLen; omega) (by omega) (by simp; omega) ?_; intro v' w1 hown' hgrow _; obtain ⟨g', cap', rfl⟩ := ownsRow_succ hown'; obtain ⟨hv1, hv2, hr2, hk2, hb2', hkeep⟩ := boxApp hv (by decide) hrow (by omega) hB.size (Nat.le_refl _) hown' hgrow; have hc1 := hv1.cell; have hf1 := hv1.frozen)
    refine ⟨hk2, ⟨hb2'.block _ hlt, hkeep _ (by omega) (by omega) (by omega)⟩, ⟨_, hv2, by simpa using hr2, trivial⟩, hB.trans hb2', hB'.trans (hb2'.mono (Nat.zero_le _))⟩
  case done =>
    rintro D ys W hD rfl ⟨⟨v, hv, hrow, _⟩, hB, hB'⟩ hK
    have hc := hv.cell
    gi_wp2
    refine ⟨by simp, .inl ⟨_, _, rfl, run_takeDeferred hK, ?_⟩⟩
    exact ⟨_, results_tmp rfl _ _ _, v, rfl, rowLe (ownsRow_putObj hrow _ hK rfl) (by omega), hB.trans (belowK_b (w := w) (Nat.le_refl _) W D _ _ (by omega) hK rfl rfl)⟩
  case stop =>
    rintro D c pre W _ _ h _
    exact h.elim

set_option maxHeartbeats 1000000 in
theorem collect_in (Bs Bm : Nat) (m s : ByteArray) (full : List ByteArray) (hps : Pcs m s full) (hs : s.size < 4294967281) (hm1 : 1 ≤ m.size) (hfull : full.length ≤ 4294967281) (w : World)
    (hBs : Bs < w.heap.size) (hBm : Bm < w.heap.size) (hML : MaxLenAt w) (hcs : w.cell? ⟨Bs, 0, none⟩ = some (.string s)) (hcm : w.cell? ⟨Bm, 0, none⟩ = some (.string m)) :
    Calls Tryz.prog 77 #[.func (.func 127) #[] #[.pointer (some ⟨Bs, 0, none⟩), .pointer (some ⟨Bm, 0, none⟩)]] w (GivesStrs full w) := by
  have HA := Lib.hid (callsIn_wide.1 (appendSeq_in Bs Bm m s full hps hs hm1 hfull w hBs hBm hML hcs hcm))
  clear hML hcs hcm hps hBs hBm
  go_enter Tryz.func77, Tryz.ntmps77
  go_wp2_with (go_at_call 126; refine HA.out.mono ?_; rintro e w1 ⟨v, rfl, hrow, hB⟩)
  go_ret
  exact ⟨v, rfl, hrow, hB⟩

/-- slices.Collect(pieces(s, mark)). -/
theorem piecesOf_any (s m : ByteArray) (w : World) :
    Calls Tryz.prog 78 #[.string s, .string m] w fun e w' =>
      e = .returned (.func (.func 127) #[] #[.pointer (some ⟨w.heap.size, 0, none⟩), .pointer (some ⟨w.heap.size + 1, 0, none⟩)]) ∧
      w' = (w.alloc (.cells #[.string s] 9)).alloc (.cells #[.string m] 9) := callsIn_wide.1 (pieces_in 0 s m w)
end Go.Proofs.YtgebkpnieailbaaGreatDoor

/-
  Header fields: the walk of impl's Fields.
-/
namespace Go.Proofs.YtgebkpnieailbaaGreatDoor
set_option linter.unusedVariables false
open Go.RowKit

theorem join_empty (L : List (List UInt8)) : Lib.join L [] = L.flatten := by
  cases L with
  | nil => rfl
  | cons x r => rw [Lib.join_cons]; simp [Lib.joinTail]
theorem flatten_len (L : List (List UInt8)) : L.flatten.length = total L := by
  induction L with
  | nil => rfl
  | cons x r ih => rw [List.flatten_cons, List.length_append, ih, total_cons]
theorem total_take (L : List (List UInt8)) (n : Nat) : total (L.take n) ≤ total L := by
  have : total L = total (L.take n) + total (L.drop n) := by rw [← total_append, List.take_append_drop]
  omega
theorem total_drop (L : List (List UInt8)) (n : Nat) : total (L.drop n) ≤ total L := by
  have : total L = total (L.take n) + total (L.drop n) := by rw [← total_append, List.take_append_drop]
  omega
theorem textOf_len (L : List (List UInt8)) (x : Nat × Nat) : (textOf L x).length ≤ total L := by
  unfold textOf
  rw [flatten_len]
  exact Nat.le_trans (total_drop _ _) (total_take _ _)
theorem pcs_total {r : ByteArray} {ps : List ByteArray} (h : Pcs crlf r ps) : total (ps.map (·.data.toList)) ≤ r.size ∧ ps.length ≤ r.size + 2 := by
  have hl : r.data.toList.length = r.size := by simp
  have h1 := total_lines _ [] r.data.toList (Nat.le_refl _)
  have h2 : (ps.map (·.data.toList)).length = ps.length := by simp
  rcases pcs_linesA h with e | e
  · rw [e] at h2 ⊢
    simp at h1
    omega
  · rw [e] at h2 ⊢
    rw [total_append]
    simp [total] at h1 h2 ⊢
    omega

set_option maxRecDepth 100000 in
set_option maxHeartbeats 1000000 in
/-- strings.Join of a group. -/
theorem joined_any (g : Nat) (full : List ByteArray) (x : Nat × Nat) (w : World) (hg : g < w.heap.size) (hc : ∀ (j : Nat) y, full[j]? = some y → w.cell? ⟨g, j, none⟩ = some (.string y)) (h1 : x.1 < x.2) (h2 : x.2 ≤ full.length) (hf : full.length ≤ 16777216) (ht : total (full.map (·.data.toList)) ≤ 16777216) :
    Calls Tryz.prog 80 #[grpV g x, .string ⟨#[]⟩] w fun e w' => e = .returned (.string (mkB (textOf (full.map (·.data.toList)) x))) ∧ Below w.heap.size w w' := by
  obtain ⟨a, b⟩ := x
  have hlen : ((full.take b).drop a).length = b - a := by rw [List.length_drop, List.length_take]; omega
  have hte : Lib.join (((full.take b).drop a).map (·.data.toList)) (⟨#[]⟩ : ByteArray).data.toList = textOf (full.map (·.data.toList)) (a, b) := by
    show Lib.join _ [] = _
    rw [join_empty]
    unfold textOf
    simp only [List.map_drop, List.map_take]
  have h := Tryz.strings_Join g a (b - a) ((full.take b).drop a) ⟨#[]⟩ w (fun j y hy => by
      rw [List.getElem?_drop] at hy
      have hj : a + j < b := by
        have := (List.getElem?_eq_some_iff.1 hy).1
        rw [List.length_take] at this
        omega
      rw [List.getElem?_take_of_lt hj] at hy
      exact hc _ _ hy) hg (by rw [hlen]; simp at h2; omega) (Nat.le_of_eq hlen) (by rw [hte]; have := textOf_len (full.map (·.data.toList)) (a, b); omega)
  rw [hlen, hte] at h
  exact h

set_option maxRecDepth 100000 in
set_option maxHeartbeats 2000000 in
theorem implFields_is : FieldsIs := by
  intro s w hML hs
  obtain ⟨full, hp⟩ := pcs_exists crlf (by decide) s.size s (Nat.le_refl _)
  obtain ⟨ht, hn⟩ := pcs_total hp
  have hpos := hp.pos
  have hfl := fields_pcs hp
  obtain ⟨R, hR⟩ : ∃ R, fieldsL s.data.toList = R := ⟨_, rfl⟩
  rw [hR] at hfl ⊢
  clear hR
  have h1 := hML.lt
  have HML := Lib.hid hML
  have hB2 : Below w.heap.size w ((w.alloc (.cells #[.string s] 9)).alloc (.cells #[.string crlf] 9)) := ((Below.refl _ w).alloc (Nat.le_refl _) _).alloc (by simp) _
  have hc0 : ((w.alloc (.cells #[.string s] 9)).alloc (.cells #[.string crlf] 9)).cell? ⟨w.heap.size, 0, none⟩ = some (.string s) := ((Boxed.new w 9 (.string s)).alloc (.cells #[.string crlf] 9)).cell
  have hc1 : ((w.alloc (.cells #[.string s] 9)).alloc (.cells #[.string crlf] 9)).cell? ⟨w.heap.size + 1, 0, none⟩ = some (.string crlf) := by
    have := (Boxed.new (w.alloc (.cells #[.string s] 9)) 9 (.string crlf)).cell
    rwa [World.size_alloc] at this
  have HCO := Lib.hid (collect_in w.heap.size (w.heap.size + 1) crlf s full hp (by omega) (by decide) (by omega) _ (by simp; omega) (by simp) (hML.after hB2) hc0 hc1)
  have HB2 := Lib.hid hB2
  obtain ⟨j0, hj, hy0, hy1, hy2⟩ := info_parts infoFl
  clear hML hc0 hc1 hB2 hp
  go_enter Tryz.func28, Tryz.ntmps28
  go_wp2_with (go_at_call 78; refine (piecesOf_any _ _ _).mono ?_; rintro e w' ⟨rfl, hw⟩; rw [hw]; clear hw w')
  refine HCO.out.mono ?_
  rintro e w3 ⟨v1, rfl, hr1, hB3⟩
  have HB3 := Lib.hid (HB2.out.trans (hB3.mono HB2.out.size))
  have hlt1 := hr1.lt
  obtain ⟨g, cap, cur, rfl, hbase, hgb, hcap, hcm, hcz, hcl⟩ : ∃ g cap cur, v1 = .slice (some ⟨g, 0, none⟩) full.length cap ∧ ((w.alloc (.cells #[.string s] 9)).alloc (.cells #[.string crlf] 9)).heap.size ≤ g ∧ w3.heap[g]? = some (.cells cur 9 (0, 0)) ∧ full.length ≤ cap ∧ cap ≤ maxLen ∧ cur.size = cap * 1 ∧ cur.toList.take (full.length * 1) = full.map Value.string := by
    rcases hr1.2 with ⟨_, h0⟩ | h'
    · exact absurd h0 (by omega)
    · exact h'
  have hg3 : g < w3.heap.size := (hlt1 g rfl).2
  have hcells : ∀ (j : Nat) x, full[j]? = some x → w3.cell? ⟨g, j, none⟩ = some (.string x) := fun j x hx => by
    have hj : j < full.length := (List.getElem?_eq_some_iff.1 hx).1
    have h := hr1.cellAt j (by omega)
    rw [h]
    simp [hx]
  have HC3 := Lib.hid hcells
  have HG := Lib.hid (groups_any g cap full w3 hg3 hcells hpos hcap (by omega))
  clear hr1 hB3 hlt1 hbase hgb hcm hcz hcl hcells HCO HB2
  have hgl := grpF_le (full.map (·.data.toList)) full.length
  have hall := grp_all (full.map (·.data.toList)) (by simp; omega)
  rw [List.length_map] at hall
  rw [← hall] at hfl
  obtain ⟨G, hGe⟩ : ∃ G, (grpF (full.map (·.data.toList)) full.length).1 = G := ⟨_, rfl⟩
  rw [hGe] at HG hgl hfl
  have HGL := Lib.hid hgl.2.2
  have hGn := hgl.2.1
  have HFL := Lib.hid hfl
  clear hgl hall hGe hfl
  go_wp2_with fail
  refine HG.out.mono ?_
  rintro e w4 ⟨v2, rfl, hr2, hB4⟩
  have HB4 := Lib.hid (HB3.out.trans (hB4.mono HB3.out.size))
  have HC4 := Lib.hid (fun (j : Nat) x (hx : full[j]? = some x) => (hB4.cell (p := ⟨g, j, none⟩) hg3).trans (HC3.out j x hx))
  have hg4 : g < w4.heap.size := Nat.lt_of_lt_of_le hg3 hB4.size
  have HR2 := Lib.hid hr2
  obtain ⟨p2, cap2, hp2⟩ := row_slice hr2
  subst hp2
  have HM4 := Lib.hid (HML.out.after HB4.out)
  clear hB4 hr2 HG HC3 HB3 HML
  go_wp2_with fail
  go_loopw [3, 13] (fun o i wr => ∃ (k : Nat) (out : List Fl), k ≤ G.length ∧ i = .int .i64 (k : Int) ∧ Hid (out ++ ((G.drop k).map (textOf (full.map (·.data.toList)))).filterMap fieldOf = R) ∧ out.length ≤ k ∧ wr.ownsRow w4.heap.size 113 2 o out.length (flCells out) ∧ Hid (Below w4.heap.size w4 wr)) (fun _ i _ => G.length - (intOf i).toNat)
  case atStart => exact ⟨0, [], Nat.zero_le _, rfl, Lib.hid (by simpa using HFL.out), Nat.le_refl _, World.ownsRow_nil _ _ _ _, Lib.hid (Below.refl _ _)⟩
  case round =>
    obtain ⟨k, out, hk, rfl, HP, hol, hown, HBA⟩ := hrel
    have hsA := HBA.out.size
    by_cases hlt : k < G.length
    · have g2 : decide ((k : Int) < (G.length : Int)) = true := by simp; omega
      have i1 : (0 : Int) ≤ (k : Int) := by omega
      have i2 : (k : Int) < (G.length : Int) := by omega
      have hrow := row_lat HR2.out HBA.out
      obtain ⟨gt, ct, hgt⟩ := row_slice1 hrow (by omega)
      injection hgt with hgt1 hgt2 hgt3
      subst hgt1 hgt3
      have hcell : wr.cell? ⟨gt, k, none⟩ = some (grpV g G[k]) := by
        have := hrow.cellAt k (by omega)
        rw [this]
        simp [hlt]
      have hx := HGL.out G[k] (List.getElem_mem hlt)
      have HP2 := HP.out
      rw [drop_cons G k hlt, List.map_cons] at HP2
      generalize G[k] = X at hcell hx HP2
      have JO := Lib.hid (joined_any g full X wr (Nat.lt_of_lt_of_le hg4 hsA) (fun j y hy => (HBA.out.cell (p := ⟨g, j, none⟩) hg4).trans (HC4.out j y hy)) hx.1 hx.2 (by omega) (by omega))
      have htl := textOf_len (full.map (·.data.toList)) X
      generalize hT : textOf (full.map (·.data.toList)) X = T at JO htl HP2
      have FS := fun w h => implField_any (mkB T) w h (by rw [mkB_size]; omega)
      rw [mkB_list] at FS
      have HML5 := Lib.hid (fun W (h : Below wr.heap.size wr W) => HM4.out.after (HBA.out.trans (h.mono hsA)))
      clear hx htl hT hrow
      cases hf : fieldOf T with
      | none =>
        have HN : Hid (out ++ ((G.drop (k + 1)).map (textOf (full.map (·.data.toList)))).filterMap fieldOf = R) := Lib.hid (by rw [← HP2, List.filterMap_cons, hf])
        rw [show fieldV T = .tuple #[.agg #[.string ⟨#[]⟩, .string ⟨#[]⟩], .bool false] by rw [fieldV, hf]] at FS
        have FSH := Lib.hid FS
        clear FS HP2 HP hf
        go_wp2_with (first | (go_at_call 80; refine JO.out.mono ?_; rintro e w5 ⟨rfl, hB5⟩) | (go_at_call 79; refine (FSH.out _ (HML5.out _ hB5)).mono ?_; rintro e w6 ⟨rfl, hB6⟩))
        have hB7 : Below wr.heap.size wr (w6.alloc (.cells #[.string ⟨#[]⟩, .string ⟨#[]⟩] 113)) := (hB5.trans (hB6.mono hB5.size)).alloc (hB5.trans (hB6.mono hB5.size)).size _
        have HROW := Lib.hid (row_lat hown hB7)
        have HBA7 := Lib.hid (HBA.out.trans (hB7.mono hsA))
        clear hB5 hB6 hB7 hown
        go_wp2_with fail
        go_roundw
        case rel => exact ⟨k + 1, out, by omega, by go_num, HN, by omega, HROW.out, HBA7⟩
        case measure => simp [intOf]; omega
      | some f =>
        have HN : Hid ((out ++ [f]) ++ ((G.drop (k + 1)).map (textOf (full.map (·.data.toList)))).filterMap fieldOf = R) := Lib.hid (by rw [← HP2, List.filterMap_cons, hf]; simp)
        rw [show fieldV T = .tuple #[.agg #[.string (mkB f.name), .string (mkB f.body)], .bool true] by rw [fieldV, hf]] at FS
        have FSH := Lib.hid FS
        clear FS HP2 HP hf
        go_wp2_with (first | (go_at_call 80; refine JO.out.mono ?_; rintro e w5 ⟨rfl, hB5⟩) | (go_at_call 79; refine (FSH.out _ (HML5.out _ hB5)).mono ?_; rintro e w6 ⟨rfl, hB6⟩; have hB7 := hB5.trans (hB6.mono hB5.size); have hs7 := hB7.size; clear hB5 hB6) | (at_builtin; refine wpList_append_own _ rfl _ _ 42 rfl w4.heap.size 113 j0 (.agg #[.string ⟨#[]⟩, .string ⟨#[]⟩]) 2 32 Tryz.underlying42 hj hy0 hy1 hy2 rfl (by decide) _ _ _ rfl (row_lat hown ((hB7.alloc hs7 _).alloc (by simp; omega) _)) ⟨w6.heap.size + 1, 0, none⟩ 1 1 [.string (mkB f.name), .string (mkB f.body)] rfl rfl (cell_two_new _ _ _ _ _ (by simp)) (by simp [Value.oneCell']) (by unfold maxLen; omega) (by omega) (by simp; omega) ?_; intro v' w8 hown' hgrow _))
        have hB8 : Below w4.heap.size w4 w8 := ((HBA.out.trans (hB7.mono hsA)).alloc (by omega) _ |>.alloc (by simp; omega) _).grown hgrow (by simp; omega) (fun k e => (hown.lt k e).1)
        have HROW : Hid (w8.ownsRow w4.heap.size 113 2 v' (out ++ [f]).length (flCells (out ++ [f]))) := Lib.hid (by
          rw [flCells_append]
          simpa [flCells] using hown')
        have HB8 := Lib.hid hB8
        clear hB7 hown hown' hgrow hB8
        go_wp2_with fail
        go_roundw
        case rel => exact ⟨k + 1, out ++ [f], by omega, by go_num, HN, by simp; omega, HROW.out, HB8⟩
        case measure => simp [intOf]; omega
    · obtain rfl : k = G.length := by omega
      have g2 : decide ((G.length : Int) < (G.length : Int)) = false := by simp
      have HN : Hid (out = R) := Lib.hid (by have := HP.out; rw [List.drop_length] at this; simpa using this)
      clear HP
      go_wp2_with fail
      go_ret
      refine ⟨_, rfl, ?_, HB4.out.trans (HBA.out.mono HB4.out.size)⟩
      rw [← HN.out]
      exact row_baseL hown HB4.out.size
end Go.Proofs.YtgebkpnieailbaaGreatDoor

/-
  Envelopes: the walks of both Envelopes.
-/
namespace Go.Proofs.YtgebkpnieailbaaGreatDoor
set_option linter.unusedVariables false
open Go.RowKit Go.Maps

/-- A row of strings that was just laid. -/
theorem vals_new (w : World) (xs : List Value) (T : TypeId) (c : Nat) : ValsAt (w.alloc (.cells xs.toArray T)) (.slice (some ⟨w.heap.size, 0, none⟩) xs.length c) xs := by
  refine .inr ⟨w.heap.size, c, rfl, by simp, fun j hj => ⟨?_, ?_⟩⟩
  · rw [World.cell?_alloc_mark]
    simp
  · rw [World.frozen?_alloc_mark w _ T 0 0 j]
    simp
theorem bodyS_len (l : List Fl) (h : FlsOk l) (K : ByteArray) : (bodyS l K).data.toList.length ≤ 4000000 := by
  unfold bodyS
  rw [mkB_list]
  exact bodyT_len _ (h.body _)
theorem adS_len (l : List Fl) (h : FlsOk l) (K X : ByteArray) (hX : X.data.toList.length ≤ 200000000) : (adS l K X).data.toList.length ≤ 200000000 := by
  unfold adS
  split
  · exact hX
  · rw [mkB_list]
    exact adT_len _ (h.body _)
theorem adS_or (l : List Fl) (K : ByteArray) (x : List UInt8) : (adS l K (mkB x)).data.toList = orT (adT (bodyOf K.data.toList l)) x := by
  unfold adS orT adT
  by_cases h : addrsL ((bodyOf K.data.toList l).getD []) = []
  · rw [if_pos h, if_pos ((addrTs_nil _).2 h), mkB_list]
  · rw [if_neg h, if_neg (fun e => h ((addrTs_nil _).1 e)), mkB_list]
theorem orT_nil (x : List UInt8) : orT x nilL = x := by
  unfold orT
  split
  · rename_i h; exact h.symm
  · rfl
/-- The ten texts of impl's. -/
def envB (l : List Fl) : List ByteArray :=
  let F := adS l ⟨#[70, 82, 79, 77]⟩ ⟨#[78, 73, 76]⟩
  [bodyS l ⟨#[68, 65, 84, 69]⟩, bodyS l ⟨#[83, 85, 66, 74, 69, 67, 84]⟩, F, adS l ⟨#[83, 69, 78, 68, 69, 82]⟩ F, adS l ⟨#[82, 69, 80, 76, 89, 45, 84, 79]⟩ F,
    adS l ⟨#[84, 79]⟩ ⟨#[78, 73, 76]⟩, adS l ⟨#[67, 67]⟩ ⟨#[78, 73, 76]⟩, adS l ⟨#[66, 67, 67]⟩ ⟨#[78, 73, 76]⟩, bodyS l ⟨#[73, 78, 45, 82, 69, 80, 76, 89, 45, 84, 79]⟩, bodyS l ⟨#[77, 69, 83, 83, 65, 71, 69, 45, 73, 68]⟩]
theorem envB_is (l : List Fl) : listT (bytesL (envB l)) = envT l := by
  have hn : ∀ K : ByteArray, (adS l K ⟨#[78, 73, 76]⟩).data.toList = adT (bodyOf K.data.toList l) := fun K => by
    rw [show (⟨#[78, 73, 76]⟩ : ByteArray) = mkB nilL from rfl, adS_or, orT_nil]
  have hF : adS l ⟨#[70, 82, 79, 77]⟩ ⟨#[78, 73, 76]⟩ = mkB (adT (bodyOf [70, 82, 79, 77] l)) := by
    apply ByteArray.ext
    apply Array.ext'
    exact hn _
  unfold envB envT bytesL
  rw [hF]
  simp only [List.map_cons, List.map_nil, hn, adS_or]
  rfl
theorem envB_total (l : List Fl) (h : FlsOk l) : total (bytesL (envB l)) ≤ 2147483648 := by
  have h0 : (⟨#[78, 73, 76]⟩ : ByteArray).data.toList.length ≤ 200000000 := by decide
  have hF := adS_len l h ⟨#[70, 82, 79, 77]⟩ ⟨#[78, 73, 76]⟩ h0
  have b1 := bodyS_len l h ⟨#[68, 65, 84, 69]⟩
  have b2 := bodyS_len l h ⟨#[83, 85, 66, 74, 69, 67, 84]⟩
  have b3 := bodyS_len l h ⟨#[73, 78, 45, 82, 69, 80, 76, 89, 45, 84, 79]⟩
  have b4 := bodyS_len l h ⟨#[77, 69, 83, 83, 65, 71, 69, 45, 73, 68]⟩
  have a1 := adS_len l h ⟨#[83, 69, 78, 68, 69, 82]⟩ _ hF
  have a2 := adS_len l h ⟨#[82, 69, 80, 76, 89, 45, 84, 79]⟩ _ hF
  have a3 := adS_len l h ⟨#[84, 79]⟩ ⟨#[78, 73, 76]⟩ h0
  have a4 := adS_len l h ⟨#[67, 67]⟩ ⟨#[78, 73, 76]⟩ h0
  have a5 := adS_len l h ⟨#[66, 67, 67]⟩ ⟨#[78, 73, 76]⟩ h0
  unfold envB bytesL
  simp only [List.map_cons, List.map_nil, total_cons]
  have : total ([] : List (List UInt8)) = 0 := rfl
  omega

set_option maxRecDepth 100000 in
set_option maxHeartbeats 2000000 in
theorem implEnvelope_any (s : ByteArray) (w : World) (hs : s.size ≤ 1048576) (hM : MaxLenAt w) (ht : Tens w) :
    Calls Tryz.prog 25 #[.string s] w fun e w' => e = .returned (.string (mkB (envT (fieldsL s.data.toList)))) ∧ Below w.heap.size w w' := by
  have IF := Lib.hid (implFields_is s w hM hs)
  have hok := fields_ok s.data.toList (by simpa using hs)
  have hb := fieldsL_bounds s.data.toList
  generalize fieldsL s.data.toList = l at IF hok hb
  have TE := Lib.hid (fun W (h : Below w.heap.size w W) => ht.later h)
  obtain ⟨full, hfull⟩ := full_exists (l := l) (fun f hf => by have := hok.2 f hf; omega)
  have HT := Lib.hid (show Tells (mapOf full) l from fun name => mapOf_tells hfull name)
  have SI := Lib.hid (fun b K hK hk w hown ht => stringIn_any l (mapOf full) HT.out b full.length K hK hk w hown (hok.body _) ht)
  have AI := Lib.hid (fun b K X hK hk w hown ht => addrsIn_any l (mapOf full) HT.out b full.length K X hK hk w hown (hok.body _) ht)
  have LT := Lib.hid (fun w v hv => listText_any v (envB l) w hv (by simp [envB]) (envB_total l hok))
  rw [envB_is] at LT
  have BI := Lib.hid (fun w p cap hv => callsIn_wide.1 (bodies_in p cap l full hok.1 hfull w hv))
  clear hM ht hfull hok
  go_enter Tryz.func25, Tryz.ntmps25
  go_wp2_with fail
  refine IF.out.mono ?_
  rintro e w1 ⟨va, rfl, hr, hB⟩
  have hva := fls_of_row hr
  obtain ⟨p, cap, rfl⟩ := row_slice hr
  have HV := Lib.hid hva
  have B1 := Lib.hid hB
  clear hB hr hva IF
  go_wp2_with fail
  refine (BI.out _ _ _ HV.out).mono ?_
  rintro e w2 ⟨rfl, hown, hB⟩
  have B2 := Lib.hid (B1.out.trans (hB.mono B1.out.size))
  have O2 := Lib.hid hown
  obtain ⟨mb, hmb⟩ : ∃ mb, w1.heap.size = mb := ⟨_, rfl⟩
  rw [hmb] at O2 ⊢
  clear hB hown HV BI B1 hmb
  go_wp2_with fail
  refine (AI.out _ _ _ (by decide) (by decide) _ O2.out (TE.out _ B2.out)).mono ?_
  rintro e w3 ⟨rfl, hB⟩
  have B3 := Lib.hid (B2.out.trans (hB.mono B2.out.size))
  have O3 := Lib.hid (own_below O2.out hB)
  obtain ⟨F, hF⟩ : ∃ F, adS l ⟨#[70, 82, 79, 77]⟩ ⟨#[78, 73, 76]⟩ = F := ⟨_, rfl⟩
  have HF := Lib.hid hF
  rw [hF]
  clear hB O2 B2 hF
  go_wp2_with fail
  refine (SI.out _ _ (by decide) (by decide) _ O3.out (TE.out _ B3.out)).mono ?_
  rintro e w4 ⟨rfl, hB⟩
  have B4 := Lib.hid (B3.out.trans (hB.mono B3.out.size))
  have O4 := Lib.hid (own_below O3.out hB)
  obtain ⟨X0, hX⟩ : ∃ X, bodyS l ⟨#[68, 65, 84, 69]⟩ = X := ⟨_, rfl⟩
  have HX0 := Lib.hid hX
  rw [hX]
  clear hB O3 B3 hX
  go_wp2_with fail
  refine (SI.out _ _ (by decide) (by decide) _ O4.out (TE.out _ B4.out)).mono ?_
  rintro e w5 ⟨rfl, hB⟩
  have B5 := Lib.hid (B4.out.trans (hB.mono B4.out.size))
  have O5 := Lib.hid (own_below O4.out hB)
  obtain ⟨X1, hX⟩ : ∃ X, bodyS l ⟨#[83, 85, 66, 74, 69, 67, 84]⟩ = X := ⟨_, rfl⟩
  have HX1 := Lib.hid hX
  rw [hX]
  clear hB O4 B4 hX
  go_wp2_with fail
  refine (AI.out _ _ _ (by decide) (by decide) _ O5.out (TE.out _ B5.out)).mono ?_
  rintro e w6 ⟨rfl, hB⟩
  have B6 := Lib.hid (B5.out.trans (hB.mono B5.out.size))
  have O6 := Lib.hid (own_below O5.out hB)
  obtain ⟨X3, hX⟩ : ∃ X, adS l ⟨#[83, 69, 78, 68, 69, 82]⟩ F = X := ⟨_, rfl⟩
  have HX3 := Lib.hid hX
  rw [hX]
  clear hB O5 B5 hX
  go_wp2_with fail
  refine (AI.out _ _ _ (by decide) (by decide) _ O6.out (TE.out _ B6.out)).mono ?_
  rintro e w7 ⟨rfl, hB⟩
  have B7 := Lib.hid (B6.out.trans (hB.mono B6.out.size))
  have O7 := Lib.hid (own_below O6.out hB)
  obtain ⟨X4, hX⟩ : ∃ X, adS l ⟨#[82, 69, 80, 76, 89, 45, 84, 79]⟩ F = X := ⟨_, rfl⟩
  have HX4 := Lib.hid hX
  rw [hX]
  clear hB O6 B6 hX
  go_wp2_with fail
  refine (AI.out _ _ _ (by decide) (by decide) _ O7.out (TE.out _ B7.out)).mono ?_
  rintro e w8 ⟨rfl, hB⟩
  have B8 := Lib.hid (B7.out.trans (hB.mono B7.out.size))
  have O8 := Lib.hid (own_below O7.out hB)
  obtain ⟨X5, hX⟩ : ∃ X, adS l ⟨#[84, 79]⟩ ⟨#[78, 73, 76]⟩ = X := ⟨_, rfl⟩
  have HX5 := Lib.hid hX
  rw [hX]
  clear hB O7 B7 hX
  go_wp2_with fail
  refine (AI.out _ _ _ (by decide) (by decide) _ O8.out (TE.out _ B8.out)).mono ?_
  rintro e w9 ⟨rfl, hB⟩
  have B9 := Lib.hid (B8.out.trans (hB.mono B8.out.size))
  have O9 := Lib.hid (own_below O8.out hB)
  obtain ⟨X6, hX⟩ : ∃ X, adS l ⟨#[67, 67]⟩ ⟨#[78, 73, 76]⟩ = X := ⟨_, rfl⟩
  have HX6 := Lib.hid hX
  rw [hX]
  clear hB O8 B8 hX
  go_wp2_with fail
  refine (AI.out _ _ _ (by decide) (by decide) _ O9.out (TE.out _ B9.out)).mono ?_
  rintro e w10 ⟨rfl, hB⟩
  have B10 := Lib.hid (B9.out.trans (hB.mono B9.out.size))
  have O10 := Lib.hid (own_below O9.out hB)
  obtain ⟨X7, hX⟩ : ∃ X, adS l ⟨#[66, 67, 67]⟩ ⟨#[78, 73, 76]⟩ = X := ⟨_, rfl⟩
  have HX7 := Lib.hid hX
  rw [hX]
  clear hB O9 B9 hX
  go_wp2_with fail
  refine (SI.out _ _ (by decide) (by decide) _ O10.out (TE.out _ B10.out)).mono ?_
  rintro e w11 ⟨rfl, hB⟩
  have B11 := Lib.hid (B10.out.trans (hB.mono B10.out.size))
  have O11 := Lib.hid (own_below O10.out hB)
  obtain ⟨X8, hX⟩ : ∃ X, bodyS l ⟨#[73, 78, 45, 82, 69, 80, 76, 89, 45, 84, 79]⟩ = X := ⟨_, rfl⟩
  have HX8 := Lib.hid hX
  rw [hX]
  clear hB O10 B10 hX
  go_wp2_with fail
  refine (SI.out _ _ (by decide) (by decide) _ O11.out (TE.out _ B11.out)).mono ?_
  rintro e w12 ⟨rfl, hB⟩
  have B12 := Lib.hid (B11.out.trans (hB.mono B11.out.size))
  have O12 := Lib.hid (own_below O11.out hB)
  obtain ⟨X9, hX⟩ : ∃ X, bodyS l ⟨#[77, 69, 83, 83, 65, 71, 69, 45, 73, 68]⟩ = X := ⟨_, rfl⟩
  have HX9 := Lib.hid hX
  rw [hX]
  clear hB O11 B11 hX
  have HE : Hid (envB l = [X0, X1, F, X3, X4, X5, X6, X7, X8, X9]) := Lib.hid (by
    unfold envB
    dsimp only
    rw [HF.out, HX0.out, HX1.out, HX3.out, HX4.out, HX5.out, HX6.out, HX7.out, HX8.out, HX9.out])
  rw [HE.out] at LT
  clear HE HF HX0 HX1 HX3 HX4 HX5 HX6 HX7 HX8 HX9
  have VN := Lib.hid (vals_new w12 [.string X0, .string X1, .string F, .string X3, .string X4, .string X5, .string X6, .string X7, .string X8, .string X9] 9 10)
  go_wp2_with fail
  refine (LT.out _ _ VN.out).mono ?_
  rintro e w13 ⟨rfl, hB⟩
  have B13 := Lib.hid ((B12.out.alloc B12.out.size _).trans (hB.mono (by have := B12.out.size; simp; omega)))
  clear hB
  go_wp2_with fail
  go_ret
  exact ⟨rfl, B13.out⟩

theorem env_concat (X0 X1 F X3 X4 X5 X6 X7 X8 X9 : List UInt8) :
    (⟨#[40]⟩ : ByteArray) ++ mkB X0 ++ ⟨#[32]⟩ ++ mkB X1 ++ ⟨#[32]⟩ ++ mkB F ++ ⟨#[32]⟩ ++ mkB X3 ++ ⟨#[32]⟩ ++ mkB X4 ++ ⟨#[32]⟩ ++ mkB X5 ++ ⟨#[32]⟩ ++ mkB X6 ++ ⟨#[32]⟩ ++ mkB X7 ++ ⟨#[32]⟩ ++ mkB X8 ++ ⟨#[32]⟩ ++ mkB X9 ++ ⟨#[41]⟩ =
      mkB (listT [X0, X1, F, X3, X4, X5, X6, X7, X8, X9]) := by
  apply ByteArray.ext
  apply Array.ext'
  simp [ByteArray.data_append, mkB, listT, joinB, glueT]

set_option maxRecDepth 100000 in
set_option maxHeartbeats 2000000 in
theorem specEnvelope_any (s : ByteArray) (w : World) (hs : s.size ≤ 1048576) :
    Calls Tryz.prog 26 #[.string s] w fun e w' => e = .returned (.string (mkB (envT (fieldsL s.data.toList)))) ∧ Below w.heap.size w w' := by
  have SF := Lib.hid (specFields_any s w hs)
  have hok := fields_ok s.data.toList (by simpa using hs)
  generalize fieldsL s.data.toList = l at SF hok
  have HE : envT l = listT [bodyT (bodyOf [68, 97, 116, 101] l), bodyT (bodyOf [83, 117, 98, 106, 101, 99, 116] l), adT (bodyOf [70, 114, 111, 109] l), orT (adT (bodyOf [83, 101, 110, 100, 101, 114] l)) (adT (bodyOf [70, 114, 111, 109] l)), orT (adT (bodyOf [82, 101, 112, 108, 121, 45, 84, 111] l)) (adT (bodyOf [70, 114, 111, 109] l)), adT (bodyOf [84, 111] l), adT (bodyOf [67, 99] l), adT (bodyOf [66, 99, 99] l), bodyT (bodyOf [73, 110, 45, 82, 101, 112, 108, 121, 45, 84, 111] l), bodyT (bodyOf [77, 101, 115, 115, 97, 103, 101, 45, 73, 68] l)] := by
    unfold envT
    rw [bodyOf_up [68, 65, 84, 69] [68, 97, 116, 101] (by decide) l]
    rw [bodyOf_up [83, 85, 66, 74, 69, 67, 84] [83, 117, 98, 106, 101, 99, 116] (by decide) l]
    rw [bodyOf_up [70, 82, 79, 77] [70, 114, 111, 109] (by decide) l]
    rw [bodyOf_up [83, 69, 78, 68, 69, 82] [83, 101, 110, 100, 101, 114] (by decide) l]
    rw [bodyOf_up [82, 69, 80, 76, 89, 45, 84, 79] [82, 101, 112, 108, 121, 45, 84, 111] (by decide) l]
    rw [bodyOf_up [84, 79] [84, 111] (by decide) l]
    rw [bodyOf_up [67, 67] [67, 99] (by decide) l]
    rw [bodyOf_up [66, 67, 67] [66, 99, 99] (by decide) l]
    rw [bodyOf_up [73, 78, 45, 82, 69, 80, 76, 89, 45, 84, 79] [73, 110, 45, 82, 101, 112, 108, 121, 45, 84, 111] (by decide) l]
    rw [bodyOf_up [77, 69, 83, 83, 65, 71, 69, 45, 73, 68] [77, 101, 115, 115, 97, 103, 101, 45, 73, 68] (by decide) l]
  rw [HE]
  clear HE hs
  obtain ⟨lF, hF⟩ : ∃ X, adT (bodyOf [70, 114, 111, 109] l) = X := ⟨_, rfl⟩
  have nF : lF.length ≤ 200000000 := by rw [← hF]; exact adT_len _ (hok.body _)
  have CF : Hid (∀ v w, FlsAt w v l → Calls Tryz.prog 73 #[v, .string ⟨#[70, 114, 111, 109]⟩] w fun e w' => e = .returned (.string (mkB lF)) ∧ Below w.heap.size w w') := Lib.hid (fun v w hv => by rw [← hF]; exact specAddrs8_any v l _ w hv (by decide) hok)
  obtain ⟨lX0, hX0⟩ : ∃ X, bodyT (bodyOf [68, 97, 116, 101] l) = X := ⟨_, rfl⟩
  have nX0 : lX0.length ≤ 200000000 := by rw [← hX0]; have := bodyT_len (bodyOf [68, 97, 116, 101] l) (hok.body _); omega
  have CX0 : Hid (∀ v w, FlsAt w v l → Calls Tryz.prog 74 #[v, .string ⟨#[68, 97, 116, 101]⟩] w fun e w' => e = .returned (.string (mkB lX0)) ∧ Below w.heap.size w w') := Lib.hid (fun v w hv => by rw [← hX0]; exact specBody8_any v l _ w hv (by decide) hok)
  obtain ⟨lX1, hX1⟩ : ∃ X, bodyT (bodyOf [83, 117, 98, 106, 101, 99, 116] l) = X := ⟨_, rfl⟩
  have nX1 : lX1.length ≤ 200000000 := by rw [← hX1]; have := bodyT_len (bodyOf [83, 117, 98, 106, 101, 99, 116] l) (hok.body _); omega
  have CX1 : Hid (∀ v w, FlsAt w v l → Calls Tryz.prog 74 #[v, .string ⟨#[83, 117, 98, 106, 101, 99, 116]⟩] w fun e w' => e = .returned (.string (mkB lX1)) ∧ Below w.heap.size w w') := Lib.hid (fun v w hv => by rw [← hX1]; exact specBody8_any v l _ w hv (by decide) hok)
  obtain ⟨lX3, hX3⟩ : ∃ X, orT (adT (bodyOf [83, 101, 110, 100, 101, 114] l)) lF = X := ⟨_, rfl⟩
  have nX3 : lX3.length ≤ 200000000 := by rw [← hX3]; exact orT_len (adT_len _ (hok.body _)) nF
  have CX3 : Hid (∀ v w, FlsAt w v l → Calls Tryz.prog 75 #[v, .string ⟨#[83, 101, 110, 100, 101, 114]⟩, .string (mkB lF)] w fun e w' => e = .returned (.string (mkB lX3)) ∧ Below w.heap.size w w') := Lib.hid (fun v w hv => by rw [← hX3]; exact specOr8_any v l _ lF w hv (by decide) hok)
  obtain ⟨lX4, hX4⟩ : ∃ X, orT (adT (bodyOf [82, 101, 112, 108, 121, 45, 84, 111] l)) lF = X := ⟨_, rfl⟩
  have nX4 : lX4.length ≤ 200000000 := by rw [← hX4]; exact orT_len (adT_len _ (hok.body _)) nF
  have CX4 : Hid (∀ v w, FlsAt w v l → Calls Tryz.prog 75 #[v, .string ⟨#[82, 101, 112, 108, 121, 45, 84, 111]⟩, .string (mkB lF)] w fun e w' => e = .returned (.string (mkB lX4)) ∧ Below w.heap.size w w') := Lib.hid (fun v w hv => by rw [← hX4]; exact specOr8_any v l _ lF w hv (by decide) hok)
  obtain ⟨lX5, hX5⟩ : ∃ X, adT (bodyOf [84, 111] l) = X := ⟨_, rfl⟩
  have nX5 : lX5.length ≤ 200000000 := by rw [← hX5]; exact adT_len _ (hok.body _)
  have CX5 : Hid (∀ v w, FlsAt w v l → Calls Tryz.prog 73 #[v, .string ⟨#[84, 111]⟩] w fun e w' => e = .returned (.string (mkB lX5)) ∧ Below w.heap.size w w') := Lib.hid (fun v w hv => by rw [← hX5]; exact specAddrs8_any v l _ w hv (by decide) hok)
  obtain ⟨lX6, hX6⟩ : ∃ X, adT (bodyOf [67, 99] l) = X := ⟨_, rfl⟩
  have nX6 : lX6.length ≤ 200000000 := by rw [← hX6]; exact adT_len _ (hok.body _)
  have CX6 : Hid (∀ v w, FlsAt w v l → Calls Tryz.prog 73 #[v, .string ⟨#[67, 99]⟩] w fun e w' => e = .returned (.string (mkB lX6)) ∧ Below w.heap.size w w') := Lib.hid (fun v w hv => by rw [← hX6]; exact specAddrs8_any v l _ w hv (by decide) hok)
  obtain ⟨lX7, hX7⟩ : ∃ X, adT (bodyOf [66, 99, 99] l) = X := ⟨_, rfl⟩
  have nX7 : lX7.length ≤ 200000000 := by rw [← hX7]; exact adT_len _ (hok.body _)
  have CX7 : Hid (∀ v w, FlsAt w v l → Calls Tryz.prog 73 #[v, .string ⟨#[66, 99, 99]⟩] w fun e w' => e = .returned (.string (mkB lX7)) ∧ Below w.heap.size w w') := Lib.hid (fun v w hv => by rw [← hX7]; exact specAddrs8_any v l _ w hv (by decide) hok)
  obtain ⟨lX8, hX8⟩ : ∃ X, bodyT (bodyOf [73, 110, 45, 82, 101, 112, 108, 121, 45, 84, 111] l) = X := ⟨_, rfl⟩
  have nX8 : lX8.length ≤ 200000000 := by rw [← hX8]; have := bodyT_len (bodyOf [73, 110, 45, 82, 101, 112, 108, 121, 45, 84, 111] l) (hok.body _); omega
  have CX8 : Hid (∀ v w, FlsAt w v l → Calls Tryz.prog 74 #[v, .string ⟨#[73, 110, 45, 82, 101, 112, 108, 121, 45, 84, 111]⟩] w fun e w' => e = .returned (.string (mkB lX8)) ∧ Below w.heap.size w w') := Lib.hid (fun v w hv => by rw [← hX8]; exact specBody8_any v l _ w hv (by decide) hok)
  obtain ⟨lX9, hX9⟩ : ∃ X, bodyT (bodyOf [77, 101, 115, 115, 97, 103, 101, 45, 73, 68] l) = X := ⟨_, rfl⟩
  have nX9 : lX9.length ≤ 200000000 := by rw [← hX9]; have := bodyT_len (bodyOf [77, 101, 115, 115, 97, 103, 101, 45, 73, 68] l) (hok.body _); omega
  have CX9 : Hid (∀ v w, FlsAt w v l → Calls Tryz.prog 74 #[v, .string ⟨#[77, 101, 115, 115, 97, 103, 101, 45, 73, 68]⟩] w fun e w' => e = .returned (.string (mkB lX9)) ∧ Below w.heap.size w w') := Lib.hid (fun v w hv => by rw [← hX9]; exact specBody8_any v l _ w hv (by decide) hok)
  rw [hF, hX0, hX1, hX3, hX4, hX5, hX6, hX7, hX8, hX9]
  have HJ := env_concat lX0 lX1 lF lX3 lX4 lX5 lX6 lX7 lX8 lX9
  clear hF hX0 hX1 hX3 hX4 hX5 hX6 hX7 hX8 hX9 hok
  have mX0 : (mkB lX0).size ≤ 200000000 := by rw [mkB_size]; exact nX0
  have mX1 : (mkB lX1).size ≤ 200000000 := by rw [mkB_size]; exact nX1
  have mF : (mkB lF).size ≤ 200000000 := by rw [mkB_size]; exact nF
  have mX3 : (mkB lX3).size ≤ 200000000 := by rw [mkB_size]; exact nX3
  have mX4 : (mkB lX4).size ≤ 200000000 := by rw [mkB_size]; exact nX4
  have mX5 : (mkB lX5).size ≤ 200000000 := by rw [mkB_size]; exact nX5
  have mX6 : (mkB lX6).size ≤ 200000000 := by rw [mkB_size]; exact nX6
  have mX7 : (mkB lX7).size ≤ 200000000 := by rw [mkB_size]; exact nX7
  have mX8 : (mkB lX8).size ≤ 200000000 := by rw [mkB_size]; exact nX8
  have mX9 : (mkB lX9).size ≤ 200000000 := by rw [mkB_size]; exact nX9
  clear nX0 nX1 nF nX3 nX4 nX5 nX6 nX7 nX8 nX9
  generalize mkB (listT [lX0, lX1, lF, lX3, lX4, lX5, lX6, lX7, lX8, lX9]) = E at HJ ⊢
  generalize mkB lX0 = X0 at HJ mX0 CX0
  generalize mkB lX1 = X1 at HJ mX1 CX1
  generalize mkB lF = F at HJ mF CF CX3 CX4
  generalize mkB lX3 = X3 at HJ mX3 CX3
  generalize mkB lX4 = X4 at HJ mX4 CX4
  generalize mkB lX5 = X5 at HJ mX5 CX5
  generalize mkB lX6 = X6 at HJ mX6 CX6
  generalize mkB lX7 = X7 at HJ mX7 CX7
  generalize mkB lX8 = X8 at HJ mX8 CX8
  generalize mkB lX9 = X9 at HJ mX9 CX9
  have p0 : ¬ 9223372036854775807 < 1 + X0.size := by omega
  have p1 : ¬ 9223372036854775807 < 1 + X0.size + 1 := by clear p0; omega
  have p2 : ¬ 9223372036854775807 < 1 + X0.size + 1 + X1.size := by clear p0 p1; omega
  have p3 : ¬ 9223372036854775807 < 1 + X0.size + 1 + X1.size + 1 := by clear p0 p1 p2; omega
  have p4 : ¬ 9223372036854775807 < 1 + X0.size + 1 + X1.size + 1 + F.size := by clear p0 p1 p2 p3; omega
  have p5 : ¬ 9223372036854775807 < 1 + X0.size + 1 + X1.size + 1 + F.size + 1 := by clear p0 p1 p2 p3 p4; omega
  have p6 : ¬ 9223372036854775807 < 1 + X0.size + 1 + X1.size + 1 + F.size + 1 + X3.size := by clear p0 p1 p2 p3 p4 p5; omega
  have p7 : ¬ 9223372036854775807 < 1 + X0.size + 1 + X1.size + 1 + F.size + 1 + X3.size + 1 := by clear p0 p1 p2 p3 p4 p5 p6; omega
  have p8 : ¬ 9223372036854775807 < 1 + X0.size + 1 + X1.size + 1 + F.size + 1 + X3.size + 1 + X4.size := by clear p0 p1 p2 p3 p4 p5 p6 p7; omega
  have p9 : ¬ 9223372036854775807 < 1 + X0.size + 1 + X1.size + 1 + F.size + 1 + X3.size + 1 + X4.size + 1 := by clear p0 p1 p2 p3 p4 p5 p6 p7 p8; omega
  have p10 : ¬ 9223372036854775807 < 1 + X0.size + 1 + X1.size + 1 + F.size + 1 + X3.size + 1 + X4.size + 1 + X5.size := by clear p0 p1 p2 p3 p4 p5 p6 p7 p8 p9; omega
  have p11 : ¬ 9223372036854775807 < 1 + X0.size + 1 + X1.size + 1 + F.size + 1 + X3.size + 1 + X4.size + 1 + X5.size + 1 := by clear p0 p1 p2 p3 p4 p5 p6 p7 p8 p9 p10; omega
  have p12 : ¬ 9223372036854775807 < 1 + X0.size + 1 + X1.size + 1 + F.size + 1 + X3.size + 1 + X4.size + 1 + X5.size + 1 + X6.size := by clear p0 p1 p2 p3 p4 p5 p6 p7 p8 p9 p10 p11; omega
  have p13 : ¬ 9223372036854775807 < 1 + X0.size + 1 + X1.size + 1 + F.size + 1 + X3.size + 1 + X4.size + 1 + X5.size + 1 + X6.size + 1 := by clear p0 p1 p2 p3 p4 p5 p6 p7 p8 p9 p10 p11 p12; omega
  have p14 : ¬ 9223372036854775807 < 1 + X0.size + 1 + X1.size + 1 + F.size + 1 + X3.size + 1 + X4.size + 1 + X5.size + 1 + X6.size + 1 + X7.size := by clear p0 p1 p2 p3 p4 p5 p6 p7 p8 p9 p10 p11 p12 p13; omega
  have p15 : ¬ 9223372036854775807 < 1 + X0.size + 1 + X1.size + 1 + F.size + 1 + X3.size + 1 + X4.size + 1 + X5.size + 1 + X6.size + 1 + X7.size + 1 := by clear p0 p1 p2 p3 p4 p5 p6 p7 p8 p9 p10 p11 p12 p13 p14; omega
  have p16 : ¬ 9223372036854775807 < 1 + X0.size + 1 + X1.size + 1 + F.size + 1 + X3.size + 1 + X4.size + 1 + X5.size + 1 + X6.size + 1 + X7.size + 1 + X8.size := by clear p0 p1 p2 p3 p4 p5 p6 p7 p8 p9 p10 p11 p12 p13 p14 p15; omega
  have p17 : ¬ 9223372036854775807 < 1 + X0.size + 1 + X1.size + 1 + F.size + 1 + X3.size + 1 + X4.size + 1 + X5.size + 1 + X6.size + 1 + X7.size + 1 + X8.size + 1 := by clear p0 p1 p2 p3 p4 p5 p6 p7 p8 p9 p10 p11 p12 p13 p14 p15 p16; omega
  have p18 : ¬ 9223372036854775807 < 1 + X0.size + 1 + X1.size + 1 + F.size + 1 + X3.size + 1 + X4.size + 1 + X5.size + 1 + X6.size + 1 + X7.size + 1 + X8.size + 1 + X9.size := by clear p0 p1 p2 p3 p4 p5 p6 p7 p8 p9 p10 p11 p12 p13 p14 p15 p16 p17; omega
  have p19 : ¬ 9223372036854775807 < 1 + X0.size + 1 + X1.size + 1 + F.size + 1 + X3.size + 1 + X4.size + 1 + X5.size + 1 + X6.size + 1 + X7.size + 1 + X8.size + 1 + X9.size + 1 := by clear p0 p1 p2 p3 p4 p5 p6 p7 p8 p9 p10 p11 p12 p13 p14 p15 p16 p17 p18; omega
  have HJ' := Lib.hid HJ
  clear HJ mX0 mX1 mF mX3 mX4 mX5 mX6 mX7 mX8 mX9
  go_enter Tryz.func26, Tryz.ntmps26
  go_wp2_with fail
  refine SF.out.mono ?_
  rintro e w1 ⟨va, rfl, hr, hB⟩
  have V1 := Lib.hid (fls_of_row hr)
  have B1 := Lib.hid hB
  clear hB hr SF
  go_wp2_with fail
  refine (CF.out _ _ V1.out).mono ?_
  rintro e w2 ⟨rfl, hB⟩
  have B2 := Lib.hid (B1.out.trans (hB.mono B1.out.size))
  have V2 := Lib.hid (V1.out.later hB (Nat.le_refl _))
  clear hB V1 B1 CF
  go_wp2_with fail
  refine (CX0.out _ _ V2.out).mono ?_
  rintro e w3 ⟨rfl, hB⟩
  have B3 := Lib.hid (B2.out.trans (hB.mono B2.out.size))
  have V3 := Lib.hid (V2.out.later hB (Nat.le_refl _))
  clear hB V2 B2 CX0
  go_wp2_with fail
  refine (CX1.out _ _ V3.out).mono ?_
  rintro e w4 ⟨rfl, hB⟩
  have B4 := Lib.hid (B3.out.trans (hB.mono B3.out.size))
  have V4 := Lib.hid (V3.out.later hB (Nat.le_refl _))
  clear hB V3 B3 CX1
  go_wp2_with fail
  refine (CX3.out _ _ V4.out).mono ?_
  rintro e w5 ⟨rfl, hB⟩
  have B5 := Lib.hid (B4.out.trans (hB.mono B4.out.size))
  have V5 := Lib.hid (V4.out.later hB (Nat.le_refl _))
  clear hB V4 B4 CX3
  go_wp2_with fail
  refine (CX4.out _ _ V5.out).mono ?_
  rintro e w6 ⟨rfl, hB⟩
  have B6 := Lib.hid (B5.out.trans (hB.mono B5.out.size))
  have V6 := Lib.hid (V5.out.later hB (Nat.le_refl _))
  clear hB V5 B5 CX4
  go_wp2_with fail
  refine (CX5.out _ _ V6.out).mono ?_
  rintro e w7 ⟨rfl, hB⟩
  have B7 := Lib.hid (B6.out.trans (hB.mono B6.out.size))
  have V7 := Lib.hid (V6.out.later hB (Nat.le_refl _))
  clear hB V6 B6 CX5
  go_wp2_with fail
  refine (CX6.out _ _ V7.out).mono ?_
  rintro e w8 ⟨rfl, hB⟩
  have B8 := Lib.hid (B7.out.trans (hB.mono B7.out.size))
  have V8 := Lib.hid (V7.out.later hB (Nat.le_refl _))
  clear hB V7 B7 CX6
  go_wp2_with fail
  refine (CX7.out _ _ V8.out).mono ?_
  rintro e w9 ⟨rfl, hB⟩
  have B9 := Lib.hid (B8.out.trans (hB.mono B8.out.size))
  have V9 := Lib.hid (V8.out.later hB (Nat.le_refl _))
  clear hB V8 B8 CX7
  go_wp2_with fail
  refine (CX8.out _ _ V9.out).mono ?_
  rintro e w10 ⟨rfl, hB⟩
  have B10 := Lib.hid (B9.out.trans (hB.mono B9.out.size))
  have V10 := Lib.hid (V9.out.later hB (Nat.le_refl _))
  clear hB V9 B9 CX8
  go_wp2_with fail
  refine (CX9.out _ _ V10.out).mono ?_
  rintro e w11 ⟨rfl, hB⟩
  have B11 := Lib.hid (B10.out.trans (hB.mono B10.out.size))
  have V11 := Lib.hid (V10.out.later hB (Nat.le_refl _))
  clear hB V10 B10 CX9
  go_wp2_with fail
  go_ret
  exact ⟨by rw [← HJ'.out]; rfl, B11.out⟩
end Go.Proofs.YtgebkpnieailbaaGreatDoor

/-
  The exact law on Envelope.
-/
namespace Go.Proofs.YtgebkpnieailbaaGreatDoor
set_option linter.unusedVariables false
open Go.RowKit

set_option maxHeartbeats 400000 in
theorem exactEnvelope_walk (s : ByteArray) (w : World) (hs : s.size ≤ maxLen) (hsh : w.ShapedOpen Tryz.prog) (ht : Tens w) :
    Calls Tryz.prog 9 #[.string s] w fun e w' => e = .returned (.bool true) ∧ Below w.heap.size w w' := by
  unfold maxLen at hs
  have hM := Lib.hid (maxLenAt_of_shaped hsh)
  have HT := Lib.hid ht
  clear hsh ht
  by_cases h1 : s.size ≤ 1048576
  · have H1 := Lib.hid (fun w => specEnvelope_any s w h1)
    have H2 := Lib.hid (fun w hm ht => implEnvelope_any s w h1 hm ht)
    generalize mkB (envT (fieldsL s.data.toList)) = r at H1 H2
    go_enter Tryz.func9, Tryz.ntmps9
    go_wp2_with fail
    refine (H1.out _).mono ?_
    rintro e w1 ⟨rfl, hB⟩
    have B1 := Lib.hid hB
    clear hB
    go_wp2_with fail
    refine (H2.out _ (hM.out.after B1.out) (HT.out.later B1.out)).mono ?_
    rintro e w2 ⟨rfl, hB⟩
    have B2 := Lib.hid (B1.out.trans (hB.mono B1.out.size))
    clear hB
    go_wp2_with fail
    go_ret
    exact ⟨rfl, B2.out⟩
  · go_enter Tryz.func9, Tryz.ntmps9
    go_wp2
    go_ret
    exact ⟨rfl, Below.refl _ _⟩
end Go.Proofs.YtgebkpnieailbaaGreatDoor
