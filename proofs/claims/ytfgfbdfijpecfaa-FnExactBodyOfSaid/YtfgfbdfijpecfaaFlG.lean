/-
  Header fields: the walk of spec's Fields.
-/
import Derived.Test.YtfgfbdfijpecfaaFlS
import Derived.Test.YtfgfbdfijpecfaaFlF
import Derived.Test.YtfgfbdfijpecfaaTwoG
import Derived.Deep.RegionHeld3
import Derived.StillTailTactics
namespace Go.Proofs.Ytfgfbdfijpecfaa
set_option linter.unusedVariables false
open Go.RowKit

theorem infoFl : (Try.prog.info? 35).map (fun i => (i.zero, i.size, i.bytes)) = some (some (.agg #[.string ⟨#[]⟩, .string ⟨#[]⟩]), 2, 32) := by kernel_rfl
/-- The call hands back a slice that owns the fields l; nothing that was there has turned. -/
def GivesFls (l : List Fl) (w : World) (e : Ending) (w' : World) : Prop :=
  ∃ v, e = .returned v ∧ w'.ownsRow w.heap.size 35 2 v l.length (flCells l) ∧ Below w.heap.size w w'

theorem blank_any (b : UInt8) (w : World) : Calls Try.prog 53 #[.int .u8 (b.toNat : Int)] w fun e w' => e = .returned (.bool (blankB b)) ∧ w' = w := by
  cases h : blankB b with
  | true =>
    have h2 := (blankB_iff b).1 h
    exact blank_yes _ w (by omega)
  | false =>
    have h2 : ¬ (b.toNat = 32 ∨ b.toNat = 9) := fun x => by rw [(blankB_iff b).2 x] at h; cases h
    exact blank_no _ w (by omega) (by omega)

theorem drop_cons {α : Type} (l : List α) (k : Nat) (h : k < l.length) : l.drop k = l[k] :: l.drop (k + 1) := List.drop_eq_getElem_cons h
theorem row_lat {w w' : World} {B k : Nat} {e : TypeId} {n : Nat} {v : Value} {xs : List Value} (h : w.ownsRow B e k v n xs) (hb : Below w.heap.size w w') : w'.ownsRow B e k v n xs :=
  h.kept (row := none) ⟨hb.os, hb.tape, hb.output, hb.size, fun k hk _ => hb.block k hk⟩ (by
    cases hv : v.ownBlock with
    | none => exact .inl rfl
    | some g => exact .inr (by simp))
theorem row_baseL {w : World} {base base' k : Nat} {e : TypeId} {v : Value} {n : Nat} {xs : List Value} (h : w.ownsRow base e k v n xs) (hb : base' ≤ base) : w.ownsRow base' e k v n xs := by
  obtain ⟨h1, h | ⟨g, cap, cur, h2, h3, h4⟩⟩ := h
  · exact ⟨h1, .inl h⟩
  · exact ⟨h1, .inr ⟨g, cap, cur, h2, Nat.le_trans hb h3, h4⟩⟩
theorem cell_two_new (w : World) (a b : Value) (T : TypeId) (g : Nat) (hg : g = w.heap.size) : ∀ j u, [a, b][j]? = some u → (w.alloc (.cells #[a, b] T)).cell? ((⟨g, 0, none⟩ : Addr).add j) = some u := by
  subst hg
  intro j u h
  match j, h with
  | 0, h => rw [← Option.some.inj h]; exact cells2_0 w a b T
  | 1, h => rw [← Option.some.inj h]; exact cells2_1 w a b T
  | j + 2, h => simp at h
theorem cellAt_str {w : World} {B : Nat} {e : TypeId} {g cap n : Nat} {l : List (List UInt8)} (h : w.ownsRow B e 1 (.slice (some ⟨g, 0, none⟩) n cap) n ((l.map mkB).map Value.string)) (k : Nat) (hk : k < l.length) (hn : n = l.length) : w.cell? ⟨g, k, none⟩ = some (.string (mkB (l[k]))) := by
  have := h.cellAt k (by omega)
  rw [this]
  simp [hk]
theorem row_slice {w : World} {B k : Nat} {e : TypeId} {v : Value} {n : Nat} {xs : List Value} (h : w.ownsRow B e k v n xs) : ∃ p cap, v = .slice p n cap := by
  rcases h with ⟨_, ⟨rfl, rfl⟩ | ⟨g, cap, cur, rfl, _⟩⟩
  · exact ⟨_, _, rfl⟩
  · exact ⟨_, _, rfl⟩
theorem row_slice1 {w : World} {B k : Nat} {e : TypeId} {v : Value} {n : Nat} {xs : List Value} (h : w.ownsRow B e k v n xs) (hn : 0 < n) : ∃ g cap, v = .slice (some ⟨g, 0, none⟩) n cap := by
  rcases h with ⟨_, ⟨rfl, rfl⟩ | ⟨g, cap, cur, rfl, _⟩⟩
  · omega
  · exact ⟨_, _, rfl⟩

set_option maxRecDepth 100000 in
set_option maxHeartbeats 2000000 in
theorem specFields_any (s : ByteArray) (w : World) (hs : s.size ≤ 1048576) :
    Calls Try.prog 44 #[.string s] w (GivesFls (fieldsL s.data.toList) w) := by
  obtain ⟨i0, hi, hz0, hz1, hz2⟩ := info_parts infoStr
  obtain ⟨j0, hj, hy0, hy1, hy2⟩ := info_parts infoFl
  obtain ⟨R, hR⟩ : ∃ R, fieldsL s.data.toList = R := ⟨_, rfl⟩
  rw [hR]
  unfold fieldsL at hR
  have htl := total_lines s.data.toList.length [] s.data.toList (Nat.le_refl _)
  have SL := Lib.hid (fun w => specLines_any s w (by omega))
  generalize linesA [] s.data.toList = lines at hR htl SL
  obtain ⟨T, hT⟩ : ∃ T, joinT [] lines = T := ⟨_, rfl⟩
  rw [hT] at hR
  have HR := Lib.hid hR
  have HT0 : Hid (joinT [] (lines.drop 0) = T) := Lib.hid (by rw [List.drop_zero]; exact hT)
  obtain ⟨htl1, htl2⟩ := htl
  have hlb : lines.length ≤ 1048577 := by simp at htl2; omega
  have HTL : Hid (total lines ≤ 1048576) := Lib.hid (by simp at htl1; omega)
  clear hR hT htl1 htl2
  go_enter Try.func44, Try.ntmps44
  go_wp2_with fail
  refine (SL.out _).mono ?_
  rintro e w1 ⟨vl, rfl, hl1, hBl⟩
  obtain ⟨pl, cl, rfl⟩ := row_slice hl1
  rw [List.length_map] at hl1
  rw [List.length_map]
  have HL1 := Lib.hid hl1
  have HB1 : Hid (Below w.heap.size w w1) := Lib.hid (((Below.refl _ _).alloc (Nat.le_refl _) _).trans (hBl.mono (by simp)))
  have HO1 : Hid (w1.ownsRow w.heap.size 9 1 (.slice (some ⟨w.heap.size, 0, none⟩) 0 0) 0 []) := Lib.hid (row_below (World.ownsRow_lit w #[] 0 (Nat.le_refl _) (by decide) rfl) hBl)
  have HA1 : Hid (Apart (.slice (some ⟨w.heap.size, 0, none⟩) 0 0) (.slice pl lines.length cl)) := Lib.hid (by
    intro g hg hx
    have h1 := (hl1.lt g hx).1
    have h2 : some w.heap.size = some g := hg
    have := Option.some.inj h2
    simp at h1
    omega)
  clear hl1 hBl
  go_wp2_with fail
  go_loopw [3, 5] (fun o i wr => ∃ (k : Nat) (acc : List (List UInt8)), k ≤ lines.length ∧ i = .int .i64 (k : Int) ∧ Hid (joinT acc (lines.drop k) = T) ∧ acc.length ≤ k ∧ Hid (total acc + total (lines.drop k) ≤ 1048576) ∧ wr.ownsRow w.heap.size 9 1 o acc.length ((acc.map mkB).map Value.string) ∧ Apart o (.slice pl lines.length cl) ∧ wr.ownsRow (w.heap.size + 1) 9 1 (.slice pl lines.length cl) lines.length ((lines.map mkB).map Value.string) ∧ Below w.heap.size w wr) (fun _ i _ => lines.length - (intOf i).toNat)
  case atStart => exact ⟨0, [], Nat.zero_le _, rfl, HT0, Nat.le_refl _, Lib.hid (by rw [List.drop_zero]; simpa [total] using HTL.out), HO1.out, HA1.out, by simpa using HL1.out, HB1.out⟩
  case round =>
    obtain ⟨k, acc, hk, rfl, HP, hacc, HTO, hown, hap, hlin, hB⟩ := hrel
    have hsz := hB.size
    by_cases hlt : k < lines.length
    · have g1 : decide ((k : Int) < (lines.length : Int)) = true := by simp; omega
      have i1 : (0 : Int) ≤ (k : Int) := by omega
      have i2 : (k : Int) < (lines.length : Int) := by omega
      obtain ⟨gl, cl2, hgl⟩ := row_slice1 hlin (by omega)
      injection hgl with hgl1 hgl2 hgl3
      subst hgl1 hgl3
      have hcell := cellAt_str hlin k hlt rfl
      have HP2 := HP.out
      have HTO2 := HTO.out
      rw [drop_cons lines k hlt, joinT] at HP2
      rw [drop_cons lines k hlt, total_cons] at HTO2
      generalize hq : lines[k] = q at hcell HP2 HTO2
      have HT1 : Hid (total (addLine acc q) + total (lines.drop (k + 1)) ≤ 1048576) := Lib.hid (by rw [total_addLine]; omega)
      have hqs : (mkB q).size ≤ 1048576 := by rw [mkB_size]; omega
      clear HTO HTO2 HP hq
      cases q with
      | nil =>
        obtain ⟨q, hq0⟩ : ∃ q : List UInt8, q = [] := ⟨_, rfl⟩
        have HJ : Hid (joinT (acc ++ [q]) (lines.drop (k + 1)) = T) := Lib.hid (by rw [hq0]; exact HP2)
        rw [show addLine acc [] = acc ++ [q] by rw [hq0]; rfl] at HT1
        rw [← hq0] at hcell hqs
        have hue : (mkB q).toList.isEmpty = true := by rw [Lib.toList_data, mkB_list, hq0]; rfl
        have BL := Lib.hid (fun w => blank_any 0 w)
        clear HP2
        clear hq0
        go_wp2_with (first | (go_at_call 53; refine (BL.out _).mono ?_; rintro e wz ⟨rfl, hwz⟩; rw [hwz]; clear hwz wz) | (at_builtin; refine wpList_append_whereG rfl _ _ 47 rfl w.heap.size 9 i0 (.string ⟨#[]⟩) 1 16 Try.underlying47 hi hz0 hz1 hz2 rfl (by decide) (by decide) _ _ _ rfl (hown.alloc _) ⟨wr.heap.size, 0, none⟩ 1 1 [.string (mkB q)] rfl rfl (cell_one_new _ _ _) (by simp [Value.oneCell']) (by omega) (by simp; omega) ?_; intro v' w1 hown' hgrow hwh))
        have hL1 := row_staysG (hlin.alloc (.cells #[.string (mkB q)] 9)) hgrow hap
        have hB1 : Below w.heap.size w w1 := (hB.alloc hsz _).grown hgrow (by simp; omega) (fun k e => (hown.lt k e).1)
        have hA1 := Apart.more hap (hlin.alloc (.cells #[.string (mkB q)] 9)) hwh
        have HROW : Hid (w1.ownsRow w.heap.size 9 1 v' (acc ++ [q]).length (((acc ++ [q]).map mkB).map Value.string)) := Lib.hid (by simpa using hown')
        clear hown' hown hlin hap hB
        go_wp2_with fail
        go_roundw
        case rel => exact ⟨k + 1, acc ++ [q], by omega, by go_num, HJ, by simp; omega, HT1, HROW.out, hA1, hL1, hB1⟩
        case measure => simp [intOf]; omega
      | cons b r =>
        obtain ⟨q, hq0⟩ : ∃ q : List UInt8, q = b :: r := ⟨_, rfl⟩
        rw [← hq0] at hcell HP2 HT1 hqs
        have hue : (mkB q).toList.isEmpty = false := by rw [Lib.toList_data, mkB_list, hq0]; rfl
        have hsz0 : 0 < (mkB q).size := by rw [mkB_size, hq0]; simp
        have hb0 : (mkB q)[0]'hsz0 = b := by
          have : (mkB q).data.toList[0]? = some b := by rw [mkB_list, hq0]; rfl
          rw [List.getElem?_eq_getElem (by rw [mkB_list, hq0]; simp)] at this
          exact Option.some.inj this
        have i3 : (0 : Int) < ((mkB q).size : Int) := by omega
        have BL := Lib.hid (fun w => blank_any b w)
        have hbh : blankHead q = blankB b := by rw [hq0]; rfl
        cases hb : blankB b with
        | false =>
          rw [hb] at BL hbh
          have HJ : Hid (joinT (acc ++ [q]) (lines.drop (k + 1)) = T) := Lib.hid (by rw [← HP2, addLine, hbh]; rfl)
          rw [show addLine acc q = acc ++ [q] by rw [addLine, hbh]; rfl] at HT1
          clear HP2 hbh hq0 hb
          go_wp2_with (first | (go_at_call 53; refine (BL.out _).mono ?_; rintro e wz ⟨rfl, hwz⟩; rw [hwz]; clear hwz wz) | (at_builtin; refine wpList_append_whereG rfl _ _ 47 rfl w.heap.size 9 i0 (.string ⟨#[]⟩) 1 16 Try.underlying47 hi hz0 hz1 hz2 rfl (by decide) (by decide) _ _ _ rfl (hown.alloc _) ⟨wr.heap.size, 0, none⟩ 1 1 [.string (mkB q)] rfl rfl (cell_one_new _ _ _) (by simp [Value.oneCell']) (by omega) (by simp; omega) ?_; intro v' w1 hown' hgrow hwh))
          have hL1 := row_staysG (hlin.alloc (.cells #[.string (mkB q)] 9)) hgrow hap
          have hB1 : Below w.heap.size w w1 := (hB.alloc hsz _).grown hgrow (by simp; omega) (fun k e => (hown.lt k e).1)
          have hA1 := Apart.more hap (hlin.alloc (.cells #[.string (mkB q)] 9)) hwh
          have HROW : Hid (w1.ownsRow w.heap.size 9 1 v' (acc ++ [q]).length (((acc ++ [q]).map mkB).map Value.string)) := Lib.hid (by simpa using hown')
          clear hown' hown hlin hap hB
          go_wp2_with fail
          go_roundw
          case rel => exact ⟨k + 1, acc ++ [q], by omega, by go_num, HJ, by simp; omega, HT1, HROW.out, hA1, hL1, hB1⟩
          case measure => simp [intOf]; omega
        | true =>
          rw [hb] at BL hbh
          by_cases ha : acc.length = 0
          · have HJ : Hid (joinT (acc ++ [q]) (lines.drop (k + 1)) = T) := Lib.hid (by rw [← HP2, addLine, hbh, ha]; rfl)
            rw [show addLine acc q = acc ++ [q] by rw [addLine, hbh, ha]; rfl] at HT1
            have g4 : decide ((0 : Int) < (acc.length : Int)) = false := by rw [ha]; rfl
            have g5 : ¬ (0 < acc.length) := by omega
            obtain ⟨po, co, rfl⟩ := row_slice hown
            clear HP2 hbh hq0 hb ha
            go_wp2_with (first | (go_at_call 53; refine (BL.out _).mono ?_; rintro e wz ⟨rfl, hwz⟩; rw [hwz]; clear hwz wz) | (at_builtin; refine wpList_append_whereG rfl _ _ 47 rfl w.heap.size 9 i0 (.string ⟨#[]⟩) 1 16 Try.underlying47 hi hz0 hz1 hz2 rfl (by decide) (by decide) _ _ _ rfl (hown.alloc _) ⟨wr.heap.size, 0, none⟩ 1 1 [.string (mkB q)] rfl rfl (cell_one_new _ _ _) (by simp [Value.oneCell']) (by omega) (by simp; omega) ?_; intro v' w1 hown' hgrow hwh))
            have hL1 := row_staysG (hlin.alloc (.cells #[.string (mkB q)] 9)) hgrow hap
            have hB1 : Below w.heap.size w w1 := (hB.alloc hsz _).grown hgrow (by simp; omega) (fun k e => (hown.lt k e).1)
            have hA1 := Apart.more hap (hlin.alloc (.cells #[.string (mkB q)] 9)) hwh
            have HROW : Hid (w1.ownsRow w.heap.size 9 1 v' (acc ++ [q]).length (((acc ++ [q]).map mkB).map Value.string)) := Lib.hid (by simpa using hown')
            clear hown' hown hlin hap hB
            go_wp2_with fail
            go_roundw
            case rel => exact ⟨k + 1, acc ++ [q], by omega, by go_num, HJ, by simp; omega, HT1, HROW.out, hA1, hL1, hB1⟩
            case measure => simp [intOf]; omega
          · have hpos : 0 < acc.length := Nat.pos_of_ne_zero ha
            obtain ⟨go, co, rfl⟩ := row_slice1 hown hpos
            have g4 : decide ((0 : Int) < (acc.length : Int)) = true := by simp; omega
            have hal : addLine acc q = acc.set (acc.length - 1) (acc.getD (acc.length - 1) [] ++ q) := by
              rw [addLine, hbh, if_pos]
              simpa using hpos
            rw [hal] at HP2 HT1
            have hca := cellAt_str hown (acc.length - 1) (by omega) rfl
            have hfa := hown.frozenAt (acc.length - 1)
            have hgd : acc.getD (acc.length - 1) [] = acc[acc.length - 1]'(by omega) := by
              rw [List.getD_eq_getElem?_getD, List.getElem?_eq_getElem (by omega)]
              rfl
            rw [hgd] at HP2 HT1
            have hlen1 : acc.length ≤ 1048577 := by omega
            have hq1 : (mkB (acc[acc.length - 1]'(by omega))).size + (mkB q).size ≤ 1048576 := by
              have h1 := HT1.out
              have h2 := total_set acc (acc.length - 1) q (by omega)
              rw [hgd] at h2
              have h3 := total_mem (l := acc) (List.getElem_mem (by omega : acc.length - 1 < acc.length))
              rw [mkB_size, mkB_size]
              omega
            generalize hla : acc[acc.length - 1]'(by omega) = last at hca HP2 HT1 hq1
            have hst := (hown.stored (acc.length - 1) (.string (mkB last ++ mkB q))).1
            have hcat : mkB last ++ mkB q = mkB (last ++ q) := by
              apply ByteArray.ext
              simp [mkB]
            have HST : Hid ((wr.setCell ⟨go, acc.length - 1, none⟩ (.string (mkB last ++ mkB q))).ownsRow w.heap.size 9 1 (.slice (some ⟨go, 0, none⟩) acc.length co) (acc.set (acc.length - 1) (last ++ q)).length (((acc.set (acc.length - 1) (last ++ q)).map mkB).map Value.string)) := Lib.hid (by
              rw [List.length_set, List.map_set, List.map_set, ← hcat]
              exact hst)
            have HG := Lib.hid (grownBy_one wr go (acc.length - 1) (.string (mkB last ++ mkB q)))
            have HL := Lib.hid (row_staysG (v1 := .slice (some ⟨go, 0, none⟩) acc.length co) hlin HG.out hap)
            have HBW : Hid (Below w.heap.size w (wr.setCell ⟨go, acc.length - 1, none⟩ (.string (mkB last ++ mkB q)))) := Lib.hid (hB.grown HG.out hsz (fun k e => (hown.lt k e).1))
            have HJ : Hid (joinT (acc.set (acc.length - 1) (last ++ q)) (lines.drop (k + 1)) = T) := Lib.hid HP2
            have HPOS := Lib.hid hpos
            have HAC := Lib.hid hacc
            have c1 : (0 : Int) ≤ (acc.length : Int) - 1 := by omega
            have c2 : (acc.length : Int) - 1 < (acc.length : Int) := by omega
            have c3 : ((acc.length : Int) - 1).toNat = acc.length - 1 := by omega
            have c5 : IntKind.i64.wrap ((acc.length : Int) - 1) = (acc.length : Int) - 1 := by rw [IntKind.wrap_i64]; omega
            have c4 : ¬ 9223372036854775807 < (mkB last).size + (mkB q).size := by omega
            have g5 : 0 < acc.length := hpos
            have e1 : (1 : Int) ≤ (acc.length : Int) := by omega
            have e2 : 1 ≤ acc.length := hpos
            have e3 : (0 : Int) < (acc.length : Int) := by omega
            have e4 : (0 : Int) ≤ (acc.length : Int) + -1 := by omega
            have HAP := Lib.hid hap
            clear hap
            clear HP2 hbh hq0 hb ha hal hgd hst hcat hla hown hlin hB hpos hacc
            go_wp2_with (first | (go_at_call 53; refine (BL.out _).mono ?_; rintro e wz ⟨rfl, hwz⟩; rw [hwz]; clear hwz wz))
            go_still_tail 16, (by kernel_rfl)
            change wpList _ _ _ _ _ wr.drew
            have hca2 : wr.drew.cell? ⟨go, acc.length - 1, none⟩ = some (.string (mkB last)) := hca
            have hcell2 : wr.drew.cell? ⟨gl, k, none⟩ = some (.string (mkB q)) := hcell
            have hfa2 : wr.drew.frozen? ⟨go, acc.length - 1, none⟩ = false := hfa
            go_wp2_with fail
            go_roundw
            case rel => exact ⟨k + 1, acc.set (acc.length - 1) (last ++ q), by omega, by go_num, HJ, by have := HAC.out; rw [List.length_set]; omega, HT1, HST.out, HAP.out, HL.out, HBW.out.drew⟩
            case measure => simp [intOf]; omega
    · obtain rfl : k = lines.length := by omega
      have HF : Hid (acc = T) := Lib.hid (by have := HP.out; rwa [List.drop_length, joinT] at this)
      have hTt : Hid (total T ≤ 1048576) := Lib.hid (by rw [← HF.out]; have := HTO.out; omega)
      obtain rfl : acc = T := HF.out
      have g1 : decide ((lines.length : Int) < (lines.length : Int)) = false := by simp
      obtain ⟨po, co, rfl⟩ := row_slice hown
      have HOWN := Lib.hid hown
      have HB := Lib.hid hB
      have hal : acc.length ≤ 1048577 := by omega
      clear HP HTO HT0 HTL HL1 HB1 HO1 HA1 SL hown hap hlin hB HF
      obtain ⟨wA, hwA⟩ : ∃ x : World, x = wr := ⟨_, rfl⟩
      rw [← hwA]
      rw [← hwA] at HOWN HB hsz
      clear hwA
      go_wp2_with fail
      go_loopw [6, 7] (fun o i wr => ∃ (k : Nat) (out : List Fl), k ≤ acc.length ∧ i = .int .i64 (k : Int) ∧ Hid (out ++ (acc.drop k).filterMap fieldOf = R) ∧ out.length ≤ k ∧ wr.ownsRow wA.heap.size 35 2 o out.length (flCells out) ∧ Hid (Below wA.heap.size wA wr)) (fun _ i _ => acc.length - (intOf i).toNat)
      case atStart => exact ⟨0, [], Nat.zero_le _, rfl, Lib.hid (by rw [List.drop_zero]; exact HR.out), Nat.le_refl _, World.ownsRow_lit wA #[] 0 (Nat.le_refl _) (by decide) rfl, Lib.hid ((Below.refl _ _).alloc (Nat.le_refl _) _)⟩
      case round =>
        obtain ⟨k, out, hk, rfl, HP, hout, hown, HBA⟩ := hrel
        have hsA := HBA.out.size
        by_cases hlt : k < acc.length
        · have g2 : decide ((k : Int) < (acc.length : Int)) = true := by simp; omega
          have i1 : (0 : Int) ≤ (k : Int) := by omega
          have i2 : (k : Int) < (acc.length : Int) := by omega
          have hrow := row_below HOWN.out HBA.out
          obtain ⟨gt, ct, hgt⟩ := row_slice1 hrow (by omega)
          injection hgt with hgt1 hgt2 hgt3
          subst hgt1 hgt3
          have hcell := cellAt_str hrow k hlt rfl
          have HP2 := HP.out
          rw [drop_cons acc k hlt] at HP2
          have hqs : (mkB (acc[k])).size ≤ 1048576 := by
            have := total_mem (l := acc) (List.getElem_mem hlt)
            have := hTt.out
            rw [mkB_size]; omega
          generalize acc[k] = q at hcell HP2 hqs
          have FS := fun w => specField_any (mkB q) w hqs
          rw [mkB_list] at FS
          cases hf : fieldOf q with
          | none =>
            have HN : Hid (out ++ (acc.drop (k + 1)).filterMap fieldOf = R) := Lib.hid (by rw [← HP2, List.filterMap_cons, hf])
            rw [show fieldV q = .tuple #[.agg #[.string ⟨#[]⟩, .string ⟨#[]⟩], .bool false] by rw [fieldV, hf]] at FS
            have FSH := Lib.hid FS
            clear FS HP2 HP hf hrow
            go_wp2_with (first | (go_at_call 54; refine (FSH.out _).mono ?_; rintro e w3 ⟨rfl, hB3⟩))
            have hB4 : Below wr.heap.size wr (w3.alloc (.cells #[.string ⟨#[]⟩, .string ⟨#[]⟩] 35)) := hB3.alloc hB3.size _
            have HROW := Lib.hid (row_lat hown hB4)
            have HBA4 := Lib.hid (HBA.out.trans (hB4.mono hsA))
            clear hB3 hB4 hown
            go_wp2_with fail
            go_roundw
            case rel => exact ⟨k + 1, out, by omega, by go_num, HN, by omega, HROW.out, HBA4⟩
            case measure => simp [intOf]; omega
          | some f =>
            have HN : Hid ((out ++ [f]) ++ (acc.drop (k + 1)).filterMap fieldOf = R) := Lib.hid (by rw [← HP2, List.filterMap_cons, hf]; simp)
            rw [show fieldV q = .tuple #[.agg #[.string (mkB f.name), .string (mkB f.body)], .bool true] by rw [fieldV, hf]] at FS
            have FSH := Lib.hid FS
            clear FS HP2 HP hf hrow
            go_wp2_with (first | (go_at_call 54; refine (FSH.out _).mono ?_; rintro e w3 ⟨rfl, hB3⟩) | (at_builtin; refine wpList_append_own _ rfl _ _ 26 rfl wA.heap.size 35 j0 (.agg #[.string ⟨#[]⟩, .string ⟨#[]⟩]) 2 32 Try.underlying26 hj hy0 hy1 hy2 rfl (by decide) _ _ _ rfl (row_lat hown ((hB3.alloc hB3.size _).alloc (by have := hB3.size; simp; omega) _)) ⟨w3.heap.size + 1, 0, none⟩ 1 1 [.string (mkB f.name), .string (mkB f.body)] rfl rfl (cell_two_new _ _ _ _ _ (by simp)) (by simp [Value.oneCell']) (by unfold maxLen; omega) (by omega) (by have := hB3.size; simp; omega) ?_; intro v' w5 hown' hgrow _))
            have hB5 : Below wA.heap.size wA w5 := ((HBA.out.trans (hB3.mono hsA)).alloc (by have := hB3.size; omega) _ |>.alloc (by have := hB3.size; simp; omega) _).grown hgrow (by have := hB3.size; simp; omega) (fun k e => (hown.lt k e).1)
            have HROW : Hid (w5.ownsRow wA.heap.size 35 2 v' (out ++ [f]).length (flCells (out ++ [f]))) := Lib.hid (by
              rw [flCells_append]
              simpa [flCells] using hown')
            have HB5 := Lib.hid hB5
            clear hB3 hown hown' hgrow hB5
            go_wp2_with fail
            go_roundw
            case rel => exact ⟨k + 1, out ++ [f], by omega, by go_num, HN, by simp; omega, HROW.out, HB5⟩
            case measure => simp [intOf]; omega
        · obtain rfl : k = acc.length := by omega
          have g2 : decide ((acc.length : Int) < (acc.length : Int)) = false := by simp
          have HN : Hid (out = R) := Lib.hid (by have := HP.out; rw [List.drop_length] at this; simpa using this)
          clear HP
          go_wp2_with fail
          go_ret
          refine ⟨_, rfl, ?_, HB.out.trans (HBA.out.mono hsz)⟩
          rw [← HN.out]
          exact row_baseL hown hsz
end Go.Proofs.Ytfgfbdfijpecfaa
