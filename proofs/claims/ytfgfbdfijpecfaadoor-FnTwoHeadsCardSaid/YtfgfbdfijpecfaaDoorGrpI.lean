/-
  Header fields: the walks of impl's continues and groups.
-/
import Derived.Test.YtfgfbdfijpecfaaDoorGrpP
import Derived.Test.YtfgfbdfijpecfaaDoorShelf
import Derived.Test.YtfgfbdfijpecfaaDoorBoxed
import Derived.Test.YtfgfbdfijpecfaaDoorAppB
namespace Go.Proofs.YtfgfbdfijpecfaaDoor
set_option linter.unusedVariables false
open Go.RowKit

theorem prefix_one (l : List UInt8) (b : UInt8) : Lib.hasPrefix l [b] = (l.head? == some b) := by
  cases l with
  | nil => rfl
  | cons x r =>
    rw [Bool.eq_iff_iff]
    unfold Lib.hasPrefix
    rw [List.isPrefixOf_iff_prefix, List.cons_prefix_cons, beq_iff_eq, List.head?_cons, Option.some.injEq]
    exact ⟨fun h => h.1.symm, fun h => ⟨h.symm, List.nil_prefix⟩⟩
theorem goes_any (s : ByteArray) (w : World) : Calls Tryd.prog 34 #[.string s] w fun e w' => e = .returned (.bool (blankHead s.data.toList)) ∧ w' = w := by
  have H1 := Lib.hid (fun w => Tryd.strings_HasPrefix s ⟨#[32]⟩ w)
  have H2 := Lib.hid (fun w => Tryd.strings_HasPrefix s ⟨#[9]⟩ w)
  rw [show (⟨#[32]⟩ : ByteArray).data.toList = [32] from rfl, prefix_one] at H1
  rw [show (⟨#[9]⟩ : ByteArray).data.toList = [9] from rfl, prefix_one] at H2
  obtain ⟨V, hV⟩ : ∃ V, blankHead s.data.toList = V := ⟨_, rfl⟩
  have hb : V = ((s.data.toList.head? == some 32) || (s.data.toList.head? == some 9)) := by
    rw [← hV]
    cases s.data.toList with
    | nil => rfl
    | cons x r =>
      show blankB x = _
      rw [Bool.eq_iff_iff, blankB_iff]
      simp only [List.head?_cons, Bool.or_eq_true, beq_iff_eq, Option.some.injEq]
      constructor
      · rintro (h | h)
        · exact .inl (UInt8.toNat_inj.1 h)
        · exact .inr (UInt8.toNat_inj.1 h)
      · rintro (rfl | rfl)
        · exact .inl rfl
        · exact .inr rfl
  rw [hV]
  clear hV
  cases h1 : (s.data.toList.head? == some 32) with
  | true =>
    rw [h1] at H1 hb
    obtain rfl : V = true := hb
    clear h1
    go_enter Tryd.func34, Tryd.ntmps34
    go_wp2_with (go_at_call 56; refine (H1.out _).mono ?_; rintro e w' ⟨rfl, rfl⟩)
    go_ret
    exact ⟨rfl, rfl⟩
  | false =>
    rw [h1] at H1 hb
    rw [Bool.false_or] at hb
    rw [← hb] at H2
    clear h1 hb
    go_enter Tryd.func34, Tryd.ntmps34
    go_wp2_with (first | (go_at_call 56; refine (H1.out _).mono ?_; rintro e w' ⟨rfl, rfl⟩) | (go_at_call 56; refine (H2.out _).mono ?_; rintro e w' ⟨rfl, rfl⟩))
    go_ret
    exact ⟨rfl, rfl⟩

theorem infoStrs : (Tryd.prog.info? 41).map (fun i => (i.zero, i.size, i.bytes)) = some (some (.slice none 0 0), 1, 24) := by kernel_rfl
/-- A group as it lies: a piece of the lines. -/
def grpV (g : Nat) (x : Nat × Nat) : Value := .slice (some ⟨g, x.1, none⟩) (x.2 - x.1) (x.2 - x.1)

set_option maxRecDepth 100000 in
set_option maxHeartbeats 1000000 in
theorem groups_any (g cap : Nat) (full : List ByteArray) (w : World) (hg : g < w.heap.size) (hc : ∀ (j : Nat) x, full[j]? = some x → w.cell? ⟨g, j, none⟩ = some (.string x)) (hn : 1 ≤ full.length) (hcap : full.length ≤ cap) (hfull : full.length ≤ 16777216) :
    Calls Tryd.prog 20 #[.slice (some ⟨g, 0, none⟩) full.length cap] w fun e w' => ∃ v, e = .returned v ∧
      w'.ownsRow w.heap.size 41 1 v (grpF (full.map (·.data.toList)) full.length).1.length ((grpF (full.map (·.data.toList)) full.length).1.map (grpV g)) ∧ Below w.heap.size w w' := by
  obtain ⟨i0, hi, hz0, hz1, hz2⟩ := info_parts infoStrs
  obtain ⟨ls, hls⟩ : ∃ ls, full.map (·.data.toList) = ls := ⟨_, rfl⟩
  rw [hls]
  have hlen : ls.length = full.length := by rw [← hls]; simp
  have HLEN := Lib.hid hlen
  have HLS := Lib.hid hls
  have HC := Lib.hid hc
  clear hls hlen hc
  obtain ⟨n, hnn⟩ : ∃ n, full.length = n := ⟨_, rfl⟩
  rw [hnn] at hn hcap hfull HLEN ⊢
  have HN := Lib.hid hnn
  clear hnn
  go_enter Tryd.func20, Tryd.ntmps20
  go_wp2
  go_loopw [3, 4, 5] (fun o fr i wr => ∃ t : Nat, t ≤ n ∧ i = .int .i64 ((t : Int) + 1) ∧ fr = .int .i64 ((grpF ls t).2 : Int) ∧ wr.ownsRow w.heap.size 41 1 o (grpF ls t).1.length ((grpF ls t).1.map (grpV g)) ∧ Below w.heap.size w wr) (fun _ _ i _ => n + 1 - (intOf i).toNat)
  case atStart => exact ⟨0, Nat.zero_le _, rfl, rfl, World.ownsRow_nil _ _ _ _, Below.refl _ _⟩
  case round =>
    obtain ⟨t, ht, rfl, rfl, hown, hB⟩ := hrel
    have hsz := hB.size
    obtain ⟨hle1, hle2, _⟩ := grpF_le ls t
    by_cases hlt : t < n
    · have g1 : decide ((t : Int) + 1 ≤ (n : Int)) = true := by simp; omega
      by_cases hend : t + 1 = n
      · have g2 : (((t : Int) + 1) == (n : Int)) = true := by simp; omega
        have HST := Lib.hid (grpF_cut (ls := ls) (t := t) (.inl (by rw [HLEN.out]; exact hend)))
        generalize hG : grpF ls t = G at hown hle1 hle2 HST
        clear hG
        obtain ⟨xs, fr⟩ := G
        simp only at hown hle1 hle2 HST
        go_wp2_with (at_builtin; refine wpList_append_own _ rfl _ _ 39 rfl w.heap.size 41 i0 (.slice none 0 0) 1 24 Tryd.underlying39 hi hz0 hz1 hz2 rfl (by decide) _ _ _ rfl (hown.alloc _) ⟨wr.heap.size, 0, none⟩ 1 1 [grpV g (fr, n)] rfl rfl (cell_one_new _ _ _) (by simp [Value.oneCell', grpV]) (by unfold maxLen; omega) (by omega) (by rw [World.size_alloc]; omega) ?_; intro v' w1 hown' hgrow _)
        have hB1 : Below w.heap.size w w1 := app_below (hB.alloc hsz _) (hown.alloc _) hgrow
        have HROW : Hid (w1.ownsRow w.heap.size 41 1 v' (xs ++ [(fr, t + 1)]).length ((xs ++ [(fr, t + 1)]).map (grpV g))) := Lib.hid (by
          rw [List.length_append, List.map_append]
          subst hend
          exact hown')
        clear hown' hgrow hown hB
        go_wp2_with fail
        go_roundw
        case rel => exact ⟨t + 1, by omega, by go_num, by rw [HST.out]; go_num, by rw [HST.out]; exact HROW.out, hB1⟩
        case measure => simp [intOf]; omega
      · have g2 : (((t : Int) + 1) == (n : Int)) = false := by simp; omega
        have hlt2 : t + 1 < full.length := by have := HN.out; omega
        have HCL := Lib.hid (fun W (h : Below w.heap.size w W) => (h.cell (p := ⟨g, t + 1, none⟩) hg).trans (HC.out (t + 1) full[t + 1] (List.getElem?_eq_getElem hlt2)))
        have HG := Lib.hid (fun W => goes_any full[t + 1] W)
        have hgo : blankHead full[t + 1].data.toList = goesB ls (t + 1) := by
          unfold goesB
          rw [← HLS.out]
          simp [List.getD_eq_getElem?_getD, hlt2]
        rw [hgo] at HG
        generalize full[t + 1] = X at HCL HG
        have hcl := HCL.out wr hB
        have i1 : (0 : Int) ≤ (t : Int) + 1 := by omega
        have i2 : (t : Int) + 1 < (n : Int) := by omega
        clear hgo hlt2
        cases hgb : goesB ls (t + 1) with
        | true =>
          rw [hgb] at HG
          have HST := Lib.hid (grpF_on (ls := ls) (t := t) (by rw [HLEN.out]; omega) hgb)
          clear hgb
          go_wp2_with (go_at_call 34; refine (HG.out _).mono ?_; rintro e w' ⟨rfl, hw⟩; rw [hw]; clear hw w')
          go_roundw
          case rel => exact ⟨t + 1, by omega, by go_num, by rw [HST.out], by rw [HST.out]; exact hown, hB⟩
          case measure => simp [intOf]; omega
        | false =>
          rw [hgb] at HG
          have HST := Lib.hid (grpF_cut (ls := ls) (t := t) (.inr hgb))
          generalize hG : grpF ls t = G at hown hle1 hle2 HST
          clear hG hgb
          obtain ⟨xs, fr⟩ := G
          simp only at hown hle1 hle2 HST
          have i3 : (0 : Int) ≤ (fr : Int) := by omega
          have i4 : (fr : Int) ≤ (t : Int) + 1 := by omega
          have i5 : (t : Int) + 1 ≤ (cap : Int) := by omega
          go_wp2_with (first | (go_at_call 34; refine (HG.out _).mono ?_; rintro e w' ⟨rfl, hw⟩; rw [hw]; clear hw w') | (at_builtin; refine wpList_append_own _ rfl _ _ 39 rfl w.heap.size 41 i0 (.slice none 0 0) 1 24 Tryd.underlying39 hi hz0 hz1 hz2 rfl (by decide) _ _ _ rfl (hown.alloc _) ⟨wr.heap.size, 0, none⟩ 1 1 [grpV g (fr, t + 1)] rfl rfl (cell_one_new _ _ _) (by simp [Value.oneCell', grpV]) (by unfold maxLen; omega) (by omega) (by rw [World.size_alloc]; omega) ?_; intro v' w1 hown' hgrow _))
          have hB1 : Below w.heap.size w w1 := app_below (hB.alloc hsz _) (hown.alloc _) hgrow
          have HROW : Hid (w1.ownsRow w.heap.size 41 1 v' (xs ++ [(fr, t + 1)]).length ((xs ++ [(fr, t + 1)]).map (grpV g))) := Lib.hid (by
            rw [List.length_append, List.map_append]
            exact hown')
          clear hown' hgrow hown hB
          go_wp2_with fail
          go_roundw
          case rel => exact ⟨t + 1, by omega, by go_num, by rw [HST.out]; go_num, by rw [HST.out]; exact HROW.out, hB1⟩
          case measure => simp [intOf]; omega
    · obtain rfl : t = n := by omega
      have g1 : decide ((t : Int) + 1 ≤ (t : Int)) = false := by simp; omega
      go_wp2
      go_ret
      exact ⟨_, rfl, hown, hB⟩
end Go.Proofs.YtfgfbdfijpecfaaDoor
