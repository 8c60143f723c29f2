/-
  Delimiters: the walk of spec's Delims.
-/
import Derived.Test.YtjleadlecdcdeaaDlS
import Derived.Test.YtjleadlecdcdeaaRowG
import Derived.Test.YtjleadlecdcdeaaIn
namespace Go.Proofs.Ytjleadlecdcdeaa
set_option linter.unusedVariables false
open Go.RowKit

theorem infoDl : (Try.prog.info? 40).map (fun i => (i.zero, i.size, i.bytes)) = some (some (.agg #[.int .i64 0, .int .i64 0, .int .i64 0]), 3, 24) := by kernel_rfl
/-- The call hands back a slice that owns the delimiters l; nothing that was there has turned. -/
def GivesDls (l : List Dl) (w : World) (e : Ending) (w' : World) : Prop :=
  ∃ v, e = .returned v ∧ w'.ownsRow w.heap.size 40 3 v l.length (dlCells l) ∧ Below w.heap.size w w'
theorem delimsF_cons (raw mark : List UInt8) (st to k : Nat) (h : k < to) : delimsF raw st to mark (to - k) k =
    if mayBegin raw st k then match delimAt raw k to mark with
      | none => delimsF raw st to mark (to - (k + 1)) (k + 1)
      | some d => if d.last = 1 then [d] else d :: delimsF raw st to mark (to - (k + 1)) (k + 1)
    else delimsF raw st to mark (to - (k + 1)) (k + 1) := by
  rw [show to - k = (to - (k + 1)) + 1 by omega, delimsF, if_pos h]
  rfl

set_option maxRecDepth 100000 in
set_option maxHeartbeats 40000000 in
theorem specDelims_any (s : ByteArray) (a b : Int) (mk : ByteArray) (w : World) (hs : s.size ≤ 1048576) (hmk : mk.size ≤ 1048576)
    (ha : -9223372036854775808 ≤ a ∧ a ≤ 9223372036854775807) (hb : -9223372036854775808 ≤ b ∧ b ≤ 9223372036854775807) :
    Calls Try.prog 16 #[.string s, .int .i64 a, .int .i64 b, .string mk] w (GivesDls (delimsL s.data.toList a b mk.data.toList) w) := by
  obtain ⟨j0, hj, hy0, hy1, hy2⟩ := info_parts infoDl
  obtain ⟨R, hR⟩ : ∃ R, delimsL s.data.toList a b mk.data.toList = R := ⟨_, rfl⟩
  rw [hR]
  unfold delimsL at hR
  have ml : mk.data.toList.length = mk.size := by simp
  have sl : s.data.toList.length = s.size := by simp
  rw [sl] at hR
  by_cases c1 : a < 0
  · have HE : Hid (R = []) := Lib.hid (by rw [← hR, if_pos (by rw [ml]; omega)])
    clear hR
    skip
    go_enter Try.func16, Try.ntmps16
    go_wp2_with fail
    go_ret
    refine ⟨_, rfl, ?_, (Below.refl _ _).alloc (Nat.le_refl _) _⟩
    rw [HE.out]
    exact World.ownsRow_lit w #[] 0 (Nat.le_refl _) (by decide) rfl
  · have c1' : 0 ≤ a := by omega
    by_cases c2 : b < a
    · have HE : Hid (R = []) := Lib.hid (by rw [← hR, if_pos (by rw [ml]; omega)])
      clear hR
      skip
      go_enter Try.func16, Try.ntmps16
      go_wp2_with fail
      go_ret
      refine ⟨_, rfl, ?_, (Below.refl _ _).alloc (Nat.le_refl _) _⟩
      rw [HE.out]
      exact World.ownsRow_lit w #[] 0 (Nat.le_refl _) (by decide) rfl
    · have c2' : a ≤ b := by omega
      by_cases c3 : (s.size : Int) < b
      · have HE : Hid (R = []) := Lib.hid (by rw [← hR, if_pos (by rw [ml]; omega)])
        clear hR
        skip
        go_enter Try.func16, Try.ntmps16
        go_wp2_with fail
        go_ret
        refine ⟨_, rfl, ?_, (Below.refl _ _).alloc (Nat.le_refl _) _⟩
        rw [HE.out]
        exact World.ownsRow_lit w #[] 0 (Nat.le_refl _) (by decide) rfl
      · have c3' : b ≤ (s.size : Int) := by omega
        by_cases c4 : mk.size < 1 ∨ 70 < mk.size
        · have HE : Hid (R = []) := Lib.hid (by rw [← hR, if_pos (by rw [ml]; omega)])
          clear hR
          have HQ : Hid ((mk.size : Int) < 1 ∨ (70 : Int) < (mk.size : Int)) := Lib.hid (by omega)
          clear c4
          go_enter Try.func16, Try.ntmps16
          go_wp2_with (go_at_call 43; refine (in_no _ _ _ _ HQ.out).mono ?_; rintro e w' ⟨rfl, hw⟩; rw [hw]; clear hw w')
          go_ret
          refine ⟨_, rfl, ?_, (Below.refl _ _).alloc (Nat.le_refl _) _⟩
          rw [HE.out]
          exact World.ownsRow_lit w #[] 0 (Nat.le_refl _) (by decide) rfl
        · rw [if_neg (by rw [ml]; omega)] at hR
          have HQ : Hid ((1 : Int) ≤ (mk.size : Int) ∧ (mk.size : Int) ≤ 70) := Lib.hid (by omega)
          obtain ⟨st, rfl⟩ : ∃ n : Nat, a = (n : Int) := ⟨a.toNat, by omega⟩
          obtain ⟨to, rfl⟩ : ∃ n : Nat, b = (n : Int) := ⟨b.toNat, by omega⟩
          rw [show ((st : Int).toNat) = st by omega, show ((to : Int).toNat) = to by omega] at hR
          have HR : Hid ([] ++ delimsF s.data.toList st to mk.data.toList (to - st) st = R) := Lib.hid (by rw [List.nil_append]; exact hR)
          have hst : st ≤ to := by omega
          have hto : to ≤ s.size := by omega
          have hmk7 : mk.size ≤ 70 := by omega
          have z1 : ¬ (st : Int) < 0 := by omega
          have z2 : ¬ to < st := by omega
          have z3 : ¬ s.size < to := by omega
          have z4 : ¬ (to : Int) < (st : Int) := by omega
          have z5 : ¬ (s.size : Int) < (to : Int) := by omega
          have HO1 : Hid ((w.alloc (.cells #[] 40)).ownsRow w.heap.size 40 3 (.slice (some ⟨w.heap.size, 0, none⟩) 0 0) 0 []) := Lib.hid (World.ownsRow_lit w #[] 0 (Nat.le_refl _) (by decide) rfl)
          have HB1 : Hid (Below w.heap.size w (w.alloc (.cells #[] 40))) := Lib.hid ((Below.refl _ _).alloc (Nat.le_refl _) _)
          clear hR c1 c2 c3 c4 ha hb
          go_enter Try.func16, Try.ntmps16
          go_wp2_with (go_at_call 43; refine (in_yes _ _ _ _ HQ.out.1 HQ.out.2).mono ?_; rintro e w' ⟨rfl, hw⟩; rw [hw]; clear hw w')
          go_loopw [9, 10] (fun o i wr => ∃ (k : Nat) (out : List Dl), st ≤ k ∧ k ≤ to ∧ i = .int .i64 (k : Int) ∧ Hid (out ++ delimsF s.data.toList st to mk.data.toList (to - k) k = R) ∧ out.length ≤ k ∧ wr.ownsRow w.heap.size 40 3 o out.length (dlCells out) ∧ Below w.heap.size w wr) (fun _ i _ => to - (intOf i).toNat)
          case atStart => exact ⟨st, [], Nat.le_refl _, hst, rfl, HR, Nat.zero_le _, HO1.out, HB1.out⟩
          case round =>
            obtain ⟨k, out, hks, hk, rfl, HP, hout, hown, hB⟩ := hrel
            have hsz := hB.size
            clear HR HO1 HB1
            by_cases hlt : k < to
            · have g1 : (k : Int) < (to : Int) := by omega
              have HP2 := HP.out
              rw [delimsF_cons _ _ _ _ _ hlt] at HP2
              have DE := fun w => delim_any s k to mk w hs (by omega) hto hmk7
              by_cases hmb : k = st
              · rw [if_pos (by simp [mayBegin, hmb])] at HP2
                have g2 : ¬ (st : Int) < (k : Int) := by omega
                have g3 : (k : Int) ≤ (st : Int) := by omega
                have g4 : ¬ st < k := by omega
                clear hmb
                cases hd : delimAt s.data.toList k to mk.data.toList with
                | none =>
                  rw [hd] at HP2 DE
                  unfold dlV at DE
                  have HN : Hid (out ++ delimsF s.data.toList st to mk.data.toList (to - (k + 1)) (k + 1) = R) := Lib.hid HP2
                  have DEH := Lib.hid DE
                  clear HP2 DE hd HP
                  go_wp2_with (first | (go_at_call 51; refine (DEH.out _).mono ?_; rintro e w3 ⟨rfl, hB3⟩))
                  have hB4 : Below wr.heap.size wr (w3.alloc (.cells #[.int .i64 0, .int .i64 0, .int .i64 0] 40)) := hB3.alloc hB3.size _
                  have HROW := Lib.hid (row_lat hown hB4)
                  have HB4 := Lib.hid (hB.trans (hB4.mono hsz))
                  clear hB3 hB4 hown
                  go_wp2_with fail
                  go_roundw
                  case rel => exact ⟨k + 1, out, by omega, by omega, by go_num, HN, by omega, HROW.out, HB4.out⟩
                  case measure => simp [intOf]; omega
                | some d =>
                  rw [hd] at HP2 DE
                  unfold dlV at DE
                  have DEH := Lib.hid DE
                  obtain ⟨x1, x2, x3, x4⟩ := delimAt_le hd
                  clear DE hd HP
                  obtain ⟨da, df, dl⟩ := d
                  have hll : dl ≤ 1 := x4
                  have HP3 : out ++ (if dl = 1 then [(⟨da, df, dl⟩ : Dl)] else ⟨da, df, dl⟩ :: delimsF s.data.toList st to mk.data.toList (to - (k + 1)) (k + 1)) = R := HP2
                  clear HP2 x1 x2 x3 x4
                  by_cases hl1 : dl = 1
                  · subst hl1
                    rw [if_pos rfl] at HP3
                    have HF := Lib.hid HP3
                    clear HP3 hll
                    go_wp2_with (first | (go_at_call 51; refine (DEH.out _).mono ?_; rintro e w3 ⟨rfl, hB3⟩) | (at_builtin; refine wpList_append_whereG rfl _ _ 38 rfl w.heap.size 40 j0 (.agg #[.int .i64 0, .int .i64 0, .int .i64 0]) 3 24 Try.underlying38 hj hy0 hy1 hy2 rfl (by decide) (by decide) _ _ _ rfl (row_lat hown ((hB3.alloc hB3.size _).alloc (by have := hB3.size; simp; omega) _)) ⟨w3.heap.size + 1, 0, none⟩ 1 1 [.int .i64 (da : Int), .int .i64 (df : Int), .int .i64 1] rfl rfl (cell_three_new _ _ _ _ _ _ (by simp)) (by simp [Value.oneCell']) (by omega) (by have := hB3.size; simp; omega) ?_; intro v' w5 hown' hgrow hwh; have hd2 : w5.heap[w3.heap.size]? = some (.cells #[.int .i64 (da : Int), .int .i64 (df : Int), .int .i64 1] 40 (0, 0)) := (hgrow.block w3.heap.size (by simp; omega) (fun e => by have h1 := (hown.lt _ e.symm).2; have h2 := hB3.size; omega)).trans ((Below.heap_alloc _ _ _ (by simp)).trans (new_three _ _ _ _ _)); obtain ⟨c0, c1, c2⟩ := three_cells hd2))
                    have hs3 := hB3.size
                    have hB34 : Below wr.heap.size wr ((w3.alloc (.cells #[.int .i64 (da : Int), .int .i64 (df : Int), .int .i64 1] 40)).alloc (.cells #[.int .i64 (da : Int), .int .i64 (df : Int), .int .i64 1] 40)) := (hB3.alloc hs3 _).alloc (by simp; omega) _
                    have hB5 : Below w.heap.size w w5 := (hB.trans (hB34.mono hsz)).grown hgrow (by simp; omega) (fun k e => (hown.lt k e).1)
                    have HROW : Hid (w5.ownsRow w.heap.size 40 3 v' (out ++ [(⟨da, df, 1⟩ : Dl)]).length (dlCells (out ++ [(⟨da, df, 1⟩ : Dl)]))) := Lib.hid (by
                      rw [dlCells_append]
                      simpa [dlCells] using hown')
                    have HB5 := Lib.hid hB5
                    clear hB3 hown hown' hgrow hB5 hB34 hwh hd2 hB c0 c1 c2
                    go_ret
                    refine ⟨_, rfl, ?_, HB5.out⟩
                    rw [← HF.out]
                    exact HROW.out
                  · obtain rfl : dl = 0 := by omega
                    rw [if_neg hl1] at HP3
                    have HN : Hid ((out ++ [(⟨da, df, 0⟩ : Dl)]) ++ delimsF s.data.toList st to mk.data.toList (to - (k + 1)) (k + 1) = R) := Lib.hid (by rw [← HP3]; simp)
                    clear HP3 hll hl1
                    go_wp2_with (first | (go_at_call 51; refine (DEH.out _).mono ?_; rintro e w3 ⟨rfl, hB3⟩) | (at_builtin; refine wpList_append_whereG rfl _ _ 38 rfl w.heap.size 40 j0 (.agg #[.int .i64 0, .int .i64 0, .int .i64 0]) 3 24 Try.underlying38 hj hy0 hy1 hy2 rfl (by decide) (by decide) _ _ _ rfl (row_lat hown ((hB3.alloc hB3.size _).alloc (by have := hB3.size; simp; omega) _)) ⟨w3.heap.size + 1, 0, none⟩ 1 1 [.int .i64 (da : Int), .int .i64 (df : Int), .int .i64 0] rfl rfl (cell_three_new _ _ _ _ _ _ (by simp)) (by simp [Value.oneCell']) (by omega) (by have := hB3.size; simp; omega) ?_; intro v' w5 hown' hgrow hwh; have hd2 : w5.heap[w3.heap.size]? = some (.cells #[.int .i64 (da : Int), .int .i64 (df : Int), .int .i64 0] 40 (0, 0)) := (hgrow.block w3.heap.size (by simp; omega) (fun e => by have h1 := (hown.lt _ e.symm).2; have h2 := hB3.size; omega)).trans ((Below.heap_alloc _ _ _ (by simp)).trans (new_three _ _ _ _ _)); obtain ⟨c0, c1, c2⟩ := three_cells hd2))
                    have hs3 := hB3.size
                    have hB34 : Below wr.heap.size wr ((w3.alloc (.cells #[.int .i64 (da : Int), .int .i64 (df : Int), .int .i64 0] 40)).alloc (.cells #[.int .i64 (da : Int), .int .i64 (df : Int), .int .i64 0] 40)) := (hB3.alloc hs3 _).alloc (by simp; omega) _
                    have hB5 : Below w.heap.size w w5 := (hB.trans (hB34.mono hsz)).grown hgrow (by simp; omega) (fun k e => (hown.lt k e).1)
                    have HROW : Hid (w5.ownsRow w.heap.size 40 3 v' (out ++ [(⟨da, df, 0⟩ : Dl)]).length (dlCells (out ++ [(⟨da, df, 0⟩ : Dl)]))) := Lib.hid (by
                      rw [dlCells_append]
                      simpa [dlCells] using hown')
                    have HB5 := Lib.hid hB5
                    clear hB3 hown hown' hgrow hB5 hB34 hwh hd2 hB c0 c1 c2
                    go_roundw
                    case rel => exact ⟨k + 1, out ++ [⟨da, df, 0⟩], by omega, by omega, by go_num, HN, by simp; omega, HROW.out, HB5.out⟩
                    case measure => simp [intOf]; omega
              · have g2 : (st : Int) < (k : Int) := by omega
                have g2' : st < k := by omega
                by_cases hm2 : k < st + 2
                · rw [if_neg (by simp [mayBegin, hmb]; omega)] at HP2
                  have g3 : (k : Int) < (st : Int) + 2 := by omega
                  have HN := Lib.hid HP2
                  clear HP2 DE HP
                  go_wp2_with fail
                  go_roundw
                  case rel => exact ⟨k + 1, out, by omega, by omega, by go_num, HN, by omega, hown, hB⟩
                  case measure => simp [intOf]; omega
                · have g3 : ¬ (k : Int) < (st : Int) + 2 := by omega
                  have g3' : (st : Int) + 2 ≤ (k : Int) := by omega
                  have e1 := ext_list s (k - 2) k
                  have e2 : ((k : Int) - 2).toNat = k - 2 := by omega
                  have e3 : (0 : Int) ≤ (k : Int) - 2 := by omega
                  have e4 : (k : Int) - 2 ≤ (k : Int) := by omega
                  have e5 : (k : Int) ≤ (s.size : Int) := by omega
                  have e6 : k ≤ s.size := by omega
                  have e7 : (k : Int) - 2 = ((k - 2 : Nat) : Int) := by omega
                  by_cases hm3 : sub2 s.data.toList (k - 2) k = [13, 10]
                  · have g4 : ((s.extract (k - 2) k).toList == [13, 10]) = true := by rw [e1, hm3]; rfl
                    rw [if_pos (by simp [mayBegin, hm3]; omega)] at HP2
                    clear e1 hm3
                    cases hd : delimAt s.data.toList k to mk.data.toList with
                    | none =>
                      rw [hd] at HP2 DE
                      unfold dlV at DE
                      have HN : Hid (out ++ delimsF s.data.toList st to mk.data.toList (to - (k + 1)) (k + 1) = R) := Lib.hid HP2
                      have DEH := Lib.hid DE
                      clear HP2 DE hd HP
                      go_wp2_with (first | (go_at_call 51; refine (DEH.out _).mono ?_; rintro e w3 ⟨rfl, hB3⟩))
                      have hB4 : Below wr.heap.size wr (w3.alloc (.cells #[.int .i64 0, .int .i64 0, .int .i64 0] 40)) := hB3.alloc hB3.size _
                      have HROW := Lib.hid (row_lat hown hB4)
                      have HB4 := Lib.hid (hB.trans (hB4.mono hsz))
                      clear hB3 hB4 hown
                      go_wp2_with fail
                      go_roundw
                      case rel => exact ⟨k + 1, out, by omega, by omega, by go_num, HN, by omega, HROW.out, HB4.out⟩
                      case measure => simp [intOf]; omega
                    | some d =>
                      rw [hd] at HP2 DE
                      unfold dlV at DE
                      have DEH := Lib.hid DE
                      obtain ⟨x1, x2, x3, x4⟩ := delimAt_le hd
                      clear DE hd HP
                      obtain ⟨da, df, dl⟩ := d
                      have hll : dl ≤ 1 := x4
                      have HP3 : out ++ (if dl = 1 then [(⟨da, df, dl⟩ : Dl)] else ⟨da, df, dl⟩ :: delimsF s.data.toList st to mk.data.toList (to - (k + 1)) (k + 1)) = R := HP2
                      clear HP2 x1 x2 x3 x4
                      by_cases hl1 : dl = 1
                      · subst hl1
                        rw [if_pos rfl] at HP3
                        have HF := Lib.hid HP3
                        clear HP3 hll
                        go_wp2_with (first | (go_at_call 51; refine (DEH.out _).mono ?_; rintro e w3 ⟨rfl, hB3⟩) | (at_builtin; refine wpList_append_whereG rfl _ _ 38 rfl w.heap.size 40 j0 (.agg #[.int .i64 0, .int .i64 0, .int .i64 0]) 3 24 Try.underlying38 hj hy0 hy1 hy2 rfl (by decide) (by decide) _ _ _ rfl (row_lat hown ((hB3.alloc hB3.size _).alloc (by have := hB3.size; simp; omega) _)) ⟨w3.heap.size + 1, 0, none⟩ 1 1 [.int .i64 (da : Int), .int .i64 (df : Int), .int .i64 1] rfl rfl (cell_three_new _ _ _ _ _ _ (by simp)) (by simp [Value.oneCell']) (by omega) (by have := hB3.size; simp; omega) ?_; intro v' w5 hown' hgrow hwh; have hd2 : w5.heap[w3.heap.size]? = some (.cells #[.int .i64 (da : Int), .int .i64 (df : Int), .int .i64 1] 40 (0, 0)) := (hgrow.block w3.heap.size (by simp; omega) (fun e => by have h1 := (hown.lt _ e.symm).2; have h2 := hB3.size; omega)).trans ((Below.heap_alloc _ _ _ (by simp)).trans (new_three _ _ _ _ _)); obtain ⟨c0, c1, c2⟩ := three_cells hd2))
                        have hs3 := hB3.size
                        have hB34 : Below wr.heap.size wr ((w3.alloc (.cells #[.int .i64 (da : Int), .int .i64 (df : Int), .int .i64 1] 40)).alloc (.cells #[.int .i64 (da : Int), .int .i64 (df : Int), .int .i64 1] 40)) := (hB3.alloc hs3 _).alloc (by simp; omega) _
                        have hB5 : Below w.heap.size w w5 := (hB.trans (hB34.mono hsz)).grown hgrow (by simp; omega) (fun k e => (hown.lt k e).1)
                        have HROW : Hid (w5.ownsRow w.heap.size 40 3 v' (out ++ [(⟨da, df, 1⟩ : Dl)]).length (dlCells (out ++ [(⟨da, df, 1⟩ : Dl)]))) := Lib.hid (by
                          rw [dlCells_append]
                          simpa [dlCells] using hown')
                        have HB5 := Lib.hid hB5
                        clear hB3 hown hown' hgrow hB5 hB34 hwh hd2 hB c0 c1 c2
                        go_ret
                        refine ⟨_, rfl, ?_, HB5.out⟩
                        rw [← HF.out]
                        exact HROW.out
                      · obtain rfl : dl = 0 := by omega
                        rw [if_neg hl1] at HP3
                        have HN : Hid ((out ++ [(⟨da, df, 0⟩ : Dl)]) ++ delimsF s.data.toList st to mk.data.toList (to - (k + 1)) (k + 1) = R) := Lib.hid (by rw [← HP3]; simp)
                        clear HP3 hll hl1
                        go_wp2_with (first | (go_at_call 51; refine (DEH.out _).mono ?_; rintro e w3 ⟨rfl, hB3⟩) | (at_builtin; refine wpList_append_whereG rfl _ _ 38 rfl w.heap.size 40 j0 (.agg #[.int .i64 0, .int .i64 0, .int .i64 0]) 3 24 Try.underlying38 hj hy0 hy1 hy2 rfl (by decide) (by decide) _ _ _ rfl (row_lat hown ((hB3.alloc hB3.size _).alloc (by have := hB3.size; simp; omega) _)) ⟨w3.heap.size + 1, 0, none⟩ 1 1 [.int .i64 (da : Int), .int .i64 (df : Int), .int .i64 0] rfl rfl (cell_three_new _ _ _ _ _ _ (by simp)) (by simp [Value.oneCell']) (by omega) (by have := hB3.size; simp; omega) ?_; intro v' w5 hown' hgrow hwh; have hd2 : w5.heap[w3.heap.size]? = some (.cells #[.int .i64 (da : Int), .int .i64 (df : Int), .int .i64 0] 40 (0, 0)) := (hgrow.block w3.heap.size (by simp; omega) (fun e => by have h1 := (hown.lt _ e.symm).2; have h2 := hB3.size; omega)).trans ((Below.heap_alloc _ _ _ (by simp)).trans (new_three _ _ _ _ _)); obtain ⟨c0, c1, c2⟩ := three_cells hd2))
                        have hs3 := hB3.size
                        have hB34 : Below wr.heap.size wr ((w3.alloc (.cells #[.int .i64 (da : Int), .int .i64 (df : Int), .int .i64 0] 40)).alloc (.cells #[.int .i64 (da : Int), .int .i64 (df : Int), .int .i64 0] 40)) := (hB3.alloc hs3 _).alloc (by simp; omega) _
                        have hB5 : Below w.heap.size w w5 := (hB.trans (hB34.mono hsz)).grown hgrow (by simp; omega) (fun k e => (hown.lt k e).1)
                        have HROW : Hid (w5.ownsRow w.heap.size 40 3 v' (out ++ [(⟨da, df, 0⟩ : Dl)]).length (dlCells (out ++ [(⟨da, df, 0⟩ : Dl)]))) := Lib.hid (by
                          rw [dlCells_append]
                          simpa [dlCells] using hown')
                        have HB5 := Lib.hid hB5
                        clear hB3 hown hown' hgrow hB5 hB34 hwh hd2 hB c0 c1 c2
                        go_roundw
                        case rel => exact ⟨k + 1, out ++ [⟨da, df, 0⟩], by omega, by omega, by go_num, HN, by simp; omega, HROW.out, HB5.out⟩
                        case measure => simp [intOf]; omega
                  · have g4 : ((s.extract (k - 2) k).toList == [13, 10]) = false := by rw [e1]; exact beq_eq_false_iff_ne.2 hm3
                    rw [if_neg (by simp [mayBegin, hm3, hmb])] at HP2
                    have HN := Lib.hid HP2
                    clear HP2 DE HP e1 hm3
                    go_wp2_with fail
                    go_roundw
                    case rel => exact ⟨k + 1, out, by omega, by omega, by go_num, HN, by omega, hown, hB⟩
                    case measure => simp [intOf]; omega
            · obtain rfl : k = to := by omega
              have g1 : ¬ (k : Int) < (k : Int) := by omega
              have HN : Hid (out = R) := Lib.hid (by have := HP.out; rw [Nat.sub_self] at this; simpa [delimsF] using this)
              clear HP
              go_wp2_with fail
              go_ret
              refine ⟨_, rfl, ?_, hB⟩
              rw [← HN.out]
              exact hown
end Go.Proofs.Ytjleadlecdcdeaa
