/-
  Delimiters: the walk of spec's l07Delim.
-/
import Derived.Test.YtjleadlecdcdeaaDlP
import Derived.Test.YtjleadlecdcdeaaThree
import Derived.Test.YtjleadlecdcdeaaFlP
namespace Go.Proofs.Ytjleadlecdcdeaa
set_option linter.unusedVariables false
open Go.RowKit

def dlV (o : Option Dl) : Value := match o with
  | none => .tuple #[.agg #[.int .i64 0, .int .i64 0, .int .i64 0], .bool false]
  | some d => .tuple #[.agg #[.int .i64 (d.at' : Int), .int .i64 (d.fin : Int), .int .i64 (d.last : Int)], .bool true]
theorem bl_any (b : UInt8) (w : World) : Calls Try.prog 81 #[.int .u8 (b.toNat : Int)] w fun e w' => e = .returned (.bool (blankB b)) ∧ w' = w := by
  cases h : blankB b with
  | true =>
    have h2 := (blankB_iff b).1 h
    exact blank_yes _ w (by omega)
  | false =>
    have h2 : ¬ (b.toNat = 32 ∨ b.toNat = 9) := fun x => by rw [(blankB_iff b).2 x] at h; cases h
    exact blank_no _ w (by omega) (by omega)
theorem ext_list (s : ByteArray) (a b : Nat) : (s.extract a b).toList = sub2 s.data.toList a b := by
  rw [Lib.toList_data, Lib.extract_data]
  rfl
theorem getD_byte (s : ByteArray) (k : Nat) (h : k < s.size) : s.data.toList.getD k 0 = s[k] := by
  rw [List.getD_eq_getElem?_getD, List.getElem?_eq_getElem (by simpa using h)]
  rfl

set_option maxRecDepth 100000 in
set_option maxHeartbeats 4000000 in
theorem delim_any (s : ByteArray) (a to : Nat) (mk : ByteArray) (w : World) (hs : s.size ≤ 1048576) (ha : a ≤ to) (ht : to ≤ s.size) (hm : mk.size ≤ 70) :
    Calls Try.prog 51 #[.string s, .int .i64 (a : Int), .int .i64 (to : Int), .string mk] w fun e w' => e = .returned (dlV (delimAt s.data.toList a to mk.data.toList)) ∧ Below w.heap.size w w' := by
  obtain ⟨V, hV⟩ : ∃ V, dlV (delimAt s.data.toList a to mk.data.toList) = V := ⟨_, rfl⟩
  rw [hV]
  unfold delimAt at hV
  rw [show mk.data.toList.length = mk.size by simp] at hV
  have H0 := Lib.hid (new_three w (.int .i64 0) (.int .i64 0) (.int .i64 0) 40)
  have B0 : Hid (Below w.heap.size w (w.alloc (.cells #[.int .i64 0, .int .i64 0, .int .i64 0] 40))) := Lib.hid ((Below.refl _ _).alloc (Nat.le_refl _) _)
  obtain ⟨_, _, _⟩ := three_free H0.out
  obtain ⟨_, _, _⟩ := three_cells H0.out
  have s0 : ¬ 9223372036854775807 < 2 + mk.size := by omega
  obtain ⟨op, hop⟩ : ∃ op : ByteArray, (⟨#[45, 45]⟩ : ByteArray) ++ mk = op := ⟨_, rfl⟩
  have hopl : op.toList = 45 :: 45 :: mk.data.toList := by
    rw [← hop, Lib.toList_data]
    simp [ByteArray.data_append]
  have hops : op.size = mk.size + 2 := by
    rw [← hop, ByteArray.size_append]
    have : (⟨#[45, 45]⟩ : ByteArray).size = 2 := rfl
    omega
  rw [← hops] at hV
  have hob : op.size ≤ 72 := by omega
  obtain ⟨e0, he0⟩ : ∃ e0 : Nat, a + op.size = e0 := ⟨_, rfl⟩
  have hE : (a : Int) + (op.size : Int) = (e0 : Int) := by omega
  have hae : a ≤ e0 := by omega
  rw [he0] at hV
  have j0 : (0 : Int) ≤ (a : Int) := by omega
  have j1 : (a : Int) ≤ (e0 : Int) := by omega
  clear hops he0
  by_cases h1 : to < e0
  · have g1 : ¬ e0 ≤ to := by omega
    have g1' : (to : Int) < (e0 : Int) := by omega
    rw [if_pos (.inl h1)] at hV
    clear hopl h1
    go_enter Try.func51, Try.ntmps51
    have HV : Hid (.tuple #[.agg #[.int .i64 0, .int .i64 0, .int .i64 0], .bool false] = V) := Lib.hid (by rw [← hV]; rfl)
    clear hV
    go_wp2_with fail
    have q := three_cells H0.out
    refine bodyPost_ret (v := .tuple #[.agg #[.int .i64 0, .int .i64 0, .int .i64 0], .bool false]) (by simp [results, Try.results51, go_sem, q.1, q.2.1, q.2.2]) rfl ⟨by rw [← HV.out], ?_⟩
    exact B0.out
  · have g1 : e0 ≤ to := by omega
    have g1' : e0 ≤ s.size := by omega
    have g1'' : ¬ (to : Int) < (e0 : Int) := by omega
    have j2 : (e0 : Int) ≤ (s.size : Int) := by omega
    have hx := ext_list s a e0
    by_cases h2 : sub2 s.data.toList a e0 = 45 :: 45 :: mk.data.toList
    · have g2 : ((s.extract a e0).toList == op.toList) = true := by rw [hx, h2, hopl]; simp
      rw [if_neg (fun h => h.elim h1 (fun h => h h2))] at hV
      unfold twoMarks at hV
      clear hopl hx h2
      have j3 : (0 : Int) ≤ (e0 : Int) := by omega
      by_cases h3 : e0 + 2 ≤ to
      · have g3 : (e0 : Int) + 2 ≤ (to : Int) := by omega
        have j4 : (e0 : Int) ≤ (e0 : Int) + 2 := by omega
        have j5 : (e0 : Int) + 2 ≤ (s.size : Int) := by omega
        have j6 : (0 : Int) ≤ (e0 : Int) + 2 := by omega
        have j7 : ((e0 : Int) + 2).toNat = e0 + 2 := by omega
        have hx2 := ext_list s e0 (e0 + 2)
        rw [decide_eq_true h3, Bool.true_and] at hV
        by_cases h4 : sub2 s.data.toList e0 (e0 + 2) = [45, 45]
        · have g4 : ((s.extract e0 (e0 + 2)).toList == [45, 45]) = true := by rw [hx2, h4]; rfl
          rw [if_pos (by rw [h4]; rfl)] at hV
          clear hx2 h4
          go_enter Try.func51, Try.ntmps51
          obtain ⟨E2, hE2⟩ : ∃ E2, skipB s.data.toList to (to - (e0 + 2)) (e0 + 2) = E2 := ⟨_, rfl⟩
          unfold delimEnd at hV
          rw [hE2] at hV
          have HE2 := Lib.hid hE2
          have HVV := Lib.hid hV
          clear hE2 hV
          go_wp2_with fail
          go_loop [11] (fun x => ∃ e : Nat, e ≤ to ∧ x = .int .i64 (e : Int) ∧ Hid (skipB s.data.toList to (to - e) e = E2)) (fun x => to - (intOf x).toNat)
          case atStart => exact ⟨(e0 + 2), by omega, by go_num, HE2⟩
          case round =>
            obtain ⟨e, he, rfl, HS⟩ := hrel
            clear HE2
            by_cases hlt : e < to
            · have g5 : (e : Int) < (to : Int) := by omega
              have k5 : (0 : Int) ≤ (e : Int) := by omega
              have k6 : (e : Int) < (s.size : Int) := by omega
              have k7 : e < s.size := by omega
              have BL := Lib.hid (fun w => bl_any s[e] w)
              cases hb : blankB s[e] with
              | true =>
                rw [hb] at BL
                have HS2 : Hid (skipB s.data.toList to (to - (e + 1)) (e + 1) = E2) := Lib.hid (by rw [← HS.out, skipB_step _ to e hlt (by rw [getD_byte s e k7]; exact hb)])
                clear hb HS
                go_wp2_with (go_at_call 81; refine (BL.out _).mono ?_; rintro r w' ⟨rfl, hw⟩; rw [hw]; clear hw w')
                go_round
                case rel => exact ⟨e + 1, by omega, by go_num, HS2⟩
                case measure => simp [intOf]; omega
              | false =>
                rw [hb] at BL
                have hee : e = E2 := by rw [← HS.out, skipB_stop _ to e hlt (by rw [getD_byte s e k7]; exact hb)]
                subst hee
                clear hb HS
                have g6 : ¬ e = to := by omega
                have g6' : ¬ (e : Int) = (to : Int) := by omega
                have hV := HVV.out
                rw [if_neg (by omega : ¬ e = to)] at hV
                by_cases h2 : e + 2 ≤ to
                · have g7 : (e : Int) + 2 ≤ (to : Int) := by omega
                  have k8 : (e : Int) ≤ (e : Int) + 2 := by omega
                  have k9 : (e : Int) + 2 ≤ (s.size : Int) := by omega
                  have ka : (0 : Int) ≤ (e : Int) + 2 := by omega
                  have kb : ((e : Int) + 2).toNat = e + 2 := by omega
                  have hcr := ext_list s e (e + 2)
                  by_cases hc : sub2 s.data.toList e (e + 2) = [13, 10]
                  · have g8 : ((s.extract e (e + 2)).toList == [13, 10]) = true := by rw [hcr, hc]; rfl
                    rw [if_pos ⟨h2, hc⟩] at hV
                    clear hcr hc h2
                    have HV : Hid (.tuple #[.agg #[.int .i64 (a : Int), .int .i64 ((e : Int) + 2), .int .i64 1], .bool true] = V) := Lib.hid (by rw [← hV]; simp [dlV])
                    clear hV HVV
                    go_wp2_with (go_at_call 81; refine (BL.out _).mono ?_; rintro r w' ⟨rfl, hw⟩; rw [hw]; clear hw w')
                    have q := three_cells (new_three w (.int .i64 (a : Int)) (.int .i64 ((e : Int) + 2)) (.int .i64 1) 40)
                    refine bodyPost_ret (v := .tuple #[.agg #[.int .i64 (a : Int), .int .i64 ((e : Int) + 2), .int .i64 1], .bool true]) (by simp [results, Try.results51, go_sem, q.1, q.2.1, q.2.2]) rfl ⟨by rw [← HV.out], ?_⟩
                    exact (Below.refl _ _).alloc (Nat.le_refl _) _
                  · have g8 : ((s.extract e (e + 2)).toList == [13, 10]) = false := by rw [hcr]; exact beq_eq_false_iff_ne.2 hc
                    rw [if_neg (fun h => hc h.2)] at hV
                    clear hcr hc h2
                    have HV : Hid (.tuple #[.agg #[.int .i64 0, .int .i64 0, .int .i64 0], .bool false] = V) := Lib.hid (by rw [← hV]; rfl)
                    clear hV HVV
                    go_wp2_with (go_at_call 81; refine (BL.out _).mono ?_; rintro r w' ⟨rfl, hw⟩; rw [hw]; clear hw w')
                    have q := three_cells H0.out
                    refine bodyPost_ret (v := .tuple #[.agg #[.int .i64 0, .int .i64 0, .int .i64 0], .bool false]) (by simp [results, Try.results51, go_sem, q.1, q.2.1, q.2.2]) rfl ⟨by rw [← HV.out], ?_⟩
                    exact B0.out
                · have g7 : (to : Int) < (e : Int) + 2 := by omega
                  have g7' : ¬ (e : Int) + 2 ≤ (to : Int) := by omega
                  rw [if_neg (fun h => h2 h.1)] at hV
                  clear h2
                  have HV : Hid (.tuple #[.agg #[.int .i64 0, .int .i64 0, .int .i64 0], .bool false] = V) := Lib.hid (by rw [← hV]; rfl)
                  clear hV HVV
                  go_wp2_with (go_at_call 81; refine (BL.out _).mono ?_; rintro r w' ⟨rfl, hw⟩; rw [hw]; clear hw w')
                  have q := three_cells H0.out
                  refine bodyPost_ret (v := .tuple #[.agg #[.int .i64 0, .int .i64 0, .int .i64 0], .bool false]) (by simp [results, Try.results51, go_sem, q.1, q.2.1, q.2.2]) rfl ⟨by rw [← HV.out], ?_⟩
                  exact B0.out
            · obtain rfl : e = to := by omega
              have hee : e = E2 := by rw [← HS.out, skipB_end]
              subst hee
              clear HS
              have g5 : ¬ (e : Int) < (e : Int) := by omega
              have hV := HVV.out
              rw [if_pos rfl] at hV
              have HV : Hid (.tuple #[.agg #[.int .i64 (a : Int), .int .i64 ((e : Int)), .int .i64 1], .bool true] = V) := Lib.hid (by rw [← hV]; simp [dlV])
              clear hV HVV
              go_wp2_with fail
              have q := three_cells (new_three w (.int .i64 (a : Int)) (.int .i64 ((e : Int))) (.int .i64 1) 40)
              refine bodyPost_ret (v := .tuple #[.agg #[.int .i64 (a : Int), .int .i64 ((e : Int)), .int .i64 1], .bool true]) (by simp [results, Try.results51, go_sem, q.1, q.2.1, q.2.2]) rfl ⟨by rw [← HV.out], ?_⟩
              exact (Below.refl _ _).alloc (Nat.le_refl _) _
        · have g4 : ((s.extract e0 (e0 + 2)).toList == [45, 45]) = false := by rw [hx2]; exact beq_eq_false_iff_ne.2 h4
          rw [if_neg (by rw [beq_iff_eq]; exact h4)] at hV
          clear hx2 h4
          go_enter Try.func51, Try.ntmps51
          obtain ⟨E2, hE2⟩ : ∃ E2, skipB s.data.toList to (to - e0) e0 = E2 := ⟨_, rfl⟩
          unfold delimEnd at hV
          rw [hE2] at hV
          have HE2 := Lib.hid hE2
          have HVV := Lib.hid hV
          clear hE2 hV
          go_wp2_with fail
          go_loop [11] (fun x => ∃ e : Nat, e ≤ to ∧ x = .int .i64 (e : Int) ∧ Hid (skipB s.data.toList to (to - e) e = E2)) (fun x => to - (intOf x).toNat)
          case atStart => exact ⟨e0, by omega, by go_num, HE2⟩
          case round =>
            obtain ⟨e, he, rfl, HS⟩ := hrel
            clear HE2
            by_cases hlt : e < to
            · have g5 : (e : Int) < (to : Int) := by omega
              have k5 : (0 : Int) ≤ (e : Int) := by omega
              have k6 : (e : Int) < (s.size : Int) := by omega
              have k7 : e < s.size := by omega
              have BL := Lib.hid (fun w => bl_any s[e] w)
              cases hb : blankB s[e] with
              | true =>
                rw [hb] at BL
                have HS2 : Hid (skipB s.data.toList to (to - (e + 1)) (e + 1) = E2) := Lib.hid (by rw [← HS.out, skipB_step _ to e hlt (by rw [getD_byte s e k7]; exact hb)])
                clear hb HS
                go_wp2_with (go_at_call 81; refine (BL.out _).mono ?_; rintro r w' ⟨rfl, hw⟩; rw [hw]; clear hw w')
                go_round
                case rel => exact ⟨e + 1, by omega, by go_num, HS2⟩
                case measure => simp [intOf]; omega
              | false =>
                rw [hb] at BL
                have hee : e = E2 := by rw [← HS.out, skipB_stop _ to e hlt (by rw [getD_byte s e k7]; exact hb)]
                subst hee
                clear hb HS
                have g6 : ¬ e = to := by omega
                have g6' : ¬ (e : Int) = (to : Int) := by omega
                have hV := HVV.out
                rw [if_neg (by omega : ¬ e = to)] at hV
                by_cases h2 : e + 2 ≤ to
                · have g7 : (e : Int) + 2 ≤ (to : Int) := by omega
                  have k8 : (e : Int) ≤ (e : Int) + 2 := by omega
                  have k9 : (e : Int) + 2 ≤ (s.size : Int) := by omega
                  have ka : (0 : Int) ≤ (e : Int) + 2 := by omega
                  have kb : ((e : Int) + 2).toNat = e + 2 := by omega
                  have hcr := ext_list s e (e + 2)
                  by_cases hc : sub2 s.data.toList e (e + 2) = [13, 10]
                  · have g8 : ((s.extract e (e + 2)).toList == [13, 10]) = true := by rw [hcr, hc]; rfl
                    rw [if_pos ⟨h2, hc⟩] at hV
                    clear hcr hc h2
                    have HV : Hid (.tuple #[.agg #[.int .i64 (a : Int), .int .i64 ((e : Int) + 2), .int .i64 0], .bool true] = V) := Lib.hid (by rw [← hV]; simp [dlV])
                    clear hV HVV
                    go_wp2_with (go_at_call 81; refine (BL.out _).mono ?_; rintro r w' ⟨rfl, hw⟩; rw [hw]; clear hw w')
                    have q := three_cells (new_three w (.int .i64 (a : Int)) (.int .i64 ((e : Int) + 2)) (.int .i64 0) 40)
                    refine bodyPost_ret (v := .tuple #[.agg #[.int .i64 (a : Int), .int .i64 ((e : Int) + 2), .int .i64 0], .bool true]) (by simp [results, Try.results51, go_sem, q.1, q.2.1, q.2.2]) rfl ⟨by rw [← HV.out], ?_⟩
                    exact (Below.refl _ _).alloc (Nat.le_refl _) _
                  · have g8 : ((s.extract e (e + 2)).toList == [13, 10]) = false := by rw [hcr]; exact beq_eq_false_iff_ne.2 hc
                    rw [if_neg (fun h => hc h.2)] at hV
                    clear hcr hc h2
                    have HV : Hid (.tuple #[.agg #[.int .i64 0, .int .i64 0, .int .i64 0], .bool false] = V) := Lib.hid (by rw [← hV]; rfl)
                    clear hV HVV
                    go_wp2_with (go_at_call 81; refine (BL.out _).mono ?_; rintro r w' ⟨rfl, hw⟩; rw [hw]; clear hw w')
                    have q := three_cells H0.out
                    refine bodyPost_ret (v := .tuple #[.agg #[.int .i64 0, .int .i64 0, .int .i64 0], .bool false]) (by simp [results, Try.results51, go_sem, q.1, q.2.1, q.2.2]) rfl ⟨by rw [← HV.out], ?_⟩
                    exact B0.out
                · have g7 : (to : Int) < (e : Int) + 2 := by omega
                  have g7' : ¬ (e : Int) + 2 ≤ (to : Int) := by omega
                  rw [if_neg (fun h => h2 h.1)] at hV
                  clear h2
                  have HV : Hid (.tuple #[.agg #[.int .i64 0, .int .i64 0, .int .i64 0], .bool false] = V) := Lib.hid (by rw [← hV]; rfl)
                  clear hV HVV
                  go_wp2_with (go_at_call 81; refine (BL.out _).mono ?_; rintro r w' ⟨rfl, hw⟩; rw [hw]; clear hw w')
                  have q := three_cells H0.out
                  refine bodyPost_ret (v := .tuple #[.agg #[.int .i64 0, .int .i64 0, .int .i64 0], .bool false]) (by simp [results, Try.results51, go_sem, q.1, q.2.1, q.2.2]) rfl ⟨by rw [← HV.out], ?_⟩
                  exact B0.out
            · obtain rfl : e = to := by omega
              have hee : e = E2 := by rw [← HS.out, skipB_end]
              subst hee
              clear HS
              have g5 : ¬ (e : Int) < (e : Int) := by omega
              have hV := HVV.out
              rw [if_pos rfl] at hV
              have HV : Hid (.tuple #[.agg #[.int .i64 (a : Int), .int .i64 ((e : Int)), .int .i64 0], .bool true] = V) := Lib.hid (by rw [← hV]; simp [dlV])
              clear hV HVV
              go_wp2_with fail
              have q := three_cells (new_three w (.int .i64 (a : Int)) (.int .i64 ((e : Int))) (.int .i64 0) 40)
              refine bodyPost_ret (v := .tuple #[.agg #[.int .i64 (a : Int), .int .i64 ((e : Int)), .int .i64 0], .bool true]) (by simp [results, Try.results51, go_sem, q.1, q.2.1, q.2.2]) rfl ⟨by rw [← HV.out], ?_⟩
              exact (Below.refl _ _).alloc (Nat.le_refl _) _
      · have g3 : (to : Int) < (e0 : Int) + 2 := by omega
        have g3' : ¬ (e0 : Int) + 2 ≤ (to : Int) := by omega
        rw [decide_eq_false h3, Bool.false_and, if_neg (by simp)] at hV
        clear h3
        go_enter Try.func51, Try.ntmps51
        obtain ⟨E2, hE2⟩ : ∃ E2, skipB s.data.toList to (to - e0) e0 = E2 := ⟨_, rfl⟩
        unfold delimEnd at hV
        rw [hE2] at hV
        have HE2 := Lib.hid hE2
        have HVV := Lib.hid hV
        clear hE2 hV
        go_wp2_with fail
        go_loop [11] (fun x => ∃ e : Nat, e ≤ to ∧ x = .int .i64 (e : Int) ∧ Hid (skipB s.data.toList to (to - e) e = E2)) (fun x => to - (intOf x).toNat)
        case atStart => exact ⟨e0, by omega, by go_num, HE2⟩
        case round =>
          obtain ⟨e, he, rfl, HS⟩ := hrel
          clear HE2
          by_cases hlt : e < to
          · have g5 : (e : Int) < (to : Int) := by omega
            have k5 : (0 : Int) ≤ (e : Int) := by omega
            have k6 : (e : Int) < (s.size : Int) := by omega
            have k7 : e < s.size := by omega
            have BL := Lib.hid (fun w => bl_any s[e] w)
            cases hb : blankB s[e] with
            | true =>
              rw [hb] at BL
              have HS2 : Hid (skipB s.data.toList to (to - (e + 1)) (e + 1) = E2) := Lib.hid (by rw [← HS.out, skipB_step _ to e hlt (by rw [getD_byte s e k7]; exact hb)])
              clear hb HS
              go_wp2_with (go_at_call 81; refine (BL.out _).mono ?_; rintro r w' ⟨rfl, hw⟩; rw [hw]; clear hw w')
              go_round
              case rel => exact ⟨e + 1, by omega, by go_num, HS2⟩
              case measure => simp [intOf]; omega
            | false =>
              rw [hb] at BL
              have hee : e = E2 := by rw [← HS.out, skipB_stop _ to e hlt (by rw [getD_byte s e k7]; exact hb)]
              subst hee
              clear hb HS
              have g6 : ¬ e = to := by omega
              have g6' : ¬ (e : Int) = (to : Int) := by omega
              have hV := HVV.out
              rw [if_neg (by omega : ¬ e = to)] at hV
              by_cases h2 : e + 2 ≤ to
              · have g7 : (e : Int) + 2 ≤ (to : Int) := by omega
                have k8 : (e : Int) ≤ (e : Int) + 2 := by omega
                have k9 : (e : Int) + 2 ≤ (s.size : Int) := by omega
                have ka : (0 : Int) ≤ (e : Int) + 2 := by omega
                have kb : ((e : Int) + 2).toNat = e + 2 := by omega
                have hcr := ext_list s e (e + 2)
                by_cases hc : sub2 s.data.toList e (e + 2) = [13, 10]
                · have g8 : ((s.extract e (e + 2)).toList == [13, 10]) = true := by rw [hcr, hc]; rfl
                  rw [if_pos ⟨h2, hc⟩] at hV
                  clear hcr hc h2
                  have HV : Hid (.tuple #[.agg #[.int .i64 (a : Int), .int .i64 ((e : Int) + 2), .int .i64 0], .bool true] = V) := Lib.hid (by rw [← hV]; simp [dlV])
                  clear hV HVV
                  go_wp2_with (go_at_call 81; refine (BL.out _).mono ?_; rintro r w' ⟨rfl, hw⟩; rw [hw]; clear hw w')
                  have q := three_cells (new_three w (.int .i64 (a : Int)) (.int .i64 ((e : Int) + 2)) (.int .i64 0) 40)
                  refine bodyPost_ret (v := .tuple #[.agg #[.int .i64 (a : Int), .int .i64 ((e : Int) + 2), .int .i64 0], .bool true]) (by simp [results, Try.results51, go_sem, q.1, q.2.1, q.2.2]) rfl ⟨by rw [← HV.out], ?_⟩
                  exact (Below.refl _ _).alloc (Nat.le_refl _) _
                · have g8 : ((s.extract e (e + 2)).toList == [13, 10]) = false := by rw [hcr]; exact beq_eq_false_iff_ne.2 hc
                  rw [if_neg (fun h => hc h.2)] at hV
                  clear hcr hc h2
                  have HV : Hid (.tuple #[.agg #[.int .i64 0, .int .i64 0, .int .i64 0], .bool false] = V) := Lib.hid (by rw [← hV]; rfl)
                  clear hV HVV
                  go_wp2_with (go_at_call 81; refine (BL.out _).mono ?_; rintro r w' ⟨rfl, hw⟩; rw [hw]; clear hw w')
                  have q := three_cells H0.out
                  refine bodyPost_ret (v := .tuple #[.agg #[.int .i64 0, .int .i64 0, .int .i64 0], .bool false]) (by simp [results, Try.results51, go_sem, q.1, q.2.1, q.2.2]) rfl ⟨by rw [← HV.out], ?_⟩
                  exact B0.out
              · have g7 : (to : Int) < (e : Int) + 2 := by omega
                have g7' : ¬ (e : Int) + 2 ≤ (to : Int) := by omega
                rw [if_neg (fun h => h2 h.1)] at hV
                clear h2
                have HV : Hid (.tuple #[.agg #[.int .i64 0, .int .i64 0, .int .i64 0], .bool false] = V) := Lib.hid (by rw [← hV]; rfl)
                clear hV HVV
                go_wp2_with (go_at_call 81; refine (BL.out _).mono ?_; rintro r w' ⟨rfl, hw⟩; rw [hw]; clear hw w')
                have q := three_cells H0.out
                refine bodyPost_ret (v := .tuple #[.agg #[.int .i64 0, .int .i64 0, .int .i64 0], .bool false]) (by simp [results, Try.results51, go_sem, q.1, q.2.1, q.2.2]) rfl ⟨by rw [← HV.out], ?_⟩
                exact B0.out
          · obtain rfl : e = to := by omega
            have hee : e = E2 := by rw [← HS.out, skipB_end]
            subst hee
            clear HS
            have g5 : ¬ (e : Int) < (e : Int) := by omega
            have hV := HVV.out
            rw [if_pos rfl] at hV
            have HV : Hid (.tuple #[.agg #[.int .i64 (a : Int), .int .i64 ((e : Int)), .int .i64 0], .bool true] = V) := Lib.hid (by rw [← hV]; simp [dlV])
            clear hV HVV
            go_wp2_with fail
            have q := three_cells (new_three w (.int .i64 (a : Int)) (.int .i64 ((e : Int))) (.int .i64 0) 40)
            refine bodyPost_ret (v := .tuple #[.agg #[.int .i64 (a : Int), .int .i64 ((e : Int)), .int .i64 0], .bool true]) (by simp [results, Try.results51, go_sem, q.1, q.2.1, q.2.2]) rfl ⟨by rw [← HV.out], ?_⟩
            exact (Below.refl _ _).alloc (Nat.le_refl _) _
    · have g2 : ((s.extract a e0).toList == op.toList) = false := by rw [hx, hopl]; exact beq_eq_false_iff_ne.2 h2
      rw [if_pos (.inr h2)] at hV
      clear hopl h2 hx
      go_enter Try.func51, Try.ntmps51
      have HV : Hid (.tuple #[.agg #[.int .i64 0, .int .i64 0, .int .i64 0], .bool false] = V) := Lib.hid (by rw [← hV]; rfl)
      clear hV
      go_wp2_with fail
      have q := three_cells H0.out
      refine bodyPost_ret (v := .tuple #[.agg #[.int .i64 0, .int .i64 0, .int .i64 0], .bool false]) (by simp [results, Try.results51, go_sem, q.1, q.2.1, q.2.2]) rfl ⟨by rw [← HV.out], ?_⟩
      exact B0.out
end Go.Proofs.Ytjleadlecdcdeaa
