/-
  Parts: the walks of impl's within and its iterator.
-/
import Derived.Test.YtjleadlecdcdeaaWtA
import Derived.RangeFuncCalls
import Derived.RangeFuncLeaves
import Derived.OwnWalkIn
import Derived.TacticsInMore
import Derived.LoopIn
import Derived.Shelf.Abstract
namespace Go.Proofs.Ytjleadlecdcdeaa
set_option linter.unusedVariables false
open Go.RowKit Go.Shelf
attribute [local go_sem] Oper.semAt_some

/-- What the iterator may turn: a block of pointers to parts. -/
def PtrBlock (o : Obj) : Prop := ∃ (cs : Array Value) (fr : Nat × Nat), o = Obj.cells cs 100 fr
/-- What a round keeps. -/
def KpP (W1 W' : World) : Prop := W1.heap.size ≤ W'.heap.size ∧ (∀ a s, PtAt W1 a s → PtAt W' a s) ∧ ∀ (g : Nat) (cs : Array Value) (fr : Nat × Nat), W1.heap[g]? = some (Obj.cells cs 100 fr) → W'.heap[g]? = some (Obj.cells cs 100 fr)
/-- What comes next. -/
def AdmP (root : Addr) (s : Nat) (pre : List (Addr × List Addr)) (x : Addr × List Addr) (W : World) : Prop := x.1 :: x.2 = sig root pre W ∧ (∃ m, PtAt W x.1 m) ∧ pre.length < s
def ptrs (l : List Addr) : List Value := l.map (fun a => Value.pointer (some a))
theorem infoPtr : (Try.prog.info? 100).map (fun i => (i.zero, i.size, i.bytes)) = some (some (.pointer none), 1, 8) := by kernel_rfl
theorem ptr_row_kept {W W' : World} {B : Nat} {v : Value} {n : Nat} {xs : List Value} (h : W.ownsRow B 100 1 v n xs) (hk : ∀ (g : Nat) (cs : Array Value) (fr : Nat × Nat), W.heap[g]? = some (Obj.cells cs 100 fr) → W'.heap[g]? = some (Obj.cells cs 100 fr)) : W'.ownsRow B 100 1 v n xs := by
  obtain ⟨a, b⟩ := h
  refine ⟨a, b.imp id ?_⟩
  rintro ⟨g, cap, cur, rfl, hb, hg, r⟩
  exact ⟨g, cap, cur, rfl, hb, hk _ _ _ hg, r⟩
/-- The iterator's own steps leave the parts as they are. -/
theorem own_step {W W' : World} {B : Nat} {v : Value} {n : Nat} {xs : List Value} (h : W.ownsRow B 100 1 v n xs) (hg : W.grownBy W' v.ownBlock) : PartsStay W W' ∧ ∀ r, v.ownBlock = some r → B ≤ r ∧ ∃ o : Obj, W.heap[r]? = some o ∧ PtrBlock o := by
  have key : ∀ r, v.ownBlock = some r → B ≤ r ∧ ∃ o : Obj, W.heap[r]? = some o ∧ PtrBlock o := fun r e => by
    rcases h.2 with ⟨rfl, _⟩ | ⟨g, cap, cur, rfl, hb, hgb, _⟩
    · cases e
    · have : g = r := by simpa [Value.ownBlock] using e
      subst this
      exact ⟨hb, _, hgb, _, _, rfl⟩
  refine ⟨partsStay_grown hg (fun r e => ?_), key⟩
  obtain ⟨_, o, ho, cs, fr, rfl⟩ := key r e
  exact ⟨_, ho, fun cs' fr' e => by injection e with _ e _; revert e; decide⟩

set_option maxRecDepth 100000 in
set_option maxHeartbeats 2000000 in
theorem within1_in (n : Nat) (hn : 1 ≤ n) (l Bp : Nat) (root : Addr) (s : Nat) (J Jx : List (Addr × List Addr) → World → Prop) (W : World) (hcell : W.cell? ⟨Bp, 0, none⟩ = some (.pointer (some root))) (hp : PtAt W root s) (hs : s ≤ 10000000)
    (hJ : Unmoved PtrBlock W.heap.size J) (hJx : Unmoved PtrBlock W.heap.size Jx)
    (hY : ∀ pre x W1, J pre W1 → AdmP root s pre x W1 → YieldAt Fence.wide (n - 1) Try.prog l #[.pointer (some x.1)] W1 fun e W' =>
      (e = .returned (.bool true) ∧ J (pre ++ [x]) W' ∧ KpP W1 W') ∨ (e = .returned (.bool false) ∧ Jx (pre ++ [x]) W'))
    (h0 : J [] W) :
    CallsIn Fence.wide n Try.prog 90 #[.func (.yield l) #[] #[], .pointer (some ⟨Bp, 0, none⟩)] W fun e W' => (∃ v, e = .returned v) ∧
      ((∃ xs, xs.length = s ∧ J xs W') ∨ (∃ pre : List (Addr × List Addr), True ∧ Jx pre W')) := by
  obtain ⟨j0, hj, hy0, hy1, hy2⟩ := info_parts infoPtr
  refine callsIn_of_wp Try.func90 rfl trivial ?_ rfl
  simp only [Try.ntmps90, List.size_toArray, List.length_cons, List.length_nil, Nat.reduceAdd, Nat.reduceSub, Array.replicate_succ, Array.replicate_zero, List.push_toArray, List.append_toArray, List.nil_append, List.cons_append]
  gi_wp2
  have hJ1 : J [] (W.alloc (.cells #[.pointer (some root)] 100)) := hJ.new h0 _
  have hp1 : PtAt (W.alloc (.cells #[.pointer (some root)] 100)) root s := hp.stay (partsStay_grown (World.grownBy_alloc W _ none) (fun r e => by cases e))
  have hr1 := row_lit1 W (.pointer (some root)) 100
  refine loop_ghost (m := s) (fun m a wr => ∃ (pre : List (Addr × List Addr)) (ps : List (Addr × Nat)) (v u4 u5 u6 u7 u8 u9 u10 u11 u12 u13 u14 u15 u16 u17 u18 u19 u20 u21 u22 u23 u24 u25 u26 u27 u28 u29 u30 u31 u32 u33 u34 u35 u36 u37 u38 u39 u40 u41 u42 u43 : Value), a = { tmps := #[.func (.yield l) #[] #[], .pointer (some ⟨Bp, 0, none⟩), undef, v, u4, u5, u6, u7, u8, u9, u10, u11, u12, u13, u14, u15, u16, u17, u18, u19, u20, u21, u22, u23, u24, u25, u26, u27, u28, u29, u30, u31, u32, u33, u34, u35, u36, u37, u38, u39, u40, u41, u42, u43], defers := [] } ∧
      wr.ownsRow W.heap.size 100 1 v ps.length (ptrs (ps.map (·.1)).reverse) ∧ J pre wr ∧ (∀ q ∈ ps, PtAt wr q.1 q.2) ∧ ps.map (·.1) = sig root pre wr ∧ pre.length + sumP ps = s ∧ W.heap.size ≤ wr.heap.size ∧ m = sumP ps) ?round ?start
  case start =>
    exact ⟨[], [(root, s)], .slice (some ⟨W.heap.size, 0, none⟩) 1 1, _, _, _, _, _, _, _, _, _, _, _, _, _, _, _, _, _, _, _, _, _, _, _, _, _, _, _, _, _, _, _, _, _, _, _, _, _, _, _, _, rfl, hr1, hJ1, fun q hq => by obtain rfl := List.mem_singleton.1 hq; exact hp1, rfl, by simp [sumP], by simp, by simp [sumP]⟩
  case round =>
    rintro m a wr ⟨pre, ps, v, u4, u5, u6, u7, u8, u9, u10, u11, u12, u13, u14, u15, u16, u17, u18, u19, u20, u21, u22, u23, u24, u25, u26, u27, u28, u29, u30, u31, u32, u33, u34, u35, u36, u37, u38, u39, u40, u41, u42, u43, rfl, hrow, hJw, hps, hsig, hsum, hWw, rfl⟩
    have HJ := Lib.hid hJ
    have HY := Lib.hid hY
    cases ps with
    | nil =>
      have hlen : pre.length = s := by simpa [sumP] using hsum
      obtain ⟨p, c, rfl⟩ := row_slice hrow
      gi_wp2
      go_end0
      exact ⟨⟨_, rfl⟩, .inl ⟨pre, hlen, hJw⟩⟩
    | cons q rest =>
      obtain ⟨g, c, rfl⟩ := row_slice1 hrow (by simp)
      have hx : ptrs ((q :: rest).map (·.1)).reverse = ptrs (rest.map (·.1)).reverse ++ [.pointer (some q.1)] := by simp [ptrs]
      rw [hx] at hrow
      have hcap : rest.length + 1 ≤ c := by
        rcases hrow.2 with ⟨e, _⟩ | ⟨g', cap, cur, e, _, _, h2, _⟩
        · cases e
        · injection e with _ _ e3
          subst e3
          simpa using h2
      have hcl : wr.cell? ⟨g, rest.length, none⟩ = some (.pointer (some q.1)) := by
        rw [hrow.cellAt rest.length (by simp), List.getElem?_append_right (by simp [ptrs])]
        simp [ptrs]
      have hq := hps q (by simp)
      obtain ⟨kp, kn, kc, ks, hk1, hk2, hk3, hk4, hk5, hk6, hk7⟩ := pt_kids hq
      have hadm : AdmP root s pre (q.1, rest.map (·.1)) wr := ⟨by rw [← hsig]; rfl, ⟨_, hq⟩, by
        have : sumP (q :: rest) = q.2 + sumP rest := rfl
        omega⟩
      obtain ⟨fn, tmps, assign, body, hy, hR⟩ := HY.out pre (q.1, rest.map (·.1)) wr hJw hadm
      dsimp only at hy
      have hrow2 := row_pop hrow
      have hKb : rest.length ≤ 10000000 := by
        have h1 := sumP_len rest (fun y hy => pt_pos (hps y (by simp [hy])))
        have : sumP (q :: rest) = q.2 + sumP rest := rfl
        omega
      have f7 : wrap64 (rest.length : Int) = (rest.length : Int) := by unfold wrap64; omega
      obtain ⟨K, hK⟩ : ∃ K, rest.length = K := ⟨_, rfl⟩
      have HKK := Lib.hid hK
      have hlen : (q :: rest).length = K + 1 := by rw [List.length_cons, hK]
      rw [hlen]
      rw [hK] at hcl hcap hrow2 hKb f7
      obtain ⟨L, hL⟩ : ∃ L, K + 1 = L := ⟨_, rfl⟩
      rw [hL]
      rw [hL] at hcap
      have f1 : decide ((0 : Int) < (L : Int)) = true := by simp; omega
      have f2 : (L : Int) - 1 = (K : Int) := by omega
      have f3 : (0 : Int) ≤ (K : Int) := by omega
      have f4 : (K : Int) < (L : Int) := by omega
      have f5 : (K : Int) ≤ (c : Int) := by omega
      have f6 : K ≤ c := by omega
      have HROW := Lib.hid hrow2
      have HPS := Lib.hid hps
      have HSUM := Lib.hid hsum
      have HQ := Lib.hid hq
      clear hrow hrow2 hx hps hsum hsig hq hK hlen hL hk1 hk2 hk3 hk4 hk5 hk6 hJ hY hp hp1 hJ1 h0 hr1
      gi_wp2
      refine hR.mono ?_
      rintro e W3 (⟨rfl, hJ3, hk3'⟩ | ⟨rfl, hJx3⟩)
      · obtain ⟨qa, qm⟩ := q
        obtain ⟨qb, qo, qs⟩ := qa
        dsimp only at HQ hk7 hJ3
        subst hk7
        have HQ3 := Lib.hid (hk3'.2.1 _ _ HQ.out)
        obtain ⟨kp, kn, kc, ks, hk1, hk2, hk3, hk4, hk5, hk6, _⟩ := pt_kids HQ3.out
        dsimp only at hk1
        have hW3 : W.heap.size ≤ W3.heap.size := Nat.le_trans hWw hk3'.1
        have hrow3 := ptr_row_kept HROW.out hk3'.2.2
        have HR3 : Hid (∀ y ∈ rest, PtAt W3 y.1 y.2) := Lib.hid (fun y hy => hk3'.2.1 _ _ (HPS.out y (by simp [hy])))
        have HK3 := Lib.hid hk3
        have HK4 := Lib.hid hk4
        have HK5 := Lib.hid hk5
        have HK6 := Lib.hid hk6
        have HK2 := Lib.hid hk2
        have hkn : kn ≤ 10000000 := by
          have h1 := sumP_len ks (fun y hy => pt_pos (hk3 y hy))
          have h2 := HSUM.out
          have : sumP ((⟨qb, qo, none⟩, qm) :: rest) = qm + sumP rest := rfl
          omega
        have HC3 : Hid (∀ W4, PartsStay W3 W4 → W4.cell? ⟨qb, qo + 6, none⟩ = some (.slice kp kn kc)) := Lib.hid (fun W4 h => (HQ3.out.cell h (qo + 6)).trans hk1)
        clear hk3 hk4 hk5 hk6 hk2 hk3' hy hR hadm
        dsimp only
        gi_wp2
        gi_loopw [3, 31] (fun v i W4 => ∃ k : Nat, k ≤ kn ∧ i = .int .i64 (k : Int) ∧ Hid (W4.ownsRow W.heap.size 100 1 v (K + k) (ptrs (rest.map (·.1)).reverse ++ (ptrs (ks.map (·.1))).take k)) ∧ Hid (J (pre ++ [(⟨qb, qo, none⟩, rest.map (·.1))]) W4) ∧ Hid (PartsStay W3 W4) ∧ W.heap.size ≤ W4.heap.size) (fun _ i _ => kn - (intOf i).toNat)
        case atStart => exact ⟨0, Nat.zero_le _, rfl, Lib.hid (by rw [List.take_zero, List.append_nil]; exact hrow3), Lib.hid hJ3, Lib.hid (fun _ _ _ h => h), hW3⟩
        case round =>
          obtain ⟨k, hk, rfl, HW4, HJ4, HS4, hW4⟩ := hrel
          have hc4 := HC3.out _ HS4.out
          by_cases hlt : k < kn
          · have e1 : decide ((k : Int) < (kn : Int)) = true := by simp; omega
            have e2 : (0 : Int) ≤ (k : Int) := by omega
            have e3 : (k : Int) < (kn : Int) := by omega
            obtain ⟨kg, ko, rfl, hki⟩ := HK6.out (by omega)
            have hki2 := Lib.hid (hki k hlt)
            clear hki
            gi_wp2_with (gi_at_builtin; go_loud (refine wpListIn_append_own _ rfl _ _ 129 rfl W.heap.size 100 j0 (.pointer none) 1 8 Try.underlying129 hj hy0 hy1 hy2 rfl (by decide) _ _ _ rfl (HW4.out.alloc _) ⟨wr.heap.size, 0, none⟩ 1 1 [.pointer (some ⟨kg, ko + k * 7, none⟩)] rfl rfl (cell_one_new _ _ _) (by simp [Value.oneCell']) (by unfold maxLen; omega) (by omega) (by simp; omega) ?_; intro v' w5 hown' hgrow _))
            have hra := HW4.out.alloc (.cells #[.pointer (some ⟨kg, ko + k * 7, none⟩)] 100)
            have hst := own_step hra hgrow
            have hst0 : PartsStay wr (wr.alloc (.cells #[.pointer (some ⟨kg, ko + k * 7, none⟩)] 100)) := partsStay_grown (World.grownBy_alloc wr _ none) (fun r e => by cases e)
            have htk : (ptrs (ks.map (·.1))).take (k + 1) = (ptrs (ks.map (·.1))).take k ++ [.pointer (some ⟨kg, ko + k * 7, none⟩)] := by
              rw [List.take_add_one]
              have : (ptrs (ks.map (·.1)))[k]? = some (.pointer (some ⟨kg, ko + k * 7, none⟩)) := by
                unfold ptrs
                rw [List.getElem?_map, hki2.out]
                rfl
              rw [this]
              rfl
            have hJ5 := HJ.out _ _ _ _ (HJ.out.new HJ4.out (.cells #[.pointer (some ⟨kg, ko + k * 7, none⟩)] 100)) hgrow hst.2
            have hW5 : W.heap.size ≤ w5.heap.size := Nat.le_trans hW4 (Nat.le_trans (by simp) hgrow.size)
            refine ⟨⟨k + 1, by omega, by go_num, Lib.hid ?_, Lib.hid hJ5, Lib.hid (HS4.out.trans (hst0.trans hst.1)), hW5⟩, by simp [intOf]; omega⟩
            rw [htk, ← List.append_assoc]
            exact hown'
          · obtain rfl : k = kn := by omega
            have e1 : decide ((k : Int) < (k : Int)) = false := by simp
            gi_wp2
            have hsm : sumP ((⟨qb, qo, none⟩, qm) :: rest) = qm + sumP rest := rfl
            have hk4 := HK4.out
            have hsum := HSUM.out
            have hnew : sumP (ks.reverse ++ rest) = sumP ks + sumP rest := by rw [sumP_append, sumP_rev]
            refine ⟨sumP (ks.reverse ++ rest), by omega, pre ++ [(⟨qb, qo, none⟩, rest.map (·.1))], ks.reverse ++ rest, ?_, HJ4.out, ?_, ?_, by simp; omega, rfl⟩
            · have hw := HW4.out
              rw [List.take_of_length_le (by simp [ptrs, HK2.out])] at hw
              have e2 : ptrs (((ks.reverse ++ rest).map (·.1)).reverse) = ptrs (rest.map (·.1)).reverse ++ ptrs (ks.map (·.1)) := by simp [ptrs]
              rw [e2, List.length_append, List.length_reverse, HK2.out, HKK.out, Nat.add_comm]
              exact hw
            · intro y z hy
              rcases List.mem_append.1 hy with hy | hy
              · exact (HK3.out _ (List.mem_reverse.1 hy)).stay HS4.out
              · exact (HR3.out _ hy).stay HS4.out
            · rw [sig_snoc, HQ3.out.kids HS4.out, HK5.out]
              simp
      · gi_wp2
        refine bodyPost_ret (results_none rfl _ _ _) rfl ?_
        exact ⟨⟨_, rfl⟩, .inr ⟨_, trivial, hJx3⟩⟩
end Go.Proofs.Ytjleadlecdcdeaa
