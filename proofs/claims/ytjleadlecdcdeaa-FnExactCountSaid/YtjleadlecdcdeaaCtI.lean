/-
  Parts: the walk of impl's Count.
-/
import Derived.Test.YtjleadlecdcdeaaWtI
import Derived.RangeFuncBox
namespace Go.Proofs.Ytjleadlecdcdeaa
set_option linter.unusedVariables false
open Go.RowKit Go.Shelf
attribute [local go_sem] Oper.semAt_some

theorem partsStay_below {W W' : World} {B : Nat} (h : Below B W W') (hB : W.heap.size ≤ B) : PartsStay W W' := fun g cs fr q => (h.block g (by have := (Array.getElem?_eq_some_iff.1 q).1; omega)).trans q
theorem cell_none {W : World} {b l j : Nat} {o : Obj} (hb : b = l) (h : W.heap[l]? = some o) (hc : o.isCells = false) : W.cell? ⟨b, j, none⟩ = none := by
  subst hb
  cases o <;> first | (simp [World.cell?, h]; done) | cases hc
theorem within_adm (n : Nat) (hn : 1 ≤ n) (Bp : Nat) (root : Addr) (s : Nat) (w : World) (hBp : Bp < w.heap.size) (hcell : w.cell? ⟨Bp, 0, none⟩ = some (.pointer (some root))) (hp : PtAt w root s) (hs : s ≤ 10000000) :
    SeqAdm PtrBlock Fence.wide n Try.prog 90 #[.pointer (some ⟨Bp, 0, none⟩)] (fun x : Addr × List Addr => #[Value.pointer (some x.1)]) KpP (AdmP root s) (fun xs => xs.length = s) (fun _ => True) w := fun l J Jx W hW hJ hJx hY h0 =>
  within1_in n hn l Bp root s J Jx W ((hW.cell (p := ⟨Bp, 0, none⟩) hBp).trans hcell) (hp.stay (partsStay_below hW (Nat.le_refl _))) hs hJ hJx hY h0
set_option maxHeartbeats 400000 in
theorem within_in (n : Nat) (a : Addr) (w : World) :
    CallsIn Fence.wide n Try.prog 65 #[.pointer (some a)] w fun e w' =>
      e = .returned (.func (.func 90) #[] #[.pointer (some ⟨w.heap.size, 0, none⟩)]) ∧ w' = w.alloc (.cells #[.pointer (some a)] 100) := by
  refine callsIn_of_wp Try.func65 rfl trivial ?_ rfl
  simp only [Try.ntmps65, List.size_toArray, List.length_cons, List.length_nil, Nat.reduceAdd, Nat.reduceSub, Array.replicate_succ, Array.replicate_zero, List.push_toArray, List.append_toArray, List.nil_append, List.cons_append]
  gi_wp2
  go_ret
  exact ⟨rfl, rfl⟩
theorem Holds.ty {w : World} {B : Nat} : ∀ (n : Nat) (t : Lt), Holds w B n t → Ty w n t
  | 0, t, h => h.elim
  | n + 1, t, h => by
    refine ⟨?_, fun x hx => Holds.ty n x (h.2.2.2 x hx)⟩
    have hrow := h.2.2.1
    rcases hrow.2 with ⟨e, h0⟩ | ⟨g, cap, cur, e, hb, hg, hn, hc, hs, ht⟩
    · exact .inl ⟨List.eq_nil_of_length_eq_zero h0, _, _, by rw [e]⟩
    · refine .inr ⟨g, 0, cap, cur, _, by rw [e, Nat.zero_mul], hg, fun k hk j hj => ?_⟩
      rw [Nat.zero_add, ← ltCells_at t.kids k hk j hj, ← ht, List.getElem?_take, if_pos (by omega)]
      simp

set_option maxRecDepth 100000 in
set_option maxHeartbeats 1000000 in
theorem count_in (n : Nat) (t : Lt) (w : World) (h : Ty w n t) (hs : t.size ≤ 10000000) :
    CallsIn Fence.wide 4 Try.prog 34 #[ptV t] w fun e w' => e = .returned (.int .i64 (t.size : Int)) ∧ Below w.heap.size w w' := by
  have hkv : ∃ p c, t.kv = .slice p t.kids.length c := by
    cases n with
    | zero => exact h.elim
    | succ n =>
      rcases h.1 with ⟨h0, p, c, e⟩ | ⟨g, o, c, _, _, e, _⟩
      · exact ⟨p, c, by rw [e, h0]; rfl⟩
      · exact ⟨_, c, e⟩
  obtain ⟨kp, kc, hkv⟩ := hkv
  have hW0 : PtAt (w.alloc (.cells #[.string (mkB t.kind.type), .string (mkB t.kind.sub), t.pv, .int .i64 t.head, .int .i64 t.body, .int .i64 t.fin, .slice kp t.kids.length kc] 29)) ⟨w.heap.size, 0, none⟩ t.size :=
    ⟨w.heap.size, 0, _, _, t, n, by rw [Nat.zero_mul], seven_new _ _ _ _ _ _ _ _ _, fun j hj => by rw [← hkv]; match j, hj with | 0, _ => rfl | 1, _ => rfl | 2, _ => rfl | 3, _ => rfl | 4, _ => rfl | 5, _ => rfl | 6, _ => rfl, Ty.stay (partsStay_below ((Below.refl _ _).alloc (Nat.le_refl _) _) (Nat.le_refl _)) n t h, rfl⟩
  unfold ptV
  rw [hkv]
  generalize mkB t.kind.type = T1 at *
  generalize mkB t.kind.sub = T2 at *
  generalize t.pv = pv at *
  generalize t.head = i1 at *
  generalize t.body = i2 at *
  generalize t.fin = i3 at *
  generalize t.kids.length = kn at *
  generalize t.size = sz at *
  clear h hkv
  refine callsIn_of_wp_marks Try.func34 rfl trivial ?_ rfl
  simp only [Try.ntmps34, List.size_toArray, List.length_cons, List.length_nil, Nat.reduceAdd, Nat.reduceSub, Array.replicate_succ, Array.replicate_zero, List.push_toArray, List.append_toArray, List.nil_append, List.cons_append]
  gi_wp2_with (refine ⟨trivial, ?_⟩; gi_at_call 65; refine (within_in _ _ _).mono ?_; rintro e w' ⟨rfl, rfl⟩)
  have hlt := hW0
  obtain ⟨W0, hV0⟩ : ∃ x, w.alloc (.cells #[.string T1, .string T2, pv, .int .i64 i1, .int .i64 i2, .int .i64 i3, .slice kp kn kc] 29) = x := ⟨_, rfl⟩
  have s0 : W0.heap.size = w.heap.size + 1 := by rw [← hV0]; simp
  have b0 : Below w.heap.size w W0 := by rw [← hV0]; exact (Below.refl _ _).alloc (Nat.le_refl _) _
  rw [hV0] at hW0 ⊢
  clear hV0 hlt
  have x1 := (Boxed.new W0 3 (.int .i64 0)).alloc (.cells #[.pointer (some ⟨w.heap.size, 0, none⟩)] 100)
  have x2 := Boxed.new (W0.alloc (.cells #[.int .i64 0] 3)) 100 (.pointer (some ⟨w.heap.size, 0, none⟩))
  have b1 : Below w.heap.size w ((W0.alloc (.cells #[.int .i64 0] 3)).alloc (.cells #[.pointer (some ⟨w.heap.size, 0, none⟩)] 100)) := (b0.alloc b0.size _).alloc (Nat.le_trans b0.size (by simp)) _
  have hp1 : PtAt ((W0.alloc (.cells #[.int .i64 0] 3)).alloc (.cells #[.pointer (some ⟨w.heap.size, 0, none⟩)] 100)) ⟨w.heap.size, 0, none⟩ sz :=
    (hW0.stay (partsStay_grown (World.grownBy_alloc W0 _ none) (fun r e => by cases e))).stay (partsStay_grown (World.grownBy_alloc _ _ none) (fun r e => by cases e))
  have s2 : ((W0.alloc (.cells #[.int .i64 0] 3)).alloc (.cells #[.pointer (some ⟨w.heap.size, 0, none⟩)] 100)).heap.size = w.heap.size + 3 := by simp [s0]
  rw [World.size_alloc] at x2
  rw [s0] at x1 x2
  generalize (W0.alloc (.cells #[.int .i64 0] 3)).alloc (.cells #[.pointer (some ⟨w.heap.size, 0, none⟩)] 100) = W2 at *
  refine wpIn_rangeAdm rfl (by decide) (gf := 90) (lb := #[.pointer (some ⟨w.heap.size + 1 + 1, 0, none⟩)]) rfl trivial (enters_of Try.func90 (by kernel_rfl) rfl)
    (within_adm 3 (by decide) (w.heap.size + 1 + 1) ⟨w.heap.size, 0, none⟩ sz W2 (by omega) x2.cell hp1 hs) ?kt ?kb (Below.refl _ _) (fun _ => rfl)
    ?adm
    (fun pre W => Boxed W (w.heap.size + 1) 3 (.int .i64 (pre.length : Int)) ∧ Below w.heap.size w W)
    (fun _ _ _ => False)
    ?own (fun _ _ _ _ _ h _ _ => h)
    ⟨x1, b1⟩
    (fun x => { tmps := #[.agg #[.string T1, .string T2, pv, .int .i64 i1, .int .i64 i2, .int .i64 i3, .slice kp kn kc], .pointer (some ⟨w.heap.size, 0, none⟩), .int .i64 0, .pointer (some ⟨w.heap.size + 1, 0, none⟩), .func (.func 90) #[] #[.pointer (some ⟨w.heap.size + 1 + 1, 0, none⟩)], .pointer (some x.1), undef, undef, undef], defers := [] }) ?assign ?body ?done ?stop
  case kt =>
    intro A B C h k
    exact ⟨Nat.le_trans h.1 k.1, fun a s q => k.2.1 a s (h.2.1 a s q), fun g cs fr q => k.2.2 g cs fr (h.2.2 g cs fr q)⟩
  case kb =>
    intro W l o o' hl ho hc hw
    have hg := grownBy_putObj' W l o'
    refine ⟨by simp, fun a s q => q.stay (partsStay_grown hg (fun r e => ?_)), fun g cs fr q => ?_⟩
    · injection e with e
      subst e
      exact ⟨o, ho, fun cs fr e => by rw [e] at hc; cases hc⟩
    · refine (hg.block g (Array.getElem?_eq_some_iff.1 q).1 (fun e => ?_)).trans q
      injection e with e
      subst e
      rw [q] at ho
      cases ho
      cases hc
  case adm =>
    rintro pre x W l o o' ⟨h1, ⟨m, h2⟩, h3⟩ hl ho hc hc'
    have hg := grownBy_putObj' W l o'
    have hst : PartsStay W (W.putObj l o') := partsStay_grown hg (fun r e => by injection e with e; subst e; exact ⟨o, ho, fun cs fr e => by rw [e] at hc; cases hc⟩)
    refine ⟨?_, ⟨m, h2.stay hst⟩, h3⟩
    rw [h1]
    unfold sig
    cases hgl : pre.getLast? with
    | none => rfl
    | some y =>
      have : kidsOf (W.putObj l o') y.1 = kidsOf W y.1 := by
        unfold kidsOf
        have hcell : (W.putObj l o').cell? ⟨y.1.block, y.1.off + 6, none⟩ = W.cell? ⟨y.1.block, y.1.off + 6, none⟩ := by
          by_cases hb : y.1.block = l
          · have hz : (W.putObj l o').heap[l]? = some o' := World.putObj_heap_same (Array.getElem?_eq_some_iff.1 ho).1
            rw [cell_none hb hz hc', cell_none hb ho hc]
          · simp only [World.cell?]
            rw [World.putObj_heap_other hb]
        rw [hcell]
      simp only [this]
  case own =>
    rintro pre A B row ⟨h1, h2⟩ hg hr
    have hn : ∀ r, row = some r → w.heap.size + 3 ≤ r := fun r e => by have := (hr r e).1; omega
    exact ⟨h1.kept hg (fun e => by have := hn _ e.symm; omega), h2.grown hg h2.size (fun k e => by have := hn _ e; omega)⟩
  case assign =>
    intro l x W K hK
    gi_wp2
    simpa using hK
  case body =>
    rintro lp pre x W ⟨h1, h2⟩ ⟨_, _, h3⟩
    have hc := h1.cell
    have hf := h1.frozen
    have hb : pre.length ≤ 10000000 := by omega
    gi_wp2
    have hg := grownBy_one W (w.heap.size + 1) 0 (.int .i64 ((pre.length : Int) + 1))
    refine ⟨KeepsOthers.setCell _ _ _, ⟨hg.size, fun a s q => q.stay (partsStay_grown hg (fun r e => ?_)), fun g cs fr q => ?_⟩, ?_, h2.setCell (p := ⟨w.heap.size + 1, 0, none⟩) (by show w.heap.size ≤ w.heap.size + 1; omega) _⟩
    · injection e with e
      subst e
      exact ⟨_, h1, fun cs fr e => by injection e with _ e _; revert e; decide⟩
    · refine (hg.block g (Array.getElem?_eq_some_iff.1 q).1 (fun e => ?_)).trans q
      injection e with e
      subst e
      rw [show W.heap[w.heap.size + 1]? = _ from h1] at q
      injection q with q
      injection q with _ q _
      revert q
      decide
    · rw [List.length_append, List.length_singleton]
      exact h1.set _
  case done =>
    rintro D ys W hD hy ⟨h1, h2⟩ hK
    have hc := h1.cell
    rw [hy] at hc
    gi_wp2
    refine ⟨by simp, .inl ⟨_, _, rfl, run_takeDeferred hK, ?_⟩⟩
    exact ⟨_, results_tmp rfl _ _ _, rfl, h2.trans (belowK_b (w := w) (Nat.le_refl _) W D _ _ (by omega) hK rfl rfl)⟩
  case stop =>
    rintro D c pre W _ _ h _
    exact h.elim
end Go.Proofs.Ytjleadlecdcdeaa
