/-
  Delimiters: the walk of impl's Delims.
-/
import Derived.Test.YtjleadlecdcdeaaRdD
import Derived.Test.YtjleadlecdcdeaaDlI
import Derived.Test.YtjleadlecdcdeaaPcsAdm
import Derived.Test.YtjleadlecdcdeaaBoxed
import Derived.Test.YtjleadlecdcdeaaAppB
import Derived.Test.YtjleadlecdcdeaaRegIn
namespace Go.Proofs.Ytjleadlecdcdeaa
set_option linter.unusedVariables false
open Go.RowKit Go.Shelf
attribute [local go_sem] Oper.semAt_some

theorem isRange_any (s : ByteArray) (a b : Int) (w : World) (hs : s.size ≤ 1048576) :
    Calls Try.prog 48 #[.string s, .int .i64 a, .int .i64 b] w fun e w' => e = .returned (.bool (decide (0 ≤ a ∧ a ≤ b ∧ b ≤ (s.size : Int)))) ∧ w' = w := by
  by_cases h1 : 0 ≤ a
  · by_cases h2 : a ≤ b
    · by_cases h3 : b ≤ (s.size : Int)
      · rw [decide_eq_true ⟨h1, h2, h3⟩]
        go_enter Try.func48, Try.ntmps48
        go_wp2_with fail
        go_ret
        exact ⟨rfl, rfl⟩
      · rw [decide_eq_false (fun h => h3 h.2.2)]
        have g : (s.size : Int) < b := by omega
        go_enter Try.func48, Try.ntmps48
        go_wp2_with fail
        go_ret
        exact ⟨rfl, rfl⟩
    · rw [decide_eq_false (fun h => h2 h.2.1)]
      have g : b < a := by omega
      go_enter Try.func48, Try.ntmps48
      go_wp2_with fail
      go_ret
      exact ⟨rfl, rfl⟩
  · rw [decide_eq_false (fun h => h1 h.1)]
    have g : a < 0 := by omega
    go_enter Try.func48, Try.ntmps48
    go_wp2_with fail
    go_ret
    exact ⟨rfl, rfl⟩

def offP (l : List ByteArray) : Nat := (l.map (fun x => x.size + 2)).foldr (· + ·) 0
theorem offP_snoc (l : List ByteArray) (x : ByteArray) : offP (l ++ [x]) = offP l + x.size + 2 := by
  induction l with
  | nil => simp [offP]
  | cons a r ih =>
    show a.size + 2 + offP (r ++ [x]) = (a.size + 2 + offP r) + x.size + 2
    omega
theorem offP_room {r : ByteArray} {ps : List ByteArray} (h : Pcs crlf r ps) : ∀ (pre : List ByteArray) (x : ByteArray), pre ++ [x] <+: ps → offP pre + x.size ≤ r.size := by
  induction h with
  | last r hneg =>
    intro pre x hp
    cases pre with
    | nil =>
      have := (List.cons_prefix_cons.1 hp).1
      subst this
      show 0 + x.size ≤ x.size
      omega
    | cons y q =>
      have := hp.length_le
      simp at this
  | more r i ps hi hroom t ih =>
    intro pre x hp
    have hc2 : crlf.size = 2 := rfl
    cases pre with
    | nil =>
      have := (List.cons_prefix_cons.1 hp).1
      subst this
      show 0 + (r.extract 0 i).size ≤ r.size
      rw [ByteArray.size_extract]
      omega
    | cons y q =>
      obtain ⟨e, hp2⟩ := List.cons_prefix_cons.1 hp
      subst e
      have := ih q x hp2
      show ((r.extract 0 i).size + 2 + offP q) + x.size ≤ r.size
      rw [ByteArray.size_extract] at this ⊢
      omega

/-- Seven boxes, one behind the other. -/
theorem boxes7 (w : World) (v0 v1 v2 v3 v4 v5 v6 : Value) (t0 t1 t2 t3 t4 t5 t6 : TypeId) (W : World) (hW : ((((((w.alloc (.cells #[v0] t0)).alloc (.cells #[v1] t1)).alloc (.cells #[v2] t2)).alloc (.cells #[v3] t3)).alloc (.cells #[v4] t4)).alloc (.cells #[v5] t5)).alloc (.cells #[v6] t6) = W) :
    W.heap.size = w.heap.size + 7 ∧ Boxed W w.heap.size t0 v0 ∧ Boxed W (w.heap.size + 1) t1 v1 ∧ Boxed W (w.heap.size + 2) t2 v2 ∧ Boxed W (w.heap.size + 3) t3 v3 ∧ Boxed W (w.heap.size + 4) t4 v4 ∧ Boxed W (w.heap.size + 5) t5 v5 ∧ Boxed W (w.heap.size + 6) t6 v6 ∧ Below w.heap.size w W := by
  have b0 := ((((((Boxed.new w t0 v0).alloc (.cells #[v1] t1)).alloc (.cells #[v2] t2)).alloc (.cells #[v3] t3)).alloc (.cells #[v4] t4)).alloc (.cells #[v5] t5)).alloc (.cells #[v6] t6)
  have b1 := (((((Boxed.new (w.alloc (.cells #[v0] t0)) t1 v1).alloc (.cells #[v2] t2)).alloc (.cells #[v3] t3)).alloc (.cells #[v4] t4)).alloc (.cells #[v5] t5)).alloc (.cells #[v6] t6)
  have b2 := ((((Boxed.new ((w.alloc (.cells #[v0] t0)).alloc (.cells #[v1] t1)) t2 v2).alloc (.cells #[v3] t3)).alloc (.cells #[v4] t4)).alloc (.cells #[v5] t5)).alloc (.cells #[v6] t6)
  have b3 := (((Boxed.new (((w.alloc (.cells #[v0] t0)).alloc (.cells #[v1] t1)).alloc (.cells #[v2] t2)) t3 v3).alloc (.cells #[v4] t4)).alloc (.cells #[v5] t5)).alloc (.cells #[v6] t6)
  have b4 := ((Boxed.new ((((w.alloc (.cells #[v0] t0)).alloc (.cells #[v1] t1)).alloc (.cells #[v2] t2)).alloc (.cells #[v3] t3)) t4 v4).alloc (.cells #[v5] t5)).alloc (.cells #[v6] t6)
  have b5 := (Boxed.new (((((w.alloc (.cells #[v0] t0)).alloc (.cells #[v1] t1)).alloc (.cells #[v2] t2)).alloc (.cells #[v3] t3)).alloc (.cells #[v4] t4)) t5 v5).alloc (.cells #[v6] t6)
  have b6 := Boxed.new ((((((w.alloc (.cells #[v0] t0)).alloc (.cells #[v1] t1)).alloc (.cells #[v2] t2)).alloc (.cells #[v3] t3)).alloc (.cells #[v4] t4)).alloc (.cells #[v5] t5)) t6 v6
  have bl : Below w.heap.size w (((((((w.alloc (.cells #[v0] t0)).alloc (.cells #[v1] t1)).alloc (.cells #[v2] t2)).alloc (.cells #[v3] t3)).alloc (.cells #[v4] t4)).alloc (.cells #[v5] t5)).alloc (.cells #[v6] t6)) :=
    ((((((((Below.refl _ w).alloc (Nat.le_refl _) _).alloc (by simp) _).alloc (by simp; omega) _).alloc (by simp; omega) _).alloc (by simp; omega) _).alloc (by simp; omega) _).alloc (by simp; omega) _)
  simp only [World.size_alloc] at b1 b2 b3 b4 b5 b6
  rw [hW] at b0 b1 b2 b3 b4 b5 b6 bl
  exact ⟨by rw [← hW]; simp only [World.size_alloc], b0, b1, b2, b3, b4, b5, b6, bl⟩

/-- Between two rounds. -/
structure DlAt (w : World) (s st : ByteArray) (b : Nat) (L : List Dl) (p : Nat) (v : Value) (W : World) : Prop where
  raw : Boxed W w.heap.size 9 (.string s)
  to : Boxed W (w.heap.size + 1) 3 (.int .i64 (b : Int))
  list : Boxed W (w.heap.size + 2) 38 v
  row : W.ownsRow (w.heap.size + 7) 40 3 v L.length (dlCells L)
  start : Boxed W (w.heap.size + 3) 9 (.string st)
  place : Boxed W (w.heap.size + 4) 3 (.int .i64 (p : Int))
  below : Below w.heap.size w W
  size : w.heap.size + 7 ≤ W.heap.size
theorem DlAt.kept {w : World} {s st : ByteArray} {b : Nat} {L : List Dl} {p : Nat} {v : Value} {A B : World} {row : Option Nat} (h : DlAt w s st b L p v A) (hg : A.grownBy B row) (hr : ∀ r, row = some r → w.heap.size + 7 ≤ r ∧ ∃ o : Obj, A.heap[r]? = some o ∧ o.isCells = false) : DlAt w s st b L p v B := by
  have hn : ∀ j, j < w.heap.size + 7 → some j ≠ row := fun j hj e => by have := (hr j e.symm).1; omega
  refine ⟨h.raw.kept hg (hn _ (by omega)), h.to.kept hg (hn _ (by omega)), h.list.kept hg (hn _ (by omega)), h.row.kept hg ?_, h.start.kept hg (hn _ (by omega)), h.place.kept hg (hn _ (by omega)), h.below.grown hg h.below.size (fun k e => by have := (hr k e).1; omega), Nat.le_trans h.size hg.size⟩
  cases hv : v.ownBlock with
  | none => exact .inl rfl
  | some g =>
    refine .inr (fun e => ?_)
    obtain ⟨_, o, ho, hc⟩ := hr g e.symm
    rcases h.row.2 with ⟨rfl, _⟩ | ⟨g', cap, cur, rfl, _, hgb, _⟩
    · simp [Value.ownBlock] at hv
    · have : g' = g := by simpa [Value.ownBlock] using hv
      subst this
      rw [hgb] at ho
      cases ho
      cases hc
theorem DlAt.later {w : World} {s st : ByteArray} {b : Nat} {L : List Dl} {p : Nat} {v : Value} {A B : World} (h : DlAt w s st b L p v A) (hb : Below A.heap.size A B) : DlAt w s st b L p v B :=
  h.kept (row := none) ⟨hb.os, hb.tape, hb.output, hb.size, fun k hk _ => hb.block k hk⟩ (fun r e => by cases e)
theorem DlAt.move {w : World} {s st : ByteArray} {b : Nat} {L : List Dl} {p : Nat} {v : Value} {A : World} (h : DlAt w s st b L p v A) (q : Nat) : DlAt w s st b L q v (A.setCell ⟨w.heap.size + 4, 0, none⟩ (.int .i64 (q : Int))) := by
  have hg := grownBy_one A (w.heap.size + 4) 0 (.int .i64 (q : Int))
  have hn : ∀ j, j ≠ w.heap.size + 4 → some j ≠ some (w.heap.size + 4) := fun j hj e => hj (Option.some.inj e)
  refine ⟨h.raw.kept hg (hn _ (by omega)), h.to.kept hg (hn _ (by omega)), h.list.kept hg (hn _ (by omega)), h.row.kept hg (.inr (fun e => ?_)), h.start.kept hg (hn _ (by omega)), h.place.set _, h.below.setCell (p := ⟨w.heap.size + 4, 0, none⟩) (by show w.heap.size ≤ w.heap.size + 4; omega) _, by simpa [World.setCell] using h.size⟩
  have := (h.row.lt _ e).1
  omega

set_option maxRecDepth 100000 in
set_option maxHeartbeats 2000000 in
theorem delims_in (s : ByteArray) (a b : Nat) (mk : ByteArray) (full : List ByteArray) (hps : Pcs crlf (s.extract a b) full) (hs : s.size ≤ 1048576) (hab : a ≤ b) (hb : b ≤ s.size) (hm1 : 1 ≤ mk.size) (hm2 : mk.size ≤ 70) (w : World) (hML : MaxLenAt w) :
    CallsIn Fence.wide 4 Try.prog 15 #[.string s, .int .i64 (a : Int), .int .i64 (b : Int), .string mk] w (GivesDls (walkD s.data.toList mk.data.toList b full a) w) := by
  have HML := Lib.hid hML
  have IR := Lib.hid (fun w => isRange_any s (a : Int) (b : Int) w hs)
  rw [decide_eq_true (show (0 : Int) ≤ (a : Int) ∧ (a : Int) ≤ (b : Int) ∧ (b : Int) ≤ (s.size : Int) by omega)] at IR
  have g1 : (mk.toList == []) = false := by
    rw [beq_eq_false_iff_ne]
    intro e
    have : mk.data.toList.length = mk.size := by simp
    rw [← Lib.toList_data, e] at this
    simp at this
    omega
  have g2 : decide ((70 : Int) < (mk.size : Int)) = false := by simp; omega
  have s0 : ¬ 9223372036854775807 < 2 + mk.size := by omega
  have j0 : (0 : Int) ≤ (a : Int) := by omega
  have j1 : (a : Int) ≤ (b : Int) := by omega
  have j2 : (b : Int) ≤ (s.size : Int) := by omega
  obtain ⟨st, hst⟩ : ∃ st : ByteArray, (⟨#[45, 45]⟩ : ByteArray) ++ mk = st := ⟨_, rfl⟩
  clear hML
  refine callsIn_of_wp_marks Try.func15 rfl trivial ?_ rfl
  simp only [Try.ntmps15, List.size_toArray, List.length_cons, List.length_nil, Nat.reduceAdd, Nat.reduceSub, Array.replicate_succ, Array.replicate_zero, List.push_toArray, List.append_toArray, List.nil_append, List.cons_append]
  gi_wp2_with (first | (refine ⟨trivial, ?_⟩; gi_at_call 48; refine (callsIn_wide.2 (IR.out _)).mono ?_; rintro e w' ⟨rfl, rfl⟩) | (refine ⟨trivial, ?_⟩; gi_at_call 49; refine (pieces_in _ _ _ _).mono ?_; rintro e w' ⟨rfl, rfl⟩))
  obtain ⟨W0, hW0⟩ : ∃ W0, ((((((w.alloc (.cells #[.string s] 9)).alloc (.cells #[.int .i64 (b : Int)] 3)).alloc (.cells #[.slice none 0 0] 38)).alloc (.cells #[.string st] 9)).alloc (.cells #[.int .i64 (a : Int)] 3)).alloc (.cells #[.string (s.extract a b)] 9)).alloc (.cells #[.string ⟨#[13, 10]⟩] 9) = W0 := ⟨_, rfl⟩
  obtain ⟨hsz, b0, b1, b2, b3, b4, b5, b6, bl⟩ := boxes7 w _ _ _ _ _ _ _ _ _ _ _ _ _ _ W0 hW0
  rw [hW0]
  have hML0 := HML.out.after bl
  have hmlt := HML.out.lt
  have hD0 : DlAt w s st b [] a (.slice none 0 0) W0 := ⟨b0, b1, b2, World.ownsRow_nil _ _ _ _, b3, b4, bl, by omega⟩
  have hsub : (s.extract a b).size < 4294967281 := by rw [ByteArray.size_extract]; omega
  clear hW0 b0 b1 b2 b3 b4
  refine wpIn_rangeAdm rfl (by decide) (gf := 76) (lb := #[.pointer (some ⟨w.heap.size + 1 + 1 + 1 + 1 + 1, 0, none⟩), .pointer (some ⟨w.heap.size + 1 + 1 + 1 + 1 + 1 + 1, 0, none⟩)]) rfl trivial (enters_of Try.func76 (by kernel_rfl) rfl)
    (pieces_adm 3 (by decide) (w.heap.size + 1 + 1 + 1 + 1 + 1) (w.heap.size + 1 + 1 + 1 + 1 + 1 + 1) crlf (s.extract a b) full hps hsub (by decide) W0 (by omega) (by omega) hML0 b5.cell b6.cell) Keep2.trans (Keep2.putObj (by omega) (by omega)) (Below.refl _ _) (fun _ => rfl)
    (fun _ _ _ _ _ _ h _ _ _ _ => h)
    (fun pre W => ∃ L v, DlAt w s st b L (a + offP pre) v W ∧ L.length ≤ offP pre ∧ ∀ rest, full = pre ++ rest → walkD s.data.toList mk.data.toList b full a = L ++ walkD s.data.toList mk.data.toList b rest (a + offP pre))
    (fun c _ W => c = .exit 0 ∧ ∃ L v, (∃ p, DlAt w s st b L p v W) ∧ walkD s.data.toList mk.data.toList b full a = L)
    ?own ?ownx
    ⟨[], _, hD0, Nat.zero_le _, fun rest e => by rw [e]; rfl⟩
    (fun x => { tmps := #[.string s, .int .i64 (a : Int), .int .i64 (b : Int), .string mk, .pointer (some ⟨w.heap.size, 0, none⟩), undef, .pointer (some ⟨w.heap.size + 1, 0, none⟩), undef, .slice none 0 0, .pointer (some ⟨w.heap.size + 1 + 1, 0, none⟩), .pointer (some ⟨w.heap.size + 1 + 1 + 1, 0, none⟩), .pointer (some ⟨w.heap.size + 1 + 1 + 1 + 1, 0, none⟩), .string x, undef, undef, .string s, .int .i64 (a : Int), .int .i64 (b : Int), .bool true, .bool false, .bool false, .string mk, .bool false, .bool false, .bool false, .string mk, .int .i64 (mk.size : Int), .bool false, .bool false, .string mk, .string st, .int .i64 (a : Int), .string s, .int .i64 (a : Int), .int .i64 (b : Int), .string (s.extract a b), .func (.func 76) #[] #[.pointer (some ⟨w.heap.size + 1 + 1 + 1 + 1 + 1, 0, none⟩), .pointer (some ⟨w.heap.size + 1 + 1 + 1 + 1 + 1 + 1, 0, none⟩)], .string x, undef, undef, undef, undef, undef, undef, undef, undef, undef, undef, undef, undef, undef, undef, undef, undef, undef, undef, undef, undef, undef, undef, undef], defers := [] }) ?assign ?body ?done ?stop
  case own =>
    rintro pre A B row ⟨L, v, h, hle, hr⟩ hg hrow
    exact ⟨L, v, h.kept hg (fun r e => by obtain ⟨q1, o, q2, q3⟩ := hrow r e; exact ⟨by omega, o, q2, q3.resolve_right (fun h => h)⟩), hle, hr⟩
  case ownx =>
    rintro c pre A B row ⟨hc, L, v, ⟨p, h⟩, hr⟩ hg hrow
    exact ⟨hc, L, v, ⟨p, h.kept hg (fun r e => by obtain ⟨q1, o, q2, q3⟩ := hrow r e; exact ⟨by omega, o, q2, q3.resolve_right (fun h => h)⟩)⟩, hr⟩
  case assign =>
    intro l x W K hK
    gi_wp2
    exact hK
  case body =>
    rintro lp pre x W ⟨L, v, hD, hLL, hR⟩ hpre
    have hroom := offP_room hps pre x hpre
    rw [ByteArray.size_extract] at hroom
    obtain ⟨rest, hfull⟩ := hpre
    have hW := hR (x :: rest) (by rw [← hfull, List.append_assoc]; rfl)
    rw [walkD] at hW
    obtain ⟨q, hq⟩ : ∃ q, a + offP pre = q := ⟨_, rfl⟩
    rw [hq] at hD hW
    have hqb : q + x.size ≤ b := by omega
    have hT : (s.extract 0 b).size = b := by rw [ByteArray.size_extract]; omega
    have hTl : (s.extract 0 b).data.toList = s.data.toList.take b := by rw [Lib.extract_data]; simp
    have hstl : st.data.toList = 45 :: 45 :: mk.data.toList := by rw [← hst, ByteArray.data_append, Array.toList_append]; rfl
    have hsts : st.size ≤ 72 := by
      rw [← hst, ByteArray.size_append]
      have : (⟨#[45, 45]⟩ : ByteArray).size = 2 := rfl
      omega
    have RD := Lib.hid (fun W => readDelim_any (s.extract 0 b) q st W (by omega) (by omega) hsts)
    rw [hTl, hstl, rdD_eq s.data.toList mk.data.toList q b (by omega) (by simpa using hb)] at RD
    have hoff : a + offP (pre ++ [x]) = q + x.size + 2 := by rw [offP_snoc]; omega
    have HD := Lib.hid hD
    have k0 := hD.raw.cell
    have k1 := hD.to.cell
    have k2 := hD.start.cell
    have k3 := hD.place.cell
    have i0 : (0 : Int) ≤ (b : Int) := by omega
    have ib : (b : Int) ≤ (s.size : Int) := by omega
    have hmx : Try.prog.follows .mixedOrders = true := by kernel_rfl
    have hl := hD.size
    have l0 : w.heap.size < W.heap.size := by omega
    have l1 : w.heap.size + 1 < W.heap.size := by omega
    have l3 : w.heap.size + 1 + 1 + 1 < W.heap.size := by omega
    have l4 : w.heap.size + 1 + 1 + 1 + 1 < W.heap.size := by omega
    change W.cell? ⟨w.heap.size + 1 + 1 + 1, 0, none⟩ = _ at k2
    change W.cell? ⟨w.heap.size + 1 + 1 + 1 + 1, 0, none⟩ = _ at k3
    obtain ⟨X0, X1, X2, ok, hV⟩ : ∃ (X0 X1 X2 : Int) (ok : Bool), dlV (delimAt s.data.toList q b mk.data.toList) = .tuple #[.agg #[.int .i64 X0, .int .i64 X1, .int .i64 X2], .bool ok] := by
      cases delimAt s.data.toList q b mk.data.toList with
      | none => exact ⟨_, _, _, _, rfl⟩
      | some d => exact ⟨_, _, _, _, rfl⟩
    rw [hV] at RD
    have HV := Lib.hid hV
    have HW := Lib.hid hW
    have HOFF := Lib.hid hoff
    have HF := Lib.hid hfull
    have HPS := Lib.hid hps
    have BK := Lib.hid (fun (w1 : World) (h : Below W.heap.size W w1) => (⟨(h.cell (p := ⟨w.heap.size, 0, none⟩) l0).trans k0, (h.cell (p := ⟨w.heap.size + 1, 0, none⟩) l1).trans k1, (h.cell (p := ⟨w.heap.size + 1 + 1 + 1, 0, none⟩) l3).trans k2, (h.cell (p := ⟨w.heap.size + 1 + 1 + 1 + 1, 0, none⟩) l4).trans k3⟩ : w1.cell? ⟨w.heap.size, 0, none⟩ = some (.string s) ∧ w1.cell? ⟨w.heap.size + 1, 0, none⟩ = some (.int .i64 (b : Int)) ∧ w1.cell? ⟨w.heap.size + 1 + 1 + 1, 0, none⟩ = some (.string st) ∧ w1.cell? ⟨w.heap.size + 1 + 1 + 1 + 1, 0, none⟩ = some (.int .i64 (q : Int))))
    have hqs : q + x.size ≤ 1048576 := by omega
    have hLs : L.length ≤ 1048576 := by omega
    have hml := HML.out.lt
    have FIN : Hid (∀ (W3 : World) (L' : List Dl) (v' : Value), DlAt w s st b L' q v' W3 → KeepsOthers W W3 → Keep2 0 (w.heap.size + 1 + 1 + 1 + 1 + 1 + 1) W W3 → L'.length ≤ offP pre + 1 → walkD s.data.toList mk.data.toList b full a = L' ++ walkD s.data.toList mk.data.toList b rest (q + x.size + 2) →
        KeepsOthers W (W3.setCell ⟨w.heap.size + 1 + 1 + 1 + 1, 0, none⟩ (.int .i64 ((q : Int) + ((x.size : Int) + 2)))) ∧ Keep2 0 (w.heap.size + 1 + 1 + 1 + 1 + 1 + 1) W (W3.setCell ⟨w.heap.size + 1 + 1 + 1 + 1, 0, none⟩ (.int .i64 ((q : Int) + ((x.size : Int) + 2)))) ∧
        ∃ L v, DlAt w s st b L (a + offP (pre ++ [x])) v (W3.setCell ⟨w.heap.size + 1 + 1 + 1 + 1, 0, none⟩ (.int .i64 ((q : Int) + ((x.size : Int) + 2)))) ∧ L.length ≤ offP (pre ++ [x]) ∧ ∀ rest, full = pre ++ [x] ++ rest → walkD s.data.toList mk.data.toList b full a = L ++ walkD s.data.toList mk.data.toList b rest (a + offP (pre ++ [x]))) := Lib.hid (fun W3 L' v' h1 h2 h3 h4 h5 => by
      rw [show (q : Int) + ((x.size : Int) + 2) = ((q + x.size + 2 : Nat) : Int) by omega]
      refine ⟨h2.trans (KeepsOthers.setCell _ _ _), ⟨?_, ?_⟩, L', v', ?_, by rw [offP_snoc]; omega, fun r hr => ?_⟩
      · exact (Below.heap_setCell _ _ _ _ (by show _ ≠ w.heap.size + 1 + 1 + 1 + 1; omega)).trans h3.1
      · exact (Below.heap_setCell _ _ _ _ (by show _ ≠ w.heap.size + 1 + 1 + 1 + 1; omega)).trans h3.2
      · rw [hoff]
        exact h1.move (q + x.size + 2)
      · rw [hoff]
        rw [← hfull] at hr
        have := List.append_cancel_left hr
        rw [← this]
        exact h5)
    have KB : Hid (∀ W3, Below W.heap.size W W3 → KeepsOthers W W3 ∧ Keep2 0 (w.heap.size + 1 + 1 + 1 + 1 + 1 + 1) W W3) := Lib.hid (fun W3 h =>
      ⟨KeepsOthers.of_grownBy (row := none) ⟨h.os, h.tape, h.output, h.size, fun k hk _ => h.block k hk⟩ (fun j o e => by cases e), ⟨h.block _ (by omega), h.block _ (by omega)⟩⟩)
    obtain ⟨j0', hj, hy0, hy1, hy2⟩ := info_parts infoDl
    clear hW hoff hfull hps hV hstl hsts hTl hT hroom hR hD0 hML0 hmlt HML IR b5 b6 bl hst hsz hs hab hb hm1 hm2 g1 g2 s0 hD j0 j1 j2 hsub hq
    gi_wp2
    refine region_round (S := fun w' => w'.cell? ⟨w.heap.size, 0, none⟩ = some (.string s) ∧ w'.cell? ⟨w.heap.size + 1, 0, none⟩ = some (.int .i64 (b : Int)) ∧ w'.cell? ⟨w.heap.size + 1 + 1 + 1, 0, none⟩ = some (.string st) ∧ w'.cell? ⟨w.heap.size + 1 + 1 + 1 + 1, 0, none⟩ = some (.int .i64 (q : Int))) hmx (noDefer_spec (by kernel_rfl)) (fun a w h => h) ⟨k0, k1, k2, k3⟩ (fun hHeld => ?_)
    refine take_on (i := 0) (some 39) ?_ rfl rfl (by kernel_rfl) (by kernel_rfl) (by kernel_rfl) (fun _ _ _ h => h) (by rfl) (by assumption) ?_ ?_
    rotate_left 2
    · intro wx hSx
      (try obtain ⟨h0, h1, h2, h3⟩ := hSx)
      go_simp
      try with_reducible rfl
    rotate_left
    simp only [Act.put, List.setIfInBounds_toArray, List.set_cons_zero, List.set_cons_succ]
    refine take_on (i := 1) (some 40) ?_ rfl rfl (by kernel_rfl) (by kernel_rfl) (by kernel_rfl) (fun _ _ _ h => h) (by rfl) (by assumption) ?_ ?_
    rotate_left 2
    · intro wx hSx
      (try obtain ⟨h0, h1, h2, h3⟩ := hSx)
      go_simp
      try with_reducible rfl
    rotate_left
    simp only [Act.put, List.setIfInBounds_toArray, List.set_cons_zero, List.set_cons_succ]
    refine take_on (i := 2) (some 41) ?_ rfl rfl (by kernel_rfl) (by kernel_rfl) (by kernel_rfl) (fun _ _ _ h => h) (by rfl) (by assumption) ?_ ?_
    rotate_left 2
    · intro wx hSx
      (try obtain ⟨h0, h1, h2, h3⟩ := hSx)
      go_simp
      try with_reducible rfl
    rotate_left
    simp only [Act.put, List.setIfInBounds_toArray, List.set_cons_zero, List.set_cons_succ]
    refine take_on (i := 3) (some 42) ?_ rfl rfl (by kernel_rfl) (by kernel_rfl) (by kernel_rfl) (fun _ _ _ h => h) (by rfl) (by assumption) ?_ ?_
    rotate_left 2
    · intro wx hSx
      (try obtain ⟨h0, h1, h2, h3⟩ := hSx)
      go_simp
      try with_reducible rfl
    rotate_left
    simp only [Act.put, List.setIfInBounds_toArray, List.set_cons_zero, List.set_cons_succ]
    refine take_on (i := 4) (some 43) ?_ rfl rfl (by kernel_rfl) (by kernel_rfl) (by kernel_rfl) (fun _ _ _ h => h) (by rfl) (by assumption) ?_ ?_
    rotate_left 2
    · intro wx hSx
      (try obtain ⟨h0, h1, h2, h3⟩ := hSx)
      go_simp
      try with_reducible rfl
    rotate_left
    simp only [Act.put, List.setIfInBounds_toArray, List.set_cons_zero, List.set_cons_succ]
    have D1 : Below W.heap.size W W.drew := (Below.refl _ _).drew
    refine wpAnyH_ready (rs := [5, 9]) (by kernel_rfl) (by simp) (AllReadyH.cons rfl (fun K hK => ?_) (AllReadyH.cons rfl (fun K hK => ?_) AllReadyH.nil))
    · rw [if_pos (by rfl)]
      go_simp
      refine (RD.out _).mono ?_
      rintro e w1 ⟨rfl, hB1⟩
      have B1 := D1.trans hB1
      clear hHeld hB1
      refine hK.out _ _ (BK.out _ B1) (fun hHeld => ?_)
      clear hK
      refine take_on (i := 6) (some 38) ?_ rfl rfl (by kernel_rfl) (by kernel_rfl) (by kernel_rfl) (fun _ _ _ h => h) (by rfl) (by assumption) ?_ ?_
      rotate_left 2
      · intro wx hSx
        (try obtain ⟨h0, h1, h2, h3⟩ := hSx)
        go_simp
        try with_reducible rfl
      rotate_left
      simp only [Act.put, List.setIfInBounds_toArray, List.set_cons_zero, List.set_cons_succ]
      refine take_on (i := 7) (some 45) ?_ rfl rfl (by kernel_rfl) (by kernel_rfl) (by kernel_rfl) (fun _ _ _ h => h) (by rfl) (by assumption) ?_ ?_
      rotate_left 2
      · intro wx hSx
        (try obtain ⟨h0, h1, h2, h3⟩ := hSx)
        go_simp
        try with_reducible rfl
      rotate_left
      simp only [Act.put, List.setIfInBounds_toArray, List.set_cons_zero, List.set_cons_succ]
      refine take_on (i := 8) (some 46) ?_ rfl rfl (by kernel_rfl) (by kernel_rfl) (by kernel_rfl) (fun _ _ _ h => h) (by rfl) (by assumption) ?_ ?_
      rotate_left 2
      · intro wx hSx
        (try obtain ⟨h0, h1, h2, h3⟩ := hSx)
        go_simp
        try with_reducible rfl
      rotate_left
      simp only [Act.put, List.setIfInBounds_toArray, List.set_cons_zero, List.set_cons_succ]
      refine wpAnyH_ready (rs := [9]) (by kernel_rfl) (by simp) (AllReadyH.cons rfl (fun K hK => ?_) AllReadyH.nil)
      rw [if_pos (by rfl)]
      go_simp
      have B2 := B1.alloc B1.size (.cells #[.int .i64 0, .int .i64 0, .int .i64 0] 40)
      have n0 := new_three w1 (.int .i64 0) (.int .i64 0) (.int .i64 0) 40
      obtain ⟨_, _, _⟩ := three_cells n0
      obtain ⟨_, _, _⟩ := three_free n0
      clear hHeld
      refine hK.out _ _ (BK.out _ B2) (fun hHeld => ?_)
      clear hK
      refine wpAnyH_ready (rs := [10]) (by kernel_rfl) (by simp) (AllReadyH.cons rfl (fun K hK => ?_) AllReadyH.nil)
      rw [if_pos (by rfl)]
      go_simp
      have n2 := new_three w1 (.int .i64 X0) (.int .i64 X1) (.int .i64 X2) 40
      have B3 := B1.alloc B1.size (.cells #[.int .i64 X0, .int .i64 X1, .int .i64 X2] 40)
      have hDn : W.heap.size ≤ w1.heap.size := B1.size
      generalize w1.alloc (.cells #[.int .i64 X0, .int .i64 X1, .int .i64 X2] 40) = W2 at *
      clear hHeld
      refine hK.out _ _ (BK.out _ B3) (fun hHeld => ?_)
      clear hK
      refine take_on (i := 11) (some 14) ?_ rfl rfl (by kernel_rfl) (by kernel_rfl) (by kernel_rfl) (fun _ _ _ h => h) (by rfl) (by assumption) ?_ ?_
      rotate_left 2
      · intro wx hSx
        (try obtain ⟨h0, h1, h2, h3⟩ := hSx)
        go_simp
        try with_reducible rfl
      rotate_left
      simp only [Act.put, List.setIfInBounds_toArray, List.set_cons_zero, List.set_cons_succ]
      refine wpAnyH_done (by kernel_rfl) ?_ _
      cases ok with
      | false =>
        have hnone : delimAt s.data.toList q b mk.data.toList = none := by
          have := HV.out
          cases hd : delimAt s.data.toList q b mk.data.toList with
          | none => rfl
          | some d => rw [hd] at this; simp [dlV] at this
        have hw := HW.out
        rw [hnone] at hw
        have H2 := Lib.hid (HD.out.later B3)
        have c1 := H2.out.place.cell
        have c2 := H2.out.place.frozen
        have FN := Lib.hid (FIN.out W2 L v H2.out (KB.out _ B3).1 (KB.out _ B3).2 (by omega) hw)
        clear hw hnone
        gi_wp2
        exact FN.out
      | true =>
        obtain ⟨d, hd⟩ : ∃ d, delimAt s.data.toList q b mk.data.toList = some d := by
          have := HV.out
          cases hd : delimAt s.data.toList q b mk.data.toList with
          | none => rw [hd] at this; simp [dlV] at this
          | some d => exact ⟨d, rfl⟩
        have hvv := HV.out
        rw [hd] at hvv
        have hw := HW.out
        rw [hd] at hw
        simp only at hw
        simp [dlV] at hvv
        obtain ⟨e0, e1, e2⟩ := hvv
        have H2 := Lib.hid (HD.out.later B3)
        obtain ⟨m0, m1, m2⟩ := three_cells n2
        have hdl := delimAt_le hd
        have RR := Lib.hid H2.out.row
        have hsz2 := B3.size
        have ROW : Hid (∀ (v' : Value) (W3 : World), W3.ownsRow (w.heap.size + 7) 40 3 v' (L.length + 1) (dlCells L ++ [.int .i64 X0, .int .i64 X1, .int .i64 X2]) → W3.ownsRow (w.heap.size + 7) 40 3 v' (L ++ [d]).length (dlCells (L ++ [d]))) := Lib.hid (fun v' W3 h => by
          rw [List.length_append, dlCells_append, ← e0, ← e1, ← e2] at *
          exact h)
        have hDb : w1.heap.size < W2.heap.size := (Array.getElem?_eq_some_iff.1 n2).1
        have DA : Hid (∀ (w5 : World) (v' : Value) (tmp : Obj), w5.ownsRow (w.heap.size + 7) 40 3 v' (L.length + 1) (dlCells L ++ [.int .i64 X0, .int .i64 X1, .int .i64 X2]) → (W2.alloc tmp).grownBy w5 v.ownBlock →
            DlAt w s st b (L ++ [d]) q v' (w5.setCell ⟨w.heap.size + 1 + 1, 0, none⟩ v') ∧ KeepsOthers W (w5.setCell ⟨w.heap.size + 1 + 1, 0, none⟩ v') ∧ Keep2 0 (w.heap.size + 1 + 1 + 1 + 1 + 1 + 1) W (w5.setCell ⟨w.heap.size + 1 + 1, 0, none⟩ v') ∧
            (w5.setCell ⟨w.heap.size + 1 + 1, 0, none⟩ v').cell? ⟨w1.heap.size, 2, none⟩ = some (.int .i64 X2) ∧ w5.cell? ⟨w.heap.size + 1 + 1, 0, none⟩ = some v ∧ w5.frozen? ⟨w.heap.size + 1 + 1, 0, none⟩ = false) := Lib.hid (fun w5 v' tmp hown' hgrow => by
          have hh := H2.out
          obtain ⟨hv1, hv2, hr2, hk2, hb2', hkeep⟩ := boxApp (n₀ := w.heap.size) hh.list (by decide) hh.row (Nat.le_add_right _ 7) (by omega) (Nat.le_add_right _ 2) hown' hgrow
          have hrl := fun g e => (HD.out.row.lt g e).2
          refine ⟨⟨(hkeep _ (by omega) (by omega) (by omega)).trans hh.raw, (hkeep _ (by omega) (by omega) (by omega)).trans hh.to, hv2, ROW.out _ _ hr2, (hkeep _ (by omega) (by omega) (by omega)).trans hh.start, (hkeep _ (by omega) (by omega) (by omega)).trans hh.place, hh.below.trans hb2', Nat.le_trans hh.size hk2.size⟩,
            (KB.out _ B3).1.trans hk2, ⟨(hb2'.block _ hml).trans (KB.out _ B3).2.1, (hkeep _ (by omega) (by omega) (by omega)).trans (KB.out _ B3).2.2⟩, ?_, hv1.cell, hv1.frozen⟩
          have e1 : w5.heap[w1.heap.size]? = W2.heap[w1.heap.size]? := (hgrow.block w1.heap.size (by simp; omega) (fun e => by have := hrl _ e.symm; omega)).trans (Below.heap_alloc _ _ _ hDb)
          have e2 : (w5.setCell ⟨w.heap.size + 1 + 1, 0, none⟩ v').heap[w1.heap.size]? = _ := (Below.heap_setCell _ _ _ _ (by show w1.heap.size ≠ w.heap.size + 1 + 1; omega)).trans (e1.trans n2)
          exact (three_cells e2).2.2)
        have q0 : W2.cell? ⟨w.heap.size + 1 + 1, 0, none⟩ = some v := H2.out.list.cell
        clear n2 H2
        by_cases hlast : d.last = 1
        · have g5 : (X2 == 1) = true := by rw [← e2, hlast]; rfl
          rw [if_pos hlast] at hw
          have HWW := Lib.hid hw
          clear hw hlast e0 e1 e2
          gi_wp2_with (gi_at_builtin; refine wpListIn_append_own _ rfl _ _ 38 rfl (w.heap.size + 7) 40 j0' (.agg #[.int .i64 0, .int .i64 0, .int .i64 0]) 3 24 Try.underlying38 hj hy0 hy1 hy2 rfl (by decide) _ _ _ rfl (RR.out.alloc _) ⟨W2.heap.size, 0, none⟩ 1 1 [.int .i64 X0, .int .i64 X1, .int .i64 X2] rfl rfl (cell_three_new _ _ _ _ _ _ rfl) (by simp [Value.oneCell']) (by unfold maxLen; omega) (by omega) (by simp; omega) ?_; intro v' w5 hown' hgrow _; obtain ⟨g', cap', rfl⟩ := ownsRow_succ hown'; obtain ⟨D1', D2', D3', f1, f2, f3⟩ := DA.out _ _ _ hown' hgrow; clear hown' hgrow)
          exact ⟨D2', rfl, _, _, ⟨_, D1'⟩, HWW.out⟩
        · have g5 : (X2 == 1) = false := by rw [← e2, beq_eq_false_iff_ne]; omega
          rw [if_neg hlast] at hw
          have HWW := Lib.hid hw
          clear hw hlast e0 e1 e2
          gi_wp2_with (gi_at_builtin; refine wpListIn_append_own _ rfl _ _ 38 rfl (w.heap.size + 7) 40 j0' (.agg #[.int .i64 0, .int .i64 0, .int .i64 0]) 3 24 Try.underlying38 hj hy0 hy1 hy2 rfl (by decide) _ _ _ rfl (RR.out.alloc _) ⟨W2.heap.size, 0, none⟩ 1 1 [.int .i64 X0, .int .i64 X1, .int .i64 X2] rfl rfl (cell_three_new _ _ _ _ _ _ rfl) (by simp [Value.oneCell']) (by unfold maxLen; omega) (by omega) (by simp; omega) ?_; intro v' w5 hown' hgrow _; obtain ⟨g', cap', rfl⟩ := ownsRow_succ hown'; obtain ⟨D1', D2', D3', f1, f2, f3⟩ := DA.out _ _ _ hown' hgrow; have p1 := D1'.place.cell; have p2 := D1'.place.frozen; clear hown' hgrow)
          exact FIN.out _ _ _ D1' D2' D3' (by simp; omega) (by rw [HWW.out]; simp)
    · rw [if_pos (by rfl)]
      go_simp
      have B2 := D1.alloc D1.size (.cells #[.int .i64 0, .int .i64 0, .int .i64 0] 40)
      clear hHeld
      refine hK.out _ _ (BK.out _ B2) (fun hHeld => ?_)
      clear hK
      refine wpAnyH_ready (rs := [5]) (by kernel_rfl) (by simp) (AllReadyH.cons rfl (fun K hK => ?_) AllReadyH.nil)
      rw [if_pos (by rfl)]
      go_simp
      refine (RD.out _).mono ?_
      rintro e w1 ⟨rfl, hB1⟩
      have B1 := B2.trans (hB1.mono B2.size)
      have n0 := (hB1.block W.heap.size (by simp)).trans (new_three W.drew (.int .i64 0) (.int .i64 0) (.int .i64 0) 40)
      obtain ⟨_, _, _⟩ := three_cells n0
      obtain ⟨_, _, _⟩ := three_free n0
      clear hHeld hB1
      refine hK.out _ _ (BK.out _ B1) (fun hHeld => ?_)
      clear hK
      refine take_on (i := 6) (some 38) ?_ rfl rfl (by kernel_rfl) (by kernel_rfl) (by kernel_rfl) (fun _ _ _ h => h) (by rfl) (by assumption) ?_ ?_
      rotate_left 2
      · intro wx hSx
        (try obtain ⟨h0, h1, h2, h3⟩ := hSx)
        go_simp
        try with_reducible rfl
      rotate_left
      simp only [Act.put, List.setIfInBounds_toArray, List.set_cons_zero, List.set_cons_succ]
      refine take_on (i := 7) (some 45) ?_ rfl rfl (by kernel_rfl) (by kernel_rfl) (by kernel_rfl) (fun _ _ _ h => h) (by rfl) (by assumption) ?_ ?_
      rotate_left 2
      · intro wx hSx
        (try obtain ⟨h0, h1, h2, h3⟩ := hSx)
        go_simp
        try with_reducible rfl
      rotate_left
      simp only [Act.put, List.setIfInBounds_toArray, List.set_cons_zero, List.set_cons_succ]
      refine take_on (i := 8) (some 46) ?_ rfl rfl (by kernel_rfl) (by kernel_rfl) (by kernel_rfl) (fun _ _ _ h => h) (by rfl) (by assumption) ?_ ?_
      rotate_left 2
      · intro wx hSx
        (try obtain ⟨h0, h1, h2, h3⟩ := hSx)
        go_simp
        try with_reducible rfl
      rotate_left
      simp only [Act.put, List.setIfInBounds_toArray, List.set_cons_zero, List.set_cons_succ]
      refine wpAnyH_ready (rs := [10]) (by kernel_rfl) (by simp) (AllReadyH.cons rfl (fun K hK => ?_) AllReadyH.nil)
      rw [if_pos (by rfl)]
      go_simp
      have n2 := set_three n0 (.int .i64 X0) (.int .i64 X1) (.int .i64 X2)
      have B3 := below_three (n := W.heap.size) B1 (Nat.le_refl _) (.int .i64 X0) (.int .i64 X1) (.int .i64 X2)
      have hDn : W.heap.size ≤ W.heap.size := Nat.le_refl _
      generalize ((w1.setCell ⟨W.heap.size, 0, none⟩ (.int .i64 X0)).setCell ⟨W.heap.size, 1, none⟩ (.int .i64 X1)).setCell ⟨W.heap.size, 2, none⟩ (.int .i64 X2) = W2 at *
      clear hHeld
      refine hK.out _ _ (BK.out _ B3) (fun hHeld => ?_)
      clear hK
      refine take_on (i := 11) (some 14) ?_ rfl rfl (by kernel_rfl) (by kernel_rfl) (by kernel_rfl) (fun _ _ _ h => h) (by rfl) (by assumption) ?_ ?_
      rotate_left 2
      · intro wx hSx
        (try obtain ⟨h0, h1, h2, h3⟩ := hSx)
        go_simp
        try with_reducible rfl
      rotate_left
      simp only [Act.put, List.setIfInBounds_toArray, List.set_cons_zero, List.set_cons_succ]
      refine wpAnyH_done (by kernel_rfl) ?_ _
      cases ok with
      | false =>
        have hnone : delimAt s.data.toList q b mk.data.toList = none := by
          have := HV.out
          cases hd : delimAt s.data.toList q b mk.data.toList with
          | none => rfl
          | some d => rw [hd] at this; simp [dlV] at this
        have hw := HW.out
        rw [hnone] at hw
        have H2 := Lib.hid (HD.out.later B3)
        have c1 := H2.out.place.cell
        have c2 := H2.out.place.frozen
        have FN := Lib.hid (FIN.out W2 L v H2.out (KB.out _ B3).1 (KB.out _ B3).2 (by omega) hw)
        clear hw hnone
        gi_wp2
        exact FN.out
      | true =>
        obtain ⟨d, hd⟩ : ∃ d, delimAt s.data.toList q b mk.data.toList = some d := by
          have := HV.out
          cases hd : delimAt s.data.toList q b mk.data.toList with
          | none => rw [hd] at this; simp [dlV] at this
          | some d => exact ⟨d, rfl⟩
        have hvv := HV.out
        rw [hd] at hvv
        have hw := HW.out
        rw [hd] at hw
        simp only at hw
        simp [dlV] at hvv
        obtain ⟨e0, e1, e2⟩ := hvv
        have H2 := Lib.hid (HD.out.later B3)
        obtain ⟨m0, m1, m2⟩ := three_cells n2
        have hdl := delimAt_le hd
        have RR := Lib.hid H2.out.row
        have hsz2 := B3.size
        have ROW : Hid (∀ (v' : Value) (W3 : World), W3.ownsRow (w.heap.size + 7) 40 3 v' (L.length + 1) (dlCells L ++ [.int .i64 X0, .int .i64 X1, .int .i64 X2]) → W3.ownsRow (w.heap.size + 7) 40 3 v' (L ++ [d]).length (dlCells (L ++ [d]))) := Lib.hid (fun v' W3 h => by
          rw [List.length_append, dlCells_append, ← e0, ← e1, ← e2] at *
          exact h)
        have hDb : W.heap.size < W2.heap.size := (Array.getElem?_eq_some_iff.1 n2).1
        have DA : Hid (∀ (w5 : World) (v' : Value) (tmp : Obj), w5.ownsRow (w.heap.size + 7) 40 3 v' (L.length + 1) (dlCells L ++ [.int .i64 X0, .int .i64 X1, .int .i64 X2]) → (W2.alloc tmp).grownBy w5 v.ownBlock →
            DlAt w s st b (L ++ [d]) q v' (w5.setCell ⟨w.heap.size + 1 + 1, 0, none⟩ v') ∧ KeepsOthers W (w5.setCell ⟨w.heap.size + 1 + 1, 0, none⟩ v') ∧ Keep2 0 (w.heap.size + 1 + 1 + 1 + 1 + 1 + 1) W (w5.setCell ⟨w.heap.size + 1 + 1, 0, none⟩ v') ∧
            (w5.setCell ⟨w.heap.size + 1 + 1, 0, none⟩ v').cell? ⟨W.heap.size, 2, none⟩ = some (.int .i64 X2) ∧ w5.cell? ⟨w.heap.size + 1 + 1, 0, none⟩ = some v ∧ w5.frozen? ⟨w.heap.size + 1 + 1, 0, none⟩ = false) := Lib.hid (fun w5 v' tmp hown' hgrow => by
          have hh := H2.out
          obtain ⟨hv1, hv2, hr2, hk2, hb2', hkeep⟩ := boxApp (n₀ := w.heap.size) hh.list (by decide) hh.row (Nat.le_add_right _ 7) (by omega) (Nat.le_add_right _ 2) hown' hgrow
          have hrl := fun g e => (HD.out.row.lt g e).2
          refine ⟨⟨(hkeep _ (by omega) (by omega) (by omega)).trans hh.raw, (hkeep _ (by omega) (by omega) (by omega)).trans hh.to, hv2, ROW.out _ _ hr2, (hkeep _ (by omega) (by omega) (by omega)).trans hh.start, (hkeep _ (by omega) (by omega) (by omega)).trans hh.place, hh.below.trans hb2', Nat.le_trans hh.size hk2.size⟩,
            (KB.out _ B3).1.trans hk2, ⟨(hb2'.block _ hml).trans (KB.out _ B3).2.1, (hkeep _ (by omega) (by omega) (by omega)).trans (KB.out _ B3).2.2⟩, ?_, hv1.cell, hv1.frozen⟩
          have e1 : w5.heap[W.heap.size]? = W2.heap[W.heap.size]? := (hgrow.block W.heap.size (by simp; omega) (fun e => by have := hrl _ e.symm; omega)).trans (Below.heap_alloc _ _ _ hDb)
          have e2 : (w5.setCell ⟨w.heap.size + 1 + 1, 0, none⟩ v').heap[W.heap.size]? = _ := (Below.heap_setCell _ _ _ _ (by show W.heap.size ≠ w.heap.size + 1 + 1; omega)).trans (e1.trans n2)
          exact (three_cells e2).2.2)
        have q0 : W2.cell? ⟨w.heap.size + 1 + 1, 0, none⟩ = some v := H2.out.list.cell
        clear n2 H2
        by_cases hlast : d.last = 1
        · have g5 : (X2 == 1) = true := by rw [← e2, hlast]; rfl
          rw [if_pos hlast] at hw
          have HWW := Lib.hid hw
          clear hw hlast e0 e1 e2
          gi_wp2_with (gi_at_builtin; refine wpListIn_append_own _ rfl _ _ 38 rfl (w.heap.size + 7) 40 j0' (.agg #[.int .i64 0, .int .i64 0, .int .i64 0]) 3 24 Try.underlying38 hj hy0 hy1 hy2 rfl (by decide) _ _ _ rfl (RR.out.alloc _) ⟨W2.heap.size, 0, none⟩ 1 1 [.int .i64 X0, .int .i64 X1, .int .i64 X2] rfl rfl (cell_three_new _ _ _ _ _ _ rfl) (by simp [Value.oneCell']) (by unfold maxLen; omega) (by omega) (by simp; omega) ?_; intro v' w5 hown' hgrow _; obtain ⟨g', cap', rfl⟩ := ownsRow_succ hown'; obtain ⟨D1', D2', D3', f1, f2, f3⟩ := DA.out _ _ _ hown' hgrow; clear hown' hgrow)
          exact ⟨D2', rfl, _, _, ⟨_, D1'⟩, HWW.out⟩
        · have g5 : (X2 == 1) = false := by rw [← e2, beq_eq_false_iff_ne]; omega
          rw [if_neg hlast] at hw
          have HWW := Lib.hid hw
          clear hw hlast e0 e1 e2
          gi_wp2_with (gi_at_builtin; refine wpListIn_append_own _ rfl _ _ 38 rfl (w.heap.size + 7) 40 j0' (.agg #[.int .i64 0, .int .i64 0, .int .i64 0]) 3 24 Try.underlying38 hj hy0 hy1 hy2 rfl (by decide) _ _ _ rfl (RR.out.alloc _) ⟨W2.heap.size, 0, none⟩ 1 1 [.int .i64 X0, .int .i64 X1, .int .i64 X2] rfl rfl (cell_three_new _ _ _ _ _ _ rfl) (by simp [Value.oneCell']) (by unfold maxLen; omega) (by omega) (by simp; omega) ?_; intro v' w5 hown' hgrow _; obtain ⟨g', cap', rfl⟩ := ownsRow_succ hown'; obtain ⟨D1', D2', D3', f1, f2, f3⟩ := DA.out _ _ _ hown' hgrow; have p1 := D1'.place.cell; have p2 := D1'.place.frozen; clear hown' hgrow)
          exact FIN.out _ _ _ D1' D2' D3' (by simp; omega) (by rw [HWW.out]; simp)
  case done =>
    rintro D ys W hD rfl ⟨L, v, h, hle, hr⟩ hK
    have hc := h.list.cell
    have hL := hr [] (by simp)
    rw [show walkD s.data.toList mk.data.toList b [] (a + offP ys) = [] from rfl, List.append_nil] at hL
    gi_wp2
    refine ⟨by simp, .inl ⟨_, _, rfl, run_takeDeferred hK, ?_⟩⟩
    have hk := h.kept (grownBy_putObj' W D (.deferred none)) (fun r e => by injection e with e; subst e; exact ⟨by omega, _, hK, rfl⟩)
    have hrow := hk.row
    rw [← hL] at hrow
    exact ⟨_, results_tmp rfl _ _ _, v, rfl, rowLe hrow (Nat.le_add_right _ 7), hk.below⟩
  case stop =>
    rintro D c pre W hD hpre ⟨rfl, L, v, ⟨p, h⟩, hL⟩ hK
    have hc := h.list.cell
    gi_wp2
    refine ⟨by simp, .inl ⟨_, _, rfl, run_takeDeferred hK, ?_⟩⟩
    have hk := h.kept (grownBy_putObj' W D (.deferred none)) (fun r e => by injection e with e; subst e; exact ⟨by omega, _, hK, rfl⟩)
    have hrow := hk.row
    rw [← hL] at hrow
    exact ⟨_, results_tmp rfl _ _ _, v, rfl, rowLe hrow (Nat.le_add_right _ 7), hk.below⟩
end Go.Proofs.Ytjleadlecdcdeaa
