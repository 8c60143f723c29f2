/-
  The first field of a name: impl's firstBodies and BodyOf.
-/
import Derived.Test.YtfgfbdfijpecfaaBackI
import Derived.StringKeys
namespace Go.Proofs.Ytfgfbdfijpecfaa
set_option linter.unusedVariables false
open Go.RowKit Go.Shelf Go.Maps
attribute [local go_sem] Oper.semAt_some

theorem run_makeHint (n : Int) (w : World) : (Instr.makeMap 50 (some (.int .i64 n))).run Try.prog w = .ok (.map (some w.heap.size)) (w.alloc (.map #[] 0)) := by
  simp [Instr.makeMap, run_underlying Try.underlying50, asInt, asIntOf, Result.andThen]

/-- A field that is not too long. -/
abbrev Sm : Type := {x : Fl × Nat // x.1.name.length ≤ 8388608 ∧ x.1.body.length ≤ 8388608}
/-- The map behind the fields of pre. -/
def mapOf (pre : List Sm) : DataW Unit := pre.foldl (fun D x => D.put (.string (upS x.1.1.name)) (.lit (.string x.1.1.body))) (.map [])
theorem mapOf_snoc (pre : List Sm) (x : Sm) : mapOf (pre ++ [x]) = (mapOf pre).put (.string (upS x.1.1.name)) (.lit (.string x.1.1.body)) := by simp [mapOf]

/-- Between two rounds. -/
structure BodAt (w : World) (pre : List Sm) (W : World) : Prop where
  box : Boxed W (w.heap.size + 1) 50 (.map (some w.heap.size))
  own : W.ownsMap Try.prog 9 (plainElem Try.prog 9) w.heap.size pre.length (mapOf pre)
  below : Below w.heap.size w W
  size : w.heap.size + 3 ≤ W.heap.size
theorem own_below {H : Type} {P : Program} {k : TypeId} {R : Value → Option (DataW H × List MemPlace)} {b n : Nat} {D : DataW H} {W w1 : World} (h : W.ownsMap P k R b n D) (hb : Below W.heap.size W w1) : w1.ownsMap P k R b n D :=
  h.kept (row := none) ⟨hb.os, hb.tape, hb.output, hb.size, fun k hk _ => hb.block k hk⟩ (by simp)
theorem cells_of_two {W : World} {n : Nat} {T : TypeId} {a b : Value} {fr : Nat × Nat} (h : W.heap[n]? = some (.cells #[a, b] T fr)) : W.cell? ⟨n, 0, none⟩ = some a ∧ W.cell? ⟨n, 1, none⟩ = some b := by
  constructor <;> simp [World.cell?, h]

set_option maxRecDepth 100000 in
set_option maxHeartbeats 1000000 in
theorem bodies_in (p : Option Addr) (cap : Nat) (l : List Fl) (full : List Sm) (hl : l.length ≤ 1048576) (hfull : full.map (·.1) = backL l l.length) (w : World) (hv : FlsAt w (.slice p l.length cap) l) :
    CallsIn Fence.wide 4 Try.prog 34 #[.slice p l.length cap] w fun e w' => e = .returned (.map (some w.heap.size)) ∧ w'.ownsMap Try.prog 9 (plainElem Try.prog 9) w.heap.size full.length (mapOf full) ∧ Below w.heap.size w w' := by
  have HV := Lib.hid hv
  have hmk := run_makeHint
  clear hv
  refine callsIn_of_wp_marks Try.func34 rfl trivial ?_ rfl
  simp only [Try.ntmps34, List.size_toArray, List.length_cons, List.length_nil, Nat.reduceAdd, Nat.reduceSub, Array.replicate_succ, Array.replicate_zero, List.push_toArray, List.append_toArray, List.nil_append, List.cons_append]
  gi_wp2_with (refine ⟨trivial, ?_⟩; gi_at_call 46; refine (backward_in _ _ _ _ _).mono ?_; rintro e w' ⟨rfl, rfl⟩)
  have hB0 : Below w.heap.size w (((w.alloc (.map #[] 0)).alloc (.cells #[.map (some w.heap.size)] 50)).alloc (.cells #[.slice p l.length cap] 26)) :=
    (((Below.refl _ w).alloc (Nat.le_refl _) _).alloc (by simp) _).alloc (by simp; omega) _
  have hb1 : Boxed (((w.alloc (.map #[] 0)).alloc (.cells #[.map (some w.heap.size)] 50)).alloc (.cells #[.slice p l.length cap] 26)) (w.heap.size + 1) 50 (.map (some w.heap.size)) := by
    have := (Boxed.new (w.alloc (.map #[] 0)) 50 (.map (some w.heap.size))).alloc (.cells #[.slice p l.length cap] 26)
    rwa [World.size_alloc] at this
  have hb2 : Boxed (((w.alloc (.map #[] 0)).alloc (.cells #[.map (some w.heap.size)] 50)).alloc (.cells #[.slice p l.length cap] 26)) (w.heap.size + 2) 26 (.slice p l.length cap) := by
    have := Boxed.new ((w.alloc (.map #[] 0)).alloc (.cells #[.map (some w.heap.size)] 50)) 26 (.slice p l.length cap)
    rwa [World.size_alloc, World.size_alloc] at this
  have hm0 : World.ownsMap (((w.alloc (.map #[] 0)).alloc (.cells #[.map (some w.heap.size)] 50)).alloc (.cells #[.slice p l.length cap] 26)) Try.prog 9 (plainElem (H := Unit) Try.prog 9) w.heap.size 0 (.map []) :=
    ((World.ownsMap_made w Try.prog 9 (plainElem Try.prog 9)).alloc _).alloc _
  have hsz : (((w.alloc (.map #[] 0)).alloc (.cells #[.map (some w.heap.size)] 50)).alloc (.cells #[.slice p l.length cap] 26)).heap.size = w.heap.size + 3 := by simp
  change Code.wpIn _ _ _ _ _ _ (((w.alloc (.map #[] 0)).alloc (.cells #[.map (some w.heap.size)] 50)).alloc (.cells #[.slice p l.length cap] 26))
  generalize (((w.alloc (.map #[] 0)).alloc (.cells #[.map (some w.heap.size)] 50)).alloc (.cells #[.slice p l.length cap] 26)) = W0 at *
  refine wpIn_rangeFunc_ownH rfl (by decide) (gf := 55) (lb := #[.pointer (some ⟨w.heap.size + 1 + 1, 0, none⟩)]) rfl trivial (enters_of Try.func55 (by kernel_rfl) rfl)
    (back_stops (fun x : Sm => x.1) full 3 (by decide) (w.heap.size + 1 + 1) p cap l hl hfull w HV.out W0 (by omega) hB0 hb2.cell) KB.trans (KB.putObj (by omega) (by omega)) (Below.refl _ _) (fun _ => rfl)
    (BodAt w) (fun _ _ _ => False) ?own (fun _ _ _ _ _ hs _ _ => hs) ⟨hb1, hm0, hB0, by omega⟩
    (fun x a' W => ∃ b, W0.heap.size ≤ b ∧ W.heap[b]? = some (.cells #[.string (mkB x.1.1.name), .string (mkB x.1.1.body)] 35 (0, 0)) ∧
      a' = { tmps := #[.slice p l.length cap, undef, .map none, .pointer (some ⟨w.heap.size + 1, 0, none⟩), undef, .pointer (some ⟨b, 0, none⟩), .slice p l.length cap, .int .i64 l.length, .map (some w.heap.size), .slice p l.length cap, .func (.func 55) #[] #[.pointer (some ⟨w.heap.size + 1 + 1, 0, none⟩)], .int .i64 (x.1.2 : Int), .agg #[.string (mkB x.1.1.name), .string (mkB x.1.1.body)], undef, undef, undef, undef, undef, undef, undef], defers := [] }) ?ax ?assign ?body ?done ?stop
  case own =>
    intro pre A B row h hg hr
    have hrow : ∀ k, row = some k → w.heap.size + 3 ≤ k := fun k e => by have := (hr k e).1; omega
    exact ⟨h.box.kept hg (fun e => by have := hrow _ e.symm; omega), h.own.kept hg (fun e => by have := hrow _ e.symm; omega), h.below.grown hg h.below.size (fun k e => by have := hrow _ e; omega), Nat.le_trans h.size hg.size⟩
  case ax =>
    intro x a' _ A B row h hg hr
    obtain ⟨b, h1, h2, h3⟩ := h
    refine ⟨b, h1, (hg.block b (Array.getElem?_eq_some_iff.1 h2).1 (fun e => ?_)).trans h2, h3⟩
    obtain ⟨o, ho, hc⟩ := (hr b e.symm).2
    rw [h2] at ho
    cases ho
    cases hc
  case assign =>
    intro lp pre x W K hI hK
    dsimp only [encF]
    gi_wp2
    refine hK _ _ ?_ ?_ ?_ ?_
    · exact KeepsFrom.of_grownBy (World.grownBy_alloc W _ none) (by simp)
    · exact ⟨(Below.refl _ W).alloc hI.below.size _, Below.heap_alloc _ _ _ (by have := hI.size; omega)⟩
    · exact ⟨hI.box.alloc _, hI.own.alloc _, hI.below.alloc hI.below.size _, by have := hI.size; simp; omega⟩
    · exact ⟨W.heap.size, by have := hI.size; omega, World.alloc_heap_new W _, rfl⟩
  case body =>
    rintro lp pre x a' W hlp _ hI ⟨b, hb, hcell, rfl⟩ hlen
    have hmx : Try.prog.follows .mixedOrders = true := by kernel_rfl
    have hx1 := x.2.1
    have hx2 := x.2.2
    have HM : Hid (∀ W1, Below W.heap.size W W1 → ∃ w2, (Instr.mapUpdate 50 (.map (some w.heap.size)) (.string (mkB (upS x.1.1.name))) (.string (mkB x.1.1.body))).run Try.prog W1 = .ok () w2 ∧
        w2.ownsMap Try.prog 9 (plainElem Try.prog 9) w.heap.size (pre.length + 1) (mapOf (pre ++ [x])) ∧ W1.grownBy w2 (some w.heap.size)) := Lib.hid (fun W1 h1 => by
      rw [mapOf_snoc]
      exact (own_below hI.own h1).update (string_keyed Try.underlying9) Try.underlying50 (by unfold maxLen; omega) (Go.WideMaps.keyOf_string_mk Try.underlying9 (by rw [mkB_size]; unfold upS maxLen; rw [List.length_map]; omega)) (plainElem_string Try.underlying9 (by rw [mkB_size]; unfold maxLen; omega)))
    have UP := Lib.hid (fun W => implUpper_any (mkB x.1.1.name) W (by rw [mkB_size]; unfold maxLen; omega))
    rw [mkB_list] at UP
    change Hid (∀ W, Calls Try.prog _ _ W fun e w' => e = .returned (.string (mkB (upS x.1.1.name))) ∧ _) at UP
    have HC := Lib.hid hcell
    obtain ⟨c1, c2⟩ := cells_of_two hcell
    have c0 := hI.box.cell
    have HI := Lib.hid hI
    have FIN : Hid (∀ w1 w2, Below W.heap.size W w1 → w2.ownsMap Try.prog 9 (plainElem Try.prog 9) w.heap.size (pre.length + 1) (mapOf (pre ++ [x])) → w1.grownBy w2 (some w.heap.size) →
        KeepsFrom W0.heap.size W w2 ∧ KB w.heap.size (w.heap.size + 1 + 1) W w2 ∧ BodAt w (pre ++ [x]) w2) := Lib.hid (fun w1 w2 h1 h2 h3 => by
      have hgW : W.grownBy w1 none := ⟨h1.os, h1.tape, h1.output, h1.size, fun k hk _ => h1.block k hk⟩
      have hz := hI.size
      have hz1 := h1.size
      have hBN : Below w.heap.size w1 w2 := (Below.refl _ w1).grown h3 (by omega) (fun k e => by cases e; exact Nat.le_refl _)
      refine ⟨(KeepsFrom.of_grownBy hgW (by simp)).trans (KeepsFrom.of_grownBy h3 (fun j e => by cases e; omega)), ⟨(h1.mono hI.below.size).trans hBN, (h3.block _ (by omega) (fun e => by have := Option.some.inj e; omega)).trans (h1.block _ (by omega))⟩, ?_⟩
      exact ⟨(hI.box.kept hgW (by simp)).kept h3 (fun e => by have := Option.some.inj e; omega), by rw [List.length_append, List.length_singleton]; exact h2, (hI.below.trans (h1.mono hI.below.size)).trans hBN, by have := h3.size; omega⟩)
    generalize mkB (upS x.1.1.name) = KN at HM UP
    generalize mkB x.1.1.name = nm at UP HC c1 ⊢
    generalize mkB x.1.1.body = bd at HM HC c2 ⊢
    clear hI hcell hx1 hx2
    gi_wp2
    have hl1 : w.heap.size + 1 < W.heap.size := by have := HI.out.size; omega
    have hl2 : b < W.heap.size := (Array.getElem?_eq_some_iff.1 HC.out).1
    gi_region_with_o (refine ⟨trivial, ?_⟩; gi_at_call 35; refine (CallsIn.inRound lp (callsIn_wide.2 (UP.out _))).mono ?_; rintro e w1 ⟨rfl, hB1⟩; have hB2 : Below W.heap.size W w1 := ((Below.refl _ W).drew).trans hB1; have d0 := (hB2.cell (p := ⟨w.heap.size + 1, 0, none⟩) hl1).trans c0; have d2 := (hB2.cell (p := ⟨b, 1, none⟩) hl2).trans c2; obtain ⟨w2, hrun, hown2, hg2⟩ := HM.out w1 hB2)
    all_goals gi_wp2
    all_goals exact FIN.out _ _ hB2 hown2 hg2
  case done =>
    rintro D ys W hD rfl hI hK
    have hc := hI.box.cell
    gi_wp2
    refine ⟨by simp, .inl ⟨_, _, rfl, run_takeDeferred hK, ?_⟩⟩
    exact ⟨_, results_tmp rfl _ _ _, rfl, hI.own.kept (grownBy_putObj' W D _) (fun e => by cases e; omega), hI.below.trans (belowK_b (w := w) (Nat.le_refl _) W D _ _ (by omega) hK rfl rfl)⟩
  case stop =>
    rintro D c pre W _ _ h _
    exact h.elim
end Go.Proofs.Ytfgfbdfijpecfaa
