/-
  The walk of impl.CountLines.
-/
import Derived.Test.YtfgfbdfijpecfaaLinesA
namespace Go.Proofs.Ytfgfbdfijpecfaa
set_option linter.unusedVariables false
open Go.RowKit Go.Shelf
attribute [local go_sem] Oper.semAt_some

def lastOf (ps : List ByteArray) : ByteArray := ps.getLast?.getD ⟨#[]⟩

def lineN (full : List ByteArray) : Int := if (lastOf full).data.toList = [] then (full.length : Int) - 1 else full.length
theorem lastOf_snoc (ps : List ByteArray) (x : ByteArray) : lastOf (ps ++ [x]) = x := by simp [lastOf]
theorem boxedAs_own {β : Type} (B : Nat) (t : TypeId) (f : β → Value) : Own (fun s W => Boxed W B t (f s)) := fun s A C row hs hg hr =>
  Boxed.kept hs hg (fun e => by
    obtain ⟨o, ho, hc⟩ := hr B e.symm
    have h : A.heap[B]? = some (.cells #[f s] t (0, 0)) := hs
    rw [h] at ho
    cases ho
    cases hc)

set_option maxRecDepth 100000 in
set_option maxHeartbeats 1000000 in
theorem implLines_in (s : ByteArray) (full : List ByteArray) (hps : Pcs crlf s full) (hs : s.size < 4294967281) (hfull : full.length ≤ 4294967281) (w : World) (hML : MaxLenAt w) :
    CallsIn Fence.wide 4 Try.prog 25 #[.string s] w fun e w' =>
      e = .returned (.int .i64 (lineN full)) ∧ Below w.heap.size w w' := by
  have HML := Lib.hid hML
  clear hML
  refine callsIn_of_wp_marks Try.func25 rfl trivial ?_ rfl
  simp only [Try.ntmps25, List.size_toArray, List.length_cons, List.length_nil, Nat.reduceAdd, Nat.reduceSub, Array.replicate_succ, Array.replicate_zero, List.push_toArray, List.append_toArray, List.nil_append, List.cons_append]
  gi_wp2_with (refine ⟨trivial, ?_⟩; gi_at_call 41; refine (pieces_in _ _ _ _).mono ?_; rintro e w' ⟨rfl, rfl⟩)
  have HR : ∀ (o : Obj), o.isCells = false → ∀ cs T fr, o ≠ .cells cs T fr := fun o ho cs T fr e => by subst e; cases ho
  have hlt := HML.out.lt
  have hb0 := ((Boxed.new w 3 (.int .i64 0)).alloc (.cells #[.string ⟨#[]⟩] 9)).alloc (.cells #[.string s] 9) |>.alloc (.cells #[.string ⟨#[13, 10]⟩] 9)
  have hb1 := ((Boxed.new (w.alloc (.cells #[.int .i64 0] 3)) 9 (.string ⟨#[]⟩)).alloc (.cells #[.string s] 9)).alloc (.cells #[.string ⟨#[13, 10]⟩] 9)
  have hb2 := (Boxed.new ((w.alloc (.cells #[.int .i64 0] 3)).alloc (.cells #[.string ⟨#[]⟩] 9)) 9 (.string s)).alloc (.cells #[.string ⟨#[13, 10]⟩] 9)
  have hb3 := Boxed.new (((w.alloc (.cells #[.int .i64 0] 3)).alloc (.cells #[.string ⟨#[]⟩] 9)).alloc (.cells #[.string s] 9)) 9 (.string ⟨#[13, 10]⟩)
  have hB0 : Below w.heap.size w ((((w.alloc (.cells #[.int .i64 0] 3)).alloc (.cells #[.string ⟨#[]⟩] 9)).alloc (.cells #[.string s] 9)).alloc (.cells #[.string ⟨#[13, 10]⟩] 9)) :=
    ((((Below.refl _ w).alloc (Nat.le_refl _) _).alloc (by simp) _).alloc (by simp; omega) _).alloc (by simp; omega) _
  simp only [World.size_alloc] at hb1 hb2 hb3
  have hsz : ((((w.alloc (.cells #[.int .i64 0] 3)).alloc (.cells #[.string ⟨#[]⟩] 9)).alloc (.cells #[.string s] 9)).alloc (.cells #[.string ⟨#[13, 10]⟩] 9)).heap.size = w.heap.size + 4 := by simp
  generalize ((((w.alloc (.cells #[.int .i64 0] 3)).alloc (.cells #[.string ⟨#[]⟩] 9)).alloc (.cells #[.string s] 9)).alloc (.cells #[.string ⟨#[13, 10]⟩] 9)) = W0 at *
  refine wpIn_rangeFunc_ownF rfl (by decide) (gf := 50) (lb := #[.pointer (some ⟨w.heap.size + 1 + 1, 0, none⟩), .pointer (some ⟨w.heap.size + 1 + 1 + 1, 0, none⟩)]) rfl trivial (enters_of Try.func50 (by kernel_rfl) rfl)
    (pieces_stops 3 (by decide) (w.heap.size + 1 + 1) (w.heap.size + 1 + 1 + 1) crlf s full hps hs (by decide) W0 (by omega) (by omega) (HML.out.after hB0) hb2.cell hb3.cell) Keep2.trans (Keep2.putObj (by omega) (by omega)) (Below.refl _ _) (fun _ => rfl)
    (fun pre W => Boxed W w.heap.size 3 (.int .i64 pre.length) ∧ Boxed W (w.heap.size + 1) 9 (.string (lastOf pre)) ∧ Below w.heap.size w W)
    (fun _ _ _ => False)
    (OwnFrom.and (Own.from (boxedAs_own _ _ _) _) (OwnFrom.and (Own.from (boxedAs_own _ _ _) _) (ownFrom_below (Nat.le_refl _) (by omega))))
    (fun _ _ _ _ _ hs _ _ => hs)
    ⟨hb0, hb1, hB0⟩
    (fun x => { tmps := #[.string s, undef, .int .i64 0, .pointer (some ⟨w.heap.size, 0, none⟩), .pointer (some ⟨w.heap.size + 1, 0, none⟩), .string x, .string s, .func (.func 50) #[] #[.pointer (some ⟨w.heap.size + 1 + 1, 0, none⟩), .pointer (some ⟨w.heap.size + 1 + 1 + 1, 0, none⟩)], .string x, undef, undef, undef, undef, undef, undef, undef, undef], defers := [] }) ?assign ?body ?done ?stop
  case assign =>
    intro l x W K hK
    gi_wp2
    exact hK
  case body =>
    rintro l pre x W ⟨hv0, hv1, hB⟩ hlt
    have hc0 := hv0.cell
    have hc1 := hv1.cell
    have hf0 := hv0.frozen
    have hf1 := hv1.frozen
    gi_wp2
    refine ⟨(KeepsOthers.setCell _ _ _).trans (KeepsOthers.setCell _ _ _), ⟨?_, ?_⟩, ?_, ?_, (hB.setCell (p := ⟨w.heap.size, 0, none⟩) (Nat.le_refl _) _).setCell (p := ⟨w.heap.size + 1, 0, none⟩) (Nat.le_succ _) _⟩
    · exact (Below.heap_setCell _ _ _ _ (by show _ ≠ w.heap.size + 1; have := HML.out.lt; omega)).trans (Below.heap_setCell _ _ _ _ (by show _ ≠ w.heap.size; have := HML.out.lt; omega))
    · exact (Below.heap_setCell _ _ _ _ (by show _ ≠ w.heap.size + 1; omega)).trans (Below.heap_setCell _ _ _ _ (by show _ ≠ w.heap.size; omega))
    · have h := (hv0.set (.int .i64 ((pre.length : Int) + 1))).other (B' := w.heap.size + 1) (by omega) (.string x)
      rw [List.length_append, List.length_singleton]
      exact h
    · rw [lastOf_snoc]
      exact (hv1.other (B' := w.heap.size) (by omega) _).set _
  case done =>
    rintro D ys W hD rfl ⟨hv0, hv1, hB⟩ hK
    have hc0 := hv0.cell
    have hc1 := hv1.cell
    have hf0 := hv0.frozen
    have hpos := hps.pos
    by_cases hem : (lastOf ys).data.toList = []
    · have he1 : (lastOf ys).toList.isEmpty = true := by rw [Lib.toList_data, hem]; rfl
      have HV : Hid (lineN ys = (ys.length : Int) - 1) := Lib.hid (by unfold lineN; rw [if_pos hem])
      clear hem
      gi_wp2
      refine ⟨by simp, .inl ⟨_, _, rfl, run_takeDeferred (by rw [Below.heap_setCell _ _ _ _ (by show D ≠ w.heap.size; omega)]; exact hK), ?_⟩⟩
      exact ⟨_, results_tmp rfl _ _ _, by rw [HV.out]; rfl, (hB.setCell (p := ⟨w.heap.size, 0, none⟩) (Nat.le_refl _) _).trans (belowK_b (w := w) (Nat.le_refl _) _ D _ _ (by omega) (by rw [Below.heap_setCell _ _ _ _ (by show D ≠ w.heap.size; omega)]; exact hK) rfl rfl)⟩
    · have he1 : (lastOf ys).toList.isEmpty = false := by rw [Lib.toList_data, List.isEmpty_eq_false_iff]; exact hem
      have HV : Hid (lineN ys = (ys.length : Int)) := Lib.hid (by unfold lineN; rw [if_neg hem])
      clear hem
      gi_wp2
      refine ⟨by simp, .inl ⟨_, _, rfl, run_takeDeferred hK, ?_⟩⟩
      exact ⟨_, results_tmp rfl _ _ _, by rw [HV.out]; rfl, hB.trans (belowK_b (w := w) (Nat.le_refl _) W D _ _ (by omega) hK rfl rfl)⟩
  case stop =>
    rintro D c pre W _ _ h _
    exact h.elim
end Go.Proofs.Ytfgfbdfijpecfaa
