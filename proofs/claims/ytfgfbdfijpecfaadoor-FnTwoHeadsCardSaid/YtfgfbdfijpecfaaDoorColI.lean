/-
  slices.AppendSeq and slices.Collect over the iterator of impl.pieces.
-/
import Derived.Test.YtfgfbdfijpecfaaDoorPieces
import Derived.Test.YtfgfbdfijpecfaaDoorBoxed
namespace Go.Proofs.YtfgfbdfijpecfaaDoor
set_option linter.unusedVariables false
open Go.RowKit Go.Shelf
attribute [local go_sem] Oper.semAt_some

set_option maxRecDepth 100000 in
set_option maxHeartbeats 1000000 in
theorem appendSeq_in (Bs Bm : Nat) (m s : ByteArray) (full : List ByteArray) (hps : Pcs m s full) (hs : s.size < 4294967281) (hm1 : 1 ≤ m.size) (hfull : full.length ≤ 4294967281) (w : World)
    (hBs : Bs < w.heap.size) (hBm : Bm < w.heap.size) (hML : MaxLenAt w) (hcs : w.cell? ⟨Bs, 0, none⟩ = some (.string s)) (hcm : w.cell? ⟨Bm, 0, none⟩ = some (.string m)) :
    CallsIn Fence.wide 4 Tryd.prog 35 #[.slice none 0 0, .func (.func 36) #[] #[.pointer (some ⟨Bs, 0, none⟩), .pointer (some ⟨Bm, 0, none⟩)]] w (GivesStrs full w) := by
  have HML := Lib.hid hML
  have HCS := Lib.hid hcs
  have HCM := Lib.hid hcm
  clear hML hcs hcm
  obtain ⟨i0, hi, hz0, hz1, hz2⟩ := info_parts infoStr
  refine callsIn_of_wp_marks Tryd.func35 rfl trivial ?_ rfl
  simp only [Tryd.ntmps35, List.size_toArray, List.length_cons, List.length_nil, Nat.reduceAdd, Nat.reduceSub, Array.replicate_succ, Array.replicate_zero, List.push_toArray, List.append_toArray, List.nil_append, List.cons_append]
  gi_wp2
  have hlt := HML.out.lt
  have hb0 := Boxed.new w 41 (.slice none 0 0)
  have hB0 : Below w.heap.size w (w.alloc (.cells #[.slice none 0 0] 41)) := (Below.refl _ w).alloc (Nat.le_refl _) _
  have hsz : (w.alloc (.cells #[.slice none 0 0] 41)).heap.size = w.heap.size + 1 := by simp
  change Code.wpIn _ _ _ _ _ _ (w.alloc (.cells #[.slice none 0 0] 41))
  generalize (w.alloc (.cells #[.slice none 0 0] 41)) = W0 at *
  refine wpIn_rangeFunc_ownF rfl (by decide) (gf := 36) (lb := #[.pointer (some ⟨Bs, 0, none⟩), .pointer (some ⟨Bm, 0, none⟩)]) rfl trivial (enters_of Tryd.func36 (by kernel_rfl) rfl)
    (pieces_stops 3 (by decide) Bs Bm m s full hps hs hm1 W0 (by omega) (by omega) (HML.out.after hB0) ((hB0.cell (p := ⟨Bs, 0, none⟩) hBs).trans HCS.out) ((hB0.cell (p := ⟨Bm, 0, none⟩) hBm).trans HCM.out)) Keep2.trans (Keep2.putObj (by omega) (by omega)) (Below.refl _ _) (fun _ => rfl)
    (fun pre W => (∃ v, Boxed W w.heap.size 41 v ∧ W.ownsRow (w.heap.size + 1) 9 1 v pre.length (pre.map Value.string) ∧ True) ∧ Below w.heap.size w W ∧ Below 0 W0 W)
    (fun _ _ _ => False)
    (OwnFrom.and (Own.from (holdsRow_own (w.heap.size + 1) w.heap.size 41 9 1 (fun pre : List ByteArray => pre.length) (fun pre => pre.map Value.string) (fun _ _ => True)) _) (OwnFrom.and (ownFrom_below (Nat.le_refl _) (by omega)) (ownFrom_below (Nat.zero_le _) (Nat.zero_le _))))
    (fun _ _ _ _ _ hs _ _ => hs)
    ⟨⟨_, hb0, World.ownsRow_nil _ _ _ _, trivial⟩, hB0, Below.refl _ _⟩
    (fun x => { tmps := #[.slice none 0 0, .func (.func 36) #[] #[.pointer (some ⟨Bs, 0, none⟩), .pointer (some ⟨Bm, 0, none⟩)], .pointer (some ⟨w.heap.size, 0, none⟩), undef, .slice none 0 0, .string x, .func (.func 36) #[] #[.pointer (some ⟨Bs, 0, none⟩), .pointer (some ⟨Bm, 0, none⟩)], .string x, undef, undef, undef, undef, undef], defers := [] }) ?assign ?body ?done ?stop
  case assign =>
    intro l x W K hK
    gi_wp2
    exact hK
  case body =>
    rintro l pre x W ⟨⟨v, hv, hrow, _⟩, hB, hB'⟩ hpl
    have hc := hv.cell
    have hsW := hB'.size
    gi_wp2_with (gi_at_builtin; refine wpListIn_append_own _ rfl _ _ 41 rfl (w.heap.size + 1) 9 i0 (.string ⟨#[]⟩) 1 16 Tryd.underlying41 hi hz0 hz1 hz2 rfl (by decide) _ _ _ rfl (hrow.alloc _) ⟨W.heap.size, 0, none⟩ 1 1 [.string x] rfl rfl (cell_one_new _ _ _) (by simp [Value.oneCell']) (by unfold maxLen; omega) (by omega) (by simp; omega) ?_; intro v' w1 hown' hgrow _; obtain ⟨g', cap', rfl⟩ := ownsRow_succ hown'; obtain ⟨hv1, hv2, hr2, hk2, hb2', hkeep⟩ := boxApp hv (by decide) hrow (by omega) hB.size (Nat.le_refl _) hown' hgrow; have hc1 := hv1.cell; have hf1 := hv1.frozen)
    refine ⟨hk2, ⟨hb2'.block _ hlt, hkeep _ (by omega) (by omega) (by omega)⟩, ⟨_, hv2, by simpa using hr2, trivial⟩, hB.trans hb2', hB'.trans (hb2'.mono (Nat.zero_le _))⟩
  case done =>
    rintro D ys W hD rfl ⟨⟨v, hv, hrow, _⟩, hB, hB'⟩ hK
    have hc := hv.cell
    gi_wp2
    refine ⟨by simp, .inl ⟨_, _, rfl, run_takeDeferred hK, ?_⟩⟩
    exact ⟨_, results_tmp rfl _ _ _, v, rfl, rowLe (ownsRow_putObj hrow _ hK rfl) (by omega), hB.trans (belowK_b (w := w) (Nat.le_refl _) W D _ _ (by omega) hK rfl rfl)⟩
  case stop =>
    rintro D c pre W _ _ h _
    exact h.elim

set_option maxHeartbeats 1000000 in
theorem collect_in (Bs Bm : Nat) (m s : ByteArray) (full : List ByteArray) (hps : Pcs m s full) (hs : s.size < 4294967281) (hm1 : 1 ≤ m.size) (hfull : full.length ≤ 4294967281) (w : World)
    (hBs : Bs < w.heap.size) (hBm : Bm < w.heap.size) (hML : MaxLenAt w) (hcs : w.cell? ⟨Bs, 0, none⟩ = some (.string s)) (hcm : w.cell? ⟨Bm, 0, none⟩ = some (.string m)) :
    Calls Tryd.prog 21 #[.func (.func 36) #[] #[.pointer (some ⟨Bs, 0, none⟩), .pointer (some ⟨Bm, 0, none⟩)]] w (GivesStrs full w) := by
  have HA := Lib.hid (callsIn_wide.1 (appendSeq_in Bs Bm m s full hps hs hm1 hfull w hBs hBm hML hcs hcm))
  clear hML hcs hcm hps hBs hBm
  go_enter Tryd.func21, Tryd.ntmps21
  go_wp2_with (go_at_call 35; refine HA.out.mono ?_; rintro e w1 ⟨v, rfl, hrow, hB⟩)
  go_ret
  exact ⟨v, rfl, hrow, hB⟩

/-- slices.Collect(pieces(s, mark)). -/
theorem piecesOf_any (s m : ByteArray) (w : World) :
    Calls Tryd.prog 22 #[.string s, .string m] w fun e w' =>
      e = .returned (.func (.func 36) #[] #[.pointer (some ⟨w.heap.size, 0, none⟩), .pointer (some ⟨w.heap.size + 1, 0, none⟩)]) ∧
      w' = (w.alloc (.cells #[.string s] 9)).alloc (.cells #[.string m] 9) := callsIn_wide.1 (pieces_in 0 s m w)
end Go.Proofs.YtfgfbdfijpecfaaDoor
