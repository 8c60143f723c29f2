/-
  The walk of impl.Split.
-/
import Derived.Test.YtmaoieceonlkoaaDoorSplitB
import Derived.Test.YtmaoieceonlkoaaDoorBuf
import Derived.Maps.OwnIn
namespace Go.Proofs.YtmaoieceonlkoaaDoor
set_option linter.unusedVariables false
open Go.RowKit Go.Shelf
attribute [local go_sem] Oper.semAt_some

theorem rowLe {w : World} {base base' : Nat} {e : TypeId} {size : Nat} {v : Value} {n : Nat} {xs : List Value} (h : w.ownsRow base e size v n xs) (hb : base' ≤ base) : w.ownsRow base' e size v n xs := by
  obtain ⟨h1, h2⟩ := h
  refine ⟨h1, h2.imp id ?_⟩
  rintro ⟨g, cap, cur, e1, e2, e3⟩
  exact ⟨g, cap, cur, e1, Nat.le_trans hb e2, e3⟩

/-- A row that lies behind every box: what an append to it, and the store of the new slice into its box, leave. -/
theorem boxApp {W w1 : World} {n₀ n₁ B : Nat} {t e : TypeId} {size : Nat} {v v' : Value} {k m : Nat} {xs ys : List Value} {tmp : Obj}
    (hv : Boxed W B t v) (hte : t ≠ e) (hrow : W.ownsRow n₁ e size v k xs) (h01 : n₀ ≤ n₁) (h0 : n₀ ≤ W.heap.size) (hB : n₀ ≤ B)
    (hown' : w1.ownsRow n₁ e size v' m ys) (hgrow : (W.alloc tmp).grownBy w1 v.ownBlock) :
    Boxed w1 B t v ∧ Boxed (w1.setCell ⟨B, 0, none⟩ v') B t v' ∧ (w1.setCell ⟨B, 0, none⟩ v').ownsRow n₁ e size v' m ys ∧ KeepsOthers W (w1.setCell ⟨B, 0, none⟩ v') ∧ Below n₀ W (w1.setCell ⟨B, 0, none⟩ v') ∧
      ∀ j, j < W.heap.size → j < n₁ → j ≠ B → (w1.setCell ⟨B, 0, none⟩ v').heap[j]? = W.heap[j]? := by
  obtain ⟨h1, h2, h3, h4, h5⟩ := hv.appended hte (rowLe hrow h01) h0 hB (rowLe hown' h01) hgrow
  refine ⟨h1, h2, hown'.kept (grownBy_setCell' w1 B v') (.inr (h1.not_row hte hown').symm), h4, h5, fun j hj hj1 hjB => ?_⟩
  rw [Below.heap_setCell _ _ _ _ hjB, hgrow.block j (by simp; omega) (fun e' => by have := (hrow.lt j e'.symm).1; omega)]
  exact Below.heap_alloc _ _ _ hj

set_option maxRecDepth 100000 in
set_option maxHeartbeats 1000000 in
theorem implSplit_in (s : ByteArray) (b : UInt8) (full : List ByteArray) (hps : Pcs (one b) s full) (hs : s.size < 4294967281) (hfull : full.length ≤ 4294967281) (w : World) (hML : MaxLenAt w) :
    CallsIn Fence.wide 4 Tryd.prog 16 #[.string s, .int .u8 b.toNat] w (GivesStrs full w) := by
  have HML := Lib.hid hML
  clear hML
  obtain ⟨i0, hi, hz0, hz1, hz2⟩ := info_parts infoStr
  have hbuf : Buf ((w.alloc (.cells #[.slice none 0 0] 30)).alloc (.cells #[.int .u8 b.toNat] 5)) (w.heap.size + 1) 5 [b] :=
    ⟨_, 0, 0, heap_alloc2_new _ _ _, .inr (Nat.le_refl _), fun j hj => by
      have : j = 0 := by simpa using hj
      subst this; rfl⟩
  have hback := hbuf.back (P := Tryd.prog) 22 9 5 1 1 rfl Tryd.underlying22 Tryd.underlying5 Tryd.underlying9
  clear hbuf
  refine callsIn_of_wp_marks Tryd.func16 rfl trivial ?_ rfl
  simp only [Tryd.ntmps16, List.size_toArray, List.length_cons, List.length_nil, Nat.reduceAdd, Nat.reduceSub, Array.replicate_succ, Array.replicate_zero, List.push_toArray, List.append_toArray, List.nil_append, List.cons_append]
  gi_wp2_with (refine ⟨trivial, ?_⟩; gi_at_call 32; refine (pieces_in _ _ _ _).mono ?_; rintro e w' ⟨rfl, rfl⟩)
  have hlt := HML.out.lt
  have hb0 := (((Boxed.new w 30 (.slice none 0 0)).alloc (.cells #[.int .u8 b.toNat] 5)).alloc (.cells #[.string s] 9)).alloc (.cells #[.string (one b)] 9)
  have hb2 := (Boxed.new ((w.alloc (.cells #[.slice none 0 0] 30)).alloc (.cells #[.int .u8 b.toNat] 5)) 9 (.string s)).alloc (.cells #[.string (one b)] 9)
  have hb3 := Boxed.new (((w.alloc (.cells #[.slice none 0 0] 30)).alloc (.cells #[.int .u8 b.toNat] 5)).alloc (.cells #[.string s] 9)) 9 (.string (one b))
  have hB0 : Below w.heap.size w ((((w.alloc (.cells #[.slice none 0 0] 30)).alloc (.cells #[.int .u8 b.toNat] 5)).alloc (.cells #[.string s] 9)).alloc (.cells #[.string (one b)] 9)) :=
    ((((Below.refl _ w).alloc (Nat.le_refl _) _).alloc (by simp) _).alloc (by simp; omega) _).alloc (by simp; omega) _
  simp only [World.size_alloc] at hb2 hb3
  have hsz : ((((w.alloc (.cells #[.slice none 0 0] 30)).alloc (.cells #[.int .u8 b.toNat] 5)).alloc (.cells #[.string s] 9)).alloc (.cells #[.string (one b)] 9)).heap.size = w.heap.size + 4 := by simp
  clear hback
  change Code.wpIn _ _ _ _ _ _ ((((w.alloc (.cells #[.slice none 0 0] 30)).alloc (.cells #[.int .u8 b.toNat] 5)).alloc (.cells #[.string s] 9)).alloc (.cells #[.string (one b)] 9))
  generalize ((((w.alloc (.cells #[.slice none 0 0] 30)).alloc (.cells #[.int .u8 b.toNat] 5)).alloc (.cells #[.string s] 9)).alloc (.cells #[.string (one b)] 9)) = W0 at *
  refine wpIn_rangeFunc_ownF rfl (by decide) (gf := 40) (lb := #[.pointer (some ⟨w.heap.size + 1 + 1, 0, none⟩), .pointer (some ⟨w.heap.size + 1 + 1 + 1, 0, none⟩)]) rfl trivial (enters_of Tryd.func40 (by kernel_rfl) rfl)
    (pieces_stops 3 (by decide) (w.heap.size + 1 + 1) (w.heap.size + 1 + 1 + 1) (one b) s full hps hs (by show 1 ≤ 1; omega) W0 (by omega) (by omega) (HML.out.after hB0) hb2.cell hb3.cell) Keep2.trans (Keep2.putObj (by omega) (by omega)) (Below.refl _ _) (fun _ => rfl)
    (fun pre W => (∃ v, Boxed W w.heap.size 30 v ∧ W.ownsRow (w.heap.size + 4) 9 1 v pre.length (pre.map Value.string) ∧ True) ∧ Below w.heap.size w W ∧ Below 0 W0 W)
    (fun _ _ _ => False)
    (OwnFrom.and (Own.from (holdsRow_own (w.heap.size + 4) w.heap.size 30 9 1 (fun pre : List ByteArray => pre.length) (fun pre => pre.map Value.string) (fun _ _ => True)) _) (OwnFrom.and (ownFrom_below (Nat.le_refl _) (by omega)) (ownFrom_below (Nat.zero_le _) (Nat.zero_le _))))
    (fun _ _ _ _ _ hs _ _ => hs)
    ⟨⟨_, hb0, World.ownsRow_nil _ _ _ _, trivial⟩, hB0, Below.refl _ _⟩
    (fun x => { tmps := #[.string s, .int .u8 b.toNat, undef, undef, .slice none 0 0, .pointer (some ⟨w.heap.size, 0, none⟩), .string x, .string s, .int .u8 b.toNat, .slice (some ⟨w.heap.size + 1, 0, none⟩) 1 1, .string (one b), .func (.func 40) #[] #[.pointer (some ⟨w.heap.size + 1 + 1, 0, none⟩), .pointer (some ⟨w.heap.size + 1 + 1 + 1, 0, none⟩)], .string x, undef, undef, undef, undef, undef], defers := [] }) ?assign ?body ?done ?stop
  case assign =>
    intro l x W K hK
    gi_wp2
    exact hK
  case body =>
    rintro l pre x W ⟨⟨v, hv, hrow, _⟩, hB, hB'⟩ hpl
    have hc := hv.cell
    have hsW := hB'.size
    gi_wp2_with (gi_at_builtin; refine wpListIn_append_own _ rfl _ _ 30 rfl (w.heap.size + 4) 9 i0 (.string ⟨#[]⟩) 1 16 Tryd.underlying30 hi hz0 hz1 hz2 rfl (by decide) _ _ _ rfl (hrow.alloc _) ⟨W.heap.size, 0, none⟩ 1 1 [.string x] rfl rfl (cell_one_new _ _ _) (by simp [Value.oneCell']) (by unfold maxLen; omega) (by omega) (by simp; omega) ?_; intro v' w1 hown' hgrow _; obtain ⟨g', cap', rfl⟩ := ownsRow_succ hown'; obtain ⟨hv1, hv2, hr2, hk2, hb2', hkeep⟩ := boxApp hv (by decide) hrow (by omega) hB.size (Nat.le_refl _) hown' hgrow; have hc1 := hv1.cell; have hf1 := hv1.frozen)
    refine ⟨hk2, ⟨hb2'.block _ hlt, hkeep _ (by omega) (by omega) (by omega)⟩, ⟨_, hv2, by simpa using hr2, trivial⟩, hB.trans hb2', hB'.trans (hb2'.mono (Nat.zero_le _))⟩
  case done =>
    rintro D ys W hD rfl ⟨⟨v, hv, hrow, _⟩, hB, hB'⟩ hK
    have hc := hv.cell
    gi_wp2
    refine ⟨by simp, .inl ⟨_, _, rfl, run_takeDeferred hK, ?_⟩⟩
    exact ⟨_, results_tmp rfl _ _ _, v, rfl, rowLe (ownsRow_putObj hrow _ hK rfl) (by omega), hB.trans (belowK_b (w := w) (Nat.le_refl _) W D _ _ (by omega) hK rfl rfl)⟩
  case stop =>
    rintro D c pre W _ _ h _
    exact h.elim

theorem implSplit_any (s : ByteArray) (b : UInt8) (w : World) (hs : s.size ≤ 1048576) (hML : MaxLenAt w) :
    Calls Tryd.prog 16 #[.string s, .int .u8 b.toNat] w (GivesStrs (splitAll s b) w) := by
  obtain ⟨full, hp⟩ := pcs_exists (one b) (by show 1 ≤ 1; omega) s.size s (Nat.le_refl _)
  have h1 : full.length ≤ s.size + 1 := by
    rw [split_parts s b full hp]
    unfold splitAll
    have := (spF_le s b s.size).2
    simp; omega
  have h := callsIn_wide.1 (implSplit_in s b full hp (by omega) (by omega) w hML)
  rw [split_parts s b full hp] at h
  exact h
end Go.Proofs.YtmaoieceonlkoaaDoor
