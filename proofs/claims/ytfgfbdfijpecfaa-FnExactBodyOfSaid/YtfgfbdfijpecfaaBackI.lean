/-
  The walk of slices.Backward over fields.
-/
import Derived.Test.YtfgfbdfijpecfaaLawBo
import Derived.Test.YtfgfbdfijpecfaaUpperB
import Derived.Test.YtfgfbdfijpecfaaAppB
import Derived.Maps.StringElems
import Derived.Maps.Views
import Derived.Maps.OwnIn
import Derived.RangeFuncNested
import Derived.RangeFuncBound
import Derived.RangeFuncCalls
import Derived.RangeFuncLeaves
import Derived.RangeFuncWrites
import Derived.RangeFuncBox
import Derived.Shelf.Abstract
import Derived.Shelf.RegionOpen
import Derived.OwnWalkIn
import Derived.TacticsInMore
import Derived.LoopNIn
import Derived.LoopIn
import Derived.Outline
namespace Go.Proofs.Ytfgfbdfijpecfaa
set_option linter.unusedVariables false
open Go.RowKit Go.Shelf Go.Maps
attribute [local go_sem] Oper.semAt_some

/-- The call of the iterator that goes backward: the value. -/
theorem backward_in (d : Nat) (p : Option Addr) (n cap : Nat) (w : World) :
    CallsIn Fence.wide d Try.prog 46 #[.slice p n cap] w fun e w' =>
      e = .returned (.func (.func 55) #[] #[.pointer (some ⟨w.heap.size, 0, none⟩)]) ∧ w' = w.alloc (.cells #[.slice p n cap] 26) := by
  refine callsIn_of_wp Try.func46 rfl trivial ?_ rfl
  simp only [Try.ntmps46, List.size_toArray, List.length_cons, List.length_nil, Nat.reduceAdd, Nat.reduceSub, Array.replicate_succ, Array.replicate_zero, List.push_toArray, List.append_toArray, List.nil_append, List.cons_append]
  gi_wp2
  go_ret
  exact ⟨rfl, rfl⟩

/-- Blocks below n and block B stay as they are. -/
def KB (n B : Nat) (W W' : World) : Prop := Below n W W' ∧ W'.heap[B]? = W.heap[B]?
theorem KB.trans {n B : Nat} {A C D : World} (h : KB n B A C) (k : KB n B C D) : KB n B A D := ⟨h.1.trans k.1, k.2.trans h.2⟩
theorem KB.putObj {n B m : Nat} (hn : n ≤ m) (hB : B < m) (W : World) (l : Nat) (o o' : Obj) (hl : m ≤ l) (h : W.heap[l]? = some o) (_ : o.isCells = false) (_ : o.isWalk = false) : KB n B W (W.putObj l o') :=
  ⟨(Below.refl n W).grown (grownBy_putObj' W l o') (by have := (Array.getElem?_eq_some_iff.1 h).1; omega) (fun k e => by cases e; omega), World.putObj_heap_other (by omega)⟩

/-- What the iterator hands on: an element and its place. -/
def encF (x : Fl × Nat) : Array Value := #[.int .i64 (x.2 : Int), .agg #[.string (mkB x.1.name), .string (mkB x.1.body)]]
def backL (l : List Fl) (k : Nat) : List (Fl × Nat) := (l.zipIdx.take k).reverse
theorem backL_zero (l : List Fl) : backL l 0 = [] := rfl
theorem backL_succ (l : List Fl) (k : Nat) (h : k < l.length) : backL l (k + 1) = (l[k], k) :: backL l k := by
  unfold backL
  rw [List.take_add_one, List.getElem?_eq_getElem (by simpa using h)]
  simp
theorem backL_len (l : List Fl) (k : Nat) (h : k ≤ l.length) : (backL l k).length = k := by
  unfold backL
  simp; omega

set_option maxRecDepth 100000 in
set_option maxHeartbeats 1000000 in
theorem back1_in {α : Type} (en : α → Fl × Nat) (full : List α) (d : Nat) (hd : 1 ≤ d) (lp Bs : Nat) (p : Option Addr) (cap : Nat) (l : List Fl) (hl : l.length ≤ 1048576) (hfull : full.map en = backL l l.length) (w0 : World) (hv : FlsAt w0 (.slice p l.length cap) l) (J Jx : List α → World → Prop)
    (hY : ∀ pre x W, J pre W → pre.length < l.length → YieldAt Fence.wide (d - 1) Try.prog lp (encF (en x)) W fun e W' =>
      (e = .returned (.bool true) ∧ J (pre ++ [x]) W' ∧ KB w0.heap.size Bs W W') ∨ (e = .returned (.bool false) ∧ Jx (pre ++ [x]) W'))
    (W : World) (hcs : W.cell? ⟨Bs, 0, none⟩ = some (.slice p l.length cap)) (hB : Below w0.heap.size w0 W) (h0 : J [] W) :
    CallsIn Fence.wide d Try.prog 55 #[.func (.yield lp) #[] #[], .pointer (some ⟨Bs, 0, none⟩)] W fun e W' => (∃ v, e = .returned v) ∧
      ((∃ ys, ys = full ∧ J ys W') ∨ (∃ pre, pre <+: full ∧ Jx pre W')) := by
  have HV := Lib.hid hv
  have HB0 := Lib.hid hB
  clear hv hB
  refine callsIn_of_wp Try.func55 rfl trivial ?_ rfl
  simp only [Try.ntmps55, List.size_toArray, List.length_cons, List.length_nil, Nat.reduceAdd, Nat.reduceSub, Array.replicate_succ, Array.replicate_zero, List.push_toArray, List.append_toArray, List.nil_append, List.cons_append]
  have hw1 : wrap64 ((l.length : Int) - 1) = (l.length : Int) - 1 := by unfold wrap64; omega
  gi_wp2
  gi_loopw [3] (fun i wr => ∃ (k : Nat) (pre rest : List α), k ≤ l.length ∧ Hid (∃ x : Int, i = .int .i64 x ∧ x = (k : Int) - 1) ∧ Hid (full = pre ++ rest ∧ rest.map en = backL l k) ∧ J pre wr ∧ wr.cell? ⟨Bs, 0, none⟩ = some (.slice p l.length cap) ∧ Hid (Below w0.heap.size w0 wr))
    (fun i _ => (intOf i + 1).toNat)
  case atStart =>
    exact ⟨l.length, [], full, Nat.le_refl _, Lib.hid ⟨_, rfl, rfl⟩, Lib.hid ⟨rfl, hfull⟩, h0, hcs, HB0⟩
  case round =>
    obtain ⟨k, pre, rest, hk, hi, hx, hJs, hcm1, HB1⟩ := hrel
    obtain ⟨x, rfl, hxk⟩ := hi.out
    rcases k with _ | k
    · have g1 : decide ((0 : Int) ≤ x) = false := by simp; omega
      have HX : Hid (pre = full) := Lib.hid (by obtain ⟨h1, h2⟩ := hx.out; rw [backL_zero] at h2; rw [h1, List.map_eq_nil_iff.1 h2, List.append_nil])
      gi_wp2
      go_end0
      exact ⟨⟨_, rfl⟩, .inl ⟨_, HX.out, hJs⟩⟩
    · obtain rfl : x = (k : Int) := by omega
      clear hxk
      have g1 : decide ((0 : Int) ≤ (k : Int)) = true := by simp
      obtain ⟨hx2, hx3⟩ := hx.out
      rw [backL_succ l k (by omega)] at hx3
      obtain ⟨y, rest', hrest, hen, hx4⟩ := List.map_eq_cons_iff.1 hx3
      subst hrest
      have hpl : pre.length < l.length := by
        have h1 := congrArg List.length hfull
        rw [backL_len _ _ (Nat.le_refl _), List.length_map, hx2, List.length_append, List.length_cons] at h1
        omega
      obtain ⟨fn, tmps, assign, body, hy, hR⟩ := hY pre y wr hJs hpl
      rw [hen] at hy
      obtain ⟨g, off, c2, hgv, hg, hc⟩ : ∃ g off c2, Value.slice p l.length cap = .slice (some ⟨g, off, none⟩) l.length c2 ∧ g < w0.heap.size ∧ ∀ k, (h : k < l.length) → w0.cell? ⟨g, off + k * 2, none⟩ = some (.string (mkB l[k].name)) ∧ w0.cell? ⟨g, off + k * 2 + 1, none⟩ = some (.string (mkB l[k].body)) := by
        rcases HV.out with ⟨h, _⟩ | h
        · rw [h] at hk; simp at hk
        · exact h
      injection hgv with hgv1 hgv2 hgv3
      subst hgv1 hgv3
      obtain ⟨x1, x2⟩ := hc k (by omega)
      have z1 : wr.cell? ⟨g, off + k * 2, none⟩ = some (.string (mkB l[k].name)) := (HB1.out.cell (p := ⟨g, off + k * 2, none⟩) hg).trans x1
      have z2 : wr.cell? ⟨g, off + k * 2 + 1, none⟩ = some (.string (mkB l[k].body)) := (HB1.out.cell (p := ⟨g, off + k * 2 + 1, none⟩) hg).trans x2
      have i1 : (0 : Int) ≤ (k : Int) := by omega
      have i2 : (k : Int) < (l.length : Int) := by omega
      have HX2 := Lib.hid hx2
      have HX4 := Lib.hid hx4
      dsimp only [encF] at hy
      clear hx2 hx3 hx4 hen hpl hc x1 x2 g1 hgv2
      generalize l[k] = f at hy z1 z2
      have hwk : wrap64 ((k : Int) - 1) = (k : Int) - 1 := by unfold wrap64; omega
      have g1 : decide ((0 : Int) ≤ (k : Int)) = true := by simp
      gi_wp2
      refine hR.mono ?_
      rintro e W3 (⟨rfl, hJ3, hk3⟩ | ⟨rfl, hJx3⟩)
      · have hcm3 : W3.cell? ⟨Bs, 0, none⟩ = _ := (show W3.cell? ⟨Bs, 0, none⟩ = wr.cell? ⟨Bs, 0, none⟩ by simp only [World.cell?, hk3.2]).trans hcm1
        have HB3 := Lib.hid (HB1.out.trans hk3.1)
        clear hk3
        gi_wp2
        go_roundw
        case rel => exact ⟨k, pre ++ [y], rest', by omega, Lib.hid ⟨_, rfl, rfl⟩, Lib.hid ⟨by rw [HX2.out]; simp, HX4.out⟩, hJ3, hcm3, HB3⟩
        case measure => simp [intOf]
      · gi_wp2
        refine bodyPost_ret (results_none rfl _ _ _) rfl ?_
        exact ⟨⟨_, rfl⟩, .inr ⟨pre ++ [y], ⟨rest', by rw [HX2.out]; simp⟩, hJx3⟩⟩

theorem back_stops {α : Type} (en : α → Fl × Nat) (full : List α) (d : Nat) (hd : 1 ≤ d) (Bs : Nat) (p : Option Addr) (cap : Nat) (l : List Fl) (hl : l.length ≤ 1048576) (hfull : full.map en = backL l l.length) (w0 : World) (hv : FlsAt w0 (.slice p l.length cap) l) (w : World) (hBs : Bs < w.heap.size) (hB : Below w0.heap.size w0 w)
    (hcs : w.cell? ⟨Bs, 0, none⟩ = some (.slice p l.length cap)) :
    SeqStopsK Fence.wide d Try.prog 55 #[.pointer (some ⟨Bs, 0, none⟩)] (fun x => encF (en x)) (KB w0.heap.size Bs) (fun ys => ys = full) (fun pre => pre <+: full) l.length w := fun lp J Jx W hW _ _ hY h0 =>
  back1_in en full d hd lp Bs p cap l hl hfull w0 hv J Jx hY W ((hW.cell (p := ⟨Bs, 0, none⟩) hBs).trans hcs) (hB.trans (hW.mono hB.size)) h0

end Go.Proofs.Ytfgfbdfijpecfaa
