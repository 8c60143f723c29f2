/-
  The draws: a cursor over the code's bytes, and what one byte drawn is.
-/
import Derived.Test.YtjleadlecdcdeaaIsRow
import Derived.Test.YtjleadlecdcdeaaGrown
import Derived.Deep.QuietTactic
import Derived.BigQuiet
namespace Go.Proofs.Ytjleadlecdcdeaa
set_option linter.unusedVariables false
open Go.RowKit

/-- The code that a law was called with. -/
structure Code where
  a : Option Addr
  len : Nat
  cap : Nat
  zs : List Int

/-- A cursor over the code, in block g, at place i with the number h; w0 is the world in which the law began. -/
structure Cur (K : Code) (w0 w : World) (g i : Nat) (h : Int) : Prop where
  row : IsRow .u8 w0 K.a K.len K.cap K.zs
  few : K.len ≤ 1048576
  base : w0.heap.size ≤ g
  below : Below w0.heap.size w0 w
  cell : w.heap[g]? = some (.cells #[.slice K.a K.len K.cap, .int .i64 i, .int .i64 h] 102 (0, 0))
  le : i ≤ K.len

theorem Cur.lt {K : Code} {w0 w : World} {g i : Nat} {h : Int} (c : Cur K w0 w g i h) : g < w.heap.size := (Array.getElem?_eq_some_iff.1 c.cell).1
theorem Cur.later {K : Code} {w0 w w' : World} {g i : Nat} {h : Int} (c : Cur K w0 w g i h) (hb : Below w.heap.size w w') : Cur K w0 w' g i h :=
  ⟨c.row, c.few, c.base, c.below.trans (hb.mono c.below.size), (hb.block g c.lt).trans c.cell, c.le⟩

def nextH (h : Int) : Int := wrap64 (wrap64 (h * 6364136223846793005) + 1442695040888963407)
def rawX (h : Int) : Int := bits .and .i64 (bits .xor .i64 (h / 8589934592) (h / 35184372088832)) 255

theorem and255 (x : Int) : 0 ≤ bits .and .i64 x 255 ∧ bits .and .i64 x 255 ≤ 255 := by
  have h : (BitVec.ofInt IntKind.i64.bits x &&& BitVec.ofInt IntKind.i64.bits 255).toNat ≤ 255 := by
    rw [BitVec.toNat_and]
    exact Nat.le_trans Nat.and_le_right (by decide)
  have e : bits .and .i64 x 255 = IntKind.i64.wrap ((BitVec.ofInt IntKind.i64.bits x &&& BitVec.ofInt IntKind.i64.bits 255).toNat : Int) := rfl
  rw [e]
  generalize (BitVec.ofInt IntKind.i64.bits x &&& BitVec.ofInt IntKind.i64.bits 255).toNat = n at h
  have : IntKind.i64.wrap (n : Int) = n := IntWalk.i64_in _ (by omega)
  rw [this]
  omega

/-- One byte is drawn: the cursor goes on. -/
def DrawnByte (K : Code) (w0 : World) (g i : Nat) (h : Int) (w : World) (e : Ending) (w' : World) : Prop :=
  ∃ (x : Int) (i' : Nat) (h' : Int), e = .returned (.int .i64 x) ∧ 0 ≤ x ∧ x ≤ 255 ∧ Cur K w0 w' g i' h' ∧ w.grownBy w' (some g) ∧ h' = nextH h ∧
    ((i < K.len ∧ i' = i + 1) ∨ (i = K.len ∧ i' = i ∧ x = rawX h'))

theorem cur_cells {K : Code} {w0 w : World} {g i : Nat} {h : Int} (c : Cur K w0 w g i h) :
    w.cell? ⟨g, 0, none⟩ = some (.slice K.a K.len K.cap) ∧ w.cell? ⟨g, 1, none⟩ = some (.int .i64 i) ∧ w.cell? ⟨g, 2, none⟩ = some (.int .i64 h) ∧ w.frozen? ⟨g, 1, none⟩ = false ∧ w.frozen? ⟨g, 2, none⟩ = false := by
  have hg := c.cell
  refine ⟨by simp [World.cell?, hg], by simp [World.cell?, hg], by simp [World.cell?, hg], by simp [World.frozen?, hg], by simp [World.frozen?, hg]⟩


theorem Cur.step {K : Code} {w0 w w' : World} {g i : Nat} {h : Int} (c : Cur K w0 w g i h) (hg : w.grownBy w' (some g)) (i' : Nat) (h' : Int) (hi : i' ≤ K.len)
    (hc : w'.heap[g]? = some (.cells #[.slice K.a K.len K.cap, .int .i64 i', .int .i64 h'] 102 (0, 0))) : Cur K w0 w' g i' h' :=
  ⟨c.row, c.few, c.base, c.below.grown hg c.below.size (fun k e => by cases e; exact c.base), hc, hi⟩

set_option maxRecDepth 100000 in
set_option maxHeartbeats 400000 in
theorem byte_end {K : Code} {w0 w : World} {g i : Nat} {h : Int} (c : Cur K w0 w g i h) (hi : K.len ≤ i) :
    Calls Try.prog 70 #[.pointer (some ⟨g, 0, none⟩)] w (DrawnByte K w0 g i h w) := by
  obtain ⟨hc0, hc1, hc2, hf1, hf2⟩ := cur_cells c
  have hl := c.few
  have hle := c.le
  have C := Lib.hid c
  clear c
  go_enter Try.func70, Try.ntmps70
  go_wp2
  go_quiet (fail)
  go_wp2
  go_quiet (fail)
  go_wp2
  go_ret
  refine ⟨_, i, nextH h, rfl, (and255 _).1, (and255 _).2, ?_, ?_, rfl, .inr ⟨by omega, rfl, rfl⟩⟩
  · refine C.out.step (grownBy_drewN (grownBy_drewN (grownBy_one _ _ _ _) _) _) i (nextH h) hle ?_
    exact heap_setCell_same _ _ _ _ _ _ C.out.cell
  · exact grownBy_drewN (grownBy_drewN (grownBy_one _ _ _ _) _) _

set_option maxRecDepth 100000 in
set_option maxHeartbeats 400000 in
theorem byte_more {K : Code} {w0 w : World} {g i : Nat} {h : Int} (c : Cur K w0 w g i h) (hi : i < K.len) :
    Calls Try.prog 70 #[.pointer (some ⟨g, 0, none⟩)] w (DrawnByte K w0 g i h w) := by
  obtain ⟨hc0, hc1, hc2, hf1, hf2⟩ := cur_cells c
  obtain ⟨b, off, n, ha, hcn0, hn0, hn1, hb⟩ := c.row.at i hi
  have hcn : w.cell? ⟨b, off + i, none⟩ = some (.int .u8 n) := (c.below.cell (p := ⟨b, off + i, none⟩) hb).trans hcn0
  have hbg : b ≠ g := by have := c.base; omega
  rw [ha] at hc0
  have hl := c.few
  have C := Lib.hid c
  clear c hcn0
  have hi1 : (0 : Int) ≤ (i : Int) := by omega
  have hi2 : (i : Int) < (K.len : Int) := by omega
  go_enter Try.func70, Try.ntmps70
  go_wp2
  go_quiet (fail)
  go_wp2
  go_quiet (fail)
  go_wp2
  go_quiet (fail)
  go_wp2
  go_ret
  have hg2 : w.grownBy (w.setCell ⟨g, 2, none⟩ (.int .i64 (nextH h))) (some g) := grownBy_one _ _ _ _
  refine ⟨_, i + 1, nextH h, rfl, (and255 _).1, (and255 _).2, ?_, ?_, rfl, .inl ⟨hi, rfl⟩⟩
  · refine C.out.step (grownBy_trans (grownBy_drewN hg2 _) (grownBy_one _ _ _ _)) (i + 1) (nextH h) (by omega) ?_
    exact heap_setCell_same _ _ _ _ _ _ (heap_setCell_same _ _ _ _ _ _ C.out.cell)
  · exact grownBy_trans (grownBy_drewN hg2 _) (grownBy_one _ _ _ _)
end Go.Proofs.Ytjleadlecdcdeaa
