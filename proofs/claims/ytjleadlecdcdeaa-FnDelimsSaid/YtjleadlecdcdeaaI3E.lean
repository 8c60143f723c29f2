/-
  Slices of three ints: the walks of the laws' eqIntA3, eqIntA3S where they are equal.
-/
import Derived.Test.YtjleadlecdcdeaaI3A
import Derived.Deep.RegionHeld3
import Derived.Deep.QuietTactic
import Derived.BigQuiet
namespace Go.Proofs.Ytjleadlecdcdeaa
set_option linter.unusedVariables false
open Go.RowKit

theorem below_drewI {B : Nat} {a b : World} (h : Below B a b) (n : Nat) : Below B a (b.drewN n) := ⟨h.os, h.tape, h.output, h.size, h.block⟩

set_option maxRecDepth 100000 in
set_option maxHeartbeats 1000000 in
theorem eqI3_yes (x0 x1 x2 : Int) (w : World) :
    Calls Try.prog 57 #[.agg #[.int .i64 x0, .int .i64 x1, .int .i64 x2], .agg #[.int .i64 x0, .int .i64 x1, .int .i64 x2]] w fun e w' => e = .returned (.bool true) ∧ Below w.heap.size w w' := by
  have HA := Lib.hid (new_three w (.int .i64 x0) (.int .i64 x1) (.int .i64 x2) 40)
  obtain ⟨w1, hw1⟩ : ∃ w1, w.alloc (.cells #[.int .i64 x0, .int .i64 x1, .int .i64 x2] 40) = w1 := ⟨_, rfl⟩
  have hs1 : w1.heap.size = w.heap.size + 1 := by rw [← hw1]; simp
  have HB := Lib.hid (new_three w1 (.int .i64 x0) (.int .i64 x1) (.int .i64 x2) 40)
  have HA2 : Hid ((w1.alloc (.cells #[.int .i64 x0, .int .i64 x1, .int .i64 x2] 40)).heap[w.heap.size]? = some (.cells #[.int .i64 x0, .int .i64 x1, .int .i64 x2] 40 (0, 0))) := Lib.hid ((Below.heap_alloc w1 _ w.heap.size (by omega)).trans (by rw [← hw1]; exact HA.out))
  rw [hs1] at HB
  rw [← hw1] at HB HA2
  have HQ0 : Hid (Below w.heap.size w ((w.alloc (.cells #[.int .i64 x0, .int .i64 x1, .int .i64 x2] 40)).alloc (.cells #[.int .i64 x0, .int .i64 x1, .int .i64 x2] 40))) := Lib.hid (((Below.refl _ _).alloc (Nat.le_refl _) _).alloc (by simp) _)
  clear hw1 HA hs1 w1
  go_enter Try.func57, Try.ntmps57
  go_wp2_with fail
  go_loopw [5] (fun i wr => ∃ k : Nat, k ≤ 3 ∧ i = .int .i64 (k : Int) ∧ Hid (wr.heap[w.heap.size]? = some (.cells #[.int .i64 x0, .int .i64 x1, .int .i64 x2] 40 (0, 0))) ∧ Hid (wr.heap[w.heap.size + 1]? = some (.cells #[.int .i64 x0, .int .i64 x1, .int .i64 x2] 40 (0, 0))) ∧ Hid (Below w.heap.size w wr)) (fun i _ => 3 - (intOf i).toNat)
  case atStart => exact ⟨0, by omega, rfl, HA2, HB, HQ0⟩
  case round =>
    obtain ⟨k, hk, rfl, HA3, HB3, HQ⟩ := hrel
    by_cases hlt : k < 3
    · have g1 : (k : Int) < 3 := by omega
      have g2 : (0 : Int) ≤ (k : Int) := by omega
      obtain ⟨x, hx1, hx2⟩ : ∃ x : Int, wr.cell? ⟨w.heap.size, k, none⟩ = some (.int .i64 x) ∧ wr.cell? ⟨w.heap.size + 1, k, none⟩ = some (.int .i64 x) := by
        obtain ⟨a0, a1, a2⟩ := three_cells HA3.out
        obtain ⟨b0, b1, b2⟩ := three_cells HB3.out
        match k, hlt with
        | 0, _ => exact ⟨_, a0, b0⟩
        | 1, _ => exact ⟨_, a1, b1⟩
        | 2, _ => exact ⟨_, a2, b2⟩
      clear HA2 HB HQ0
      go_wp2_with fail
      go_quiet (fail)
      go_wp2_with fail
      go_roundw
      case rel => exact ⟨k + 1, by omega, by go_num, HA3, HB3, Lib.hid (below_drewI HQ.out _)⟩
      case measure => simp [intOf]; omega
    · obtain rfl : k = 3 := by omega
      clear HA2 HB HQ0
      go_wp2_with fail
      go_ret
      exact ⟨rfl, HQ.out⟩
set_option maxRecDepth 100000 in
set_option maxHeartbeats 1000000 in
theorem eqI3s_yes (va vb : Value) (n : Nat) (ys : List Int) (w : World) (ha : CellsAt w va n (iCells ys)) (hb : CellsAt w vb n (iCells ys)) (hy : ys.length = n * 3) (hl : n ≤ 4294967296) :
    Calls Try.prog 22 #[va, vb] w fun e w' => e = .returned (.bool true) ∧ Below w.heap.size w w' := by
  by_cases h0 : n = 0
  · subst h0
    obtain ⟨p, cap, rfl⟩ := ha.slice
    obtain ⟨q, cbp, rfl⟩ := hb.slice
    clear ha hb
    go_enter Try.func22, Try.ntmps22
    go_wp2
    go_loop [5] (fun i => i = .int .i64 0) (fun _ => 0)
    case atStart => rfl
    case round =>
      obtain rfl := hrel
      go_wp2
      go_ret
      exact ⟨rfl, Below.refl _ _⟩
  · rcases ha with ⟨h, _⟩ | ⟨ga, oa, ca, rfl, hga, hca⟩
    · exact absurd h h0
    rcases hb with ⟨h, _⟩ | ⟨gb, ob, cb, rfl, hgb, hcb⟩
    · exact absurd h h0
    have hyc : (iCells ys).length = n * 3 := by rw [iCells, List.length_map]; exact hy
    have HCA : Hid (∀ i, i < n * 3 → ∃ x : Int, w.cell? ⟨ga, oa + i, none⟩ = some (.int .i64 x) ∧ w.cell? ⟨gb, ob + i, none⟩ = some (.int .i64 x)) := Lib.hid (fun i hi => by
      have h1 := hca i (by omega)
      have h2 := hcb i (by omega)
      rw [iCells_at ys i (by omega)] at h1 h2
      exact ⟨_, h1, h2⟩)
    have EE := Lib.hid eqI3_yes
    clear hca hcb hyc
    go_enter Try.func22, Try.ntmps22
    go_wp2
    go_loopw [5] (fun i wr => ∃ k : Nat, k ≤ n ∧ i = .int .i64 k ∧ Below w.heap.size w wr) (fun i _ => n - (intOf i).toNat)
    case atStart => exact ⟨0, Nat.zero_le _, rfl, Below.refl _ _⟩
    case round =>
      obtain ⟨k, hk, rfl, hq⟩ := hrel
      by_cases hlt : k < n
      · obtain ⟨s0, x1, y1⟩ := HCA.out (k * 3) (by omega)
        obtain ⟨s1, x2, y2⟩ := HCA.out (k * 3 + 1) (by omega)
        obtain ⟨s2, x3, y3⟩ := HCA.out (k * 3 + 2) (by omega)
        rw [← hq.cell (p := ⟨ga, oa + k * 3, none⟩) hga] at x1
        rw [← hq.cell (p := ⟨gb, ob + k * 3, none⟩) hgb] at y1
        rw [← Nat.add_assoc, ← hq.cell (p := ⟨ga, oa + k * 3 + 1, none⟩) hga] at x2
        rw [← Nat.add_assoc, ← hq.cell (p := ⟨gb, ob + k * 3 + 1, none⟩) hgb] at y2
        rw [← Nat.add_assoc, ← hq.cell (p := ⟨ga, oa + k * 3 + 2, none⟩) hga] at x3
        rw [← Nat.add_assoc, ← hq.cell (p := ⟨gb, ob + k * 3 + 2, none⟩) hgb] at y3
        have i1 : (0 : Int) ≤ (k : Int) := by omega
        have i2 : (k : Int) < (n : Int) := by omega
        have HQ := Lib.hid hq
        clear hq
        have hgaw : ga < wr.heap.size := by have := HQ.out.size; omega
        have hgbw : gb < wr.heap.size := by have := HQ.out.size; omega
        go_wp2_with fail
        go_region_held3 (fun w' => w'.cell? ⟨ga, oa + k * 3, none⟩ = some (.int .i64 s0) ∧ w'.cell? ⟨ga, oa + k * 3 + 1, none⟩ = some (.int .i64 s1) ∧ w'.cell? ⟨ga, oa + k * 3 + 2, none⟩ = some (.int .i64 s2) ∧ w'.cell? ⟨gb, ob + k * 3, none⟩ = some (.int .i64 s0) ∧ w'.cell? ⟨gb, ob + k * 3 + 1, none⟩ = some (.int .i64 s1) ∧ w'.cell? ⟨gb, ob + k * 3 + 2, none⟩ = some (.int .i64 s2)) (first | go_keep | exact ⟨(hB1.cell (p := ⟨ga, oa + k * 3, none⟩) hgaw).trans x1, (hB1.cell (p := ⟨ga, oa + k * 3 + 1, none⟩) hgaw).trans x2, (hB1.cell (p := ⟨ga, oa + k * 3 + 2, none⟩) hgaw).trans x3, (hB1.cell (p := ⟨gb, ob + k * 3, none⟩) hgbw).trans y1, (hB1.cell (p := ⟨gb, ob + k * 3 + 1, none⟩) hgbw).trans y2, (hB1.cell (p := ⟨gb, ob + k * 3 + 2, none⟩) hgbw).trans y3⟩) (first | (go_at_call 57; refine (EE.out _ _ _ _).mono ?_; rintro e w1 ⟨rfl, hB1⟩))
        have HQ1 := Lib.hid ((HQ.out.drew).trans (hB1.mono HQ.out.size))
        clear hB1
        go_wp2_with fail
        go_roundw
        case rel => exact ⟨k + 1, by omega, by go_num, HQ1.out⟩
        case measure => simp [intOf]; omega
      · obtain rfl : k = n := by omega
        go_wp2_with fail
        go_ret
        exact ⟨rfl, hq⟩
end Go.Proofs.Ytjleadlecdcdeaa
