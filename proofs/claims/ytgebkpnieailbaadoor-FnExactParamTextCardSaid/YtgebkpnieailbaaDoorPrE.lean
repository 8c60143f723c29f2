/-
  Param: the walks of the laws' eqParam, eqParamS where they are equal.
-/
import Derived.Test.YtgebkpnieailbaaDoorPrA
import Derived.Deep.RegionHeld3
import Derived.Deep.QuietTactic
import Derived.BigQuiet
namespace Go.Proofs.YtgebkpnieailbaaDoor
set_option linter.unusedVariables false
open Go.RowKit

set_option maxRecDepth 100000 in
set_option maxHeartbeats 400000 in
theorem eqPr_yes (s0 s1 : ByteArray) (w : World) :
    Calls Tryd.prog 14 #[.agg #[.string s0, .string s1], .agg #[.string s0, .string s1]] w fun e w' => e = .returned (.bool true) ∧ Below w.heap.size w w' := by
  go_enter Tryd.func14, Tryd.ntmps14
  go_wp2_with fail
  go_ret
  exact ⟨rfl, ((Below.refl _ _).alloc (Nat.le_refl _) _).alloc (by simp) _⟩

set_option maxRecDepth 100000 in
set_option maxHeartbeats 1000000 in
theorem eqPrs_yes (va vb : Value) (l : List Pr) (w : World) (ha : PrsAt w va l) (hb : PrsAt w vb l) (hl : l.length ≤ 4294967296) :
    Calls Tryd.prog 8 #[va, vb] w fun e w' => e = .returned (.bool true) ∧ Below w.heap.size w w' := by
  by_cases h0 : l.length = 0
  · obtain rfl : l = [] := List.eq_nil_of_length_eq_zero h0
    obtain ⟨p, cap, rfl⟩ : ∃ p cap, va = .slice p 0 cap := by
      rcases ha with ⟨_, h⟩ | ⟨g, off, cap, h, _⟩
      · exact h
      · exact ⟨_, _, h⟩
    obtain ⟨q, cbp, rfl⟩ : ∃ p cap, vb = .slice p 0 cap := by
      rcases hb with ⟨_, h⟩ | ⟨g, off, cap, h, _⟩
      · exact h
      · exact ⟨_, _, h⟩
    clear ha hb h0
    go_enter Tryd.func8, Tryd.ntmps8
    go_wp2
    go_loop [5] (fun i => i = .int .i64 0) (fun _ => 0)
    case atStart => rfl
    case round =>
      obtain rfl := hrel
      go_wp2
      go_ret
      exact ⟨rfl, Below.refl _ _⟩
  · rcases ha with ⟨rfl, _⟩ | ⟨ga, oa, ca, rfl, hga, hca⟩
    · exact absurd rfl h0
    rcases hb with ⟨rfl, _⟩ | ⟨gb, ob, cb, rfl, hgb, hcb⟩
    · exact absurd rfl h0
    have HCA := Lib.hid hca
    have HCB := Lib.hid hcb
    have EE := Lib.hid eqPr_yes
    clear hca hcb
    go_enter Tryd.func8, Tryd.ntmps8
    go_wp2
    go_loopw [5] (fun i wr => ∃ k : Nat, k ≤ l.length ∧ i = .int .i64 k ∧ Below w.heap.size w wr) (fun i _ => l.length - (intOf i).toNat)
    case atStart => exact ⟨0, Nat.zero_le _, rfl, Below.refl _ _⟩
    case round =>
      obtain ⟨k, hk, rfl, hq⟩ := hrel
      by_cases hlt : k < l.length
      · obtain ⟨x1, x2⟩ := HCA.out k hlt
        obtain ⟨y1, y2⟩ := HCB.out k hlt
        rw [← hq.cell (p := ⟨ga, oa + k * 2, none⟩) hga] at x1
        rw [← hq.cell (p := ⟨gb, ob + k * 2, none⟩) hgb] at y1
        rw [← hq.cell (p := ⟨ga, oa + k * 2 + 1, none⟩) hga] at x2
        rw [← hq.cell (p := ⟨gb, ob + k * 2 + 1, none⟩) hgb] at y2
        have i1 : (0 : Int) ≤ (k : Int) := by omega
        have i2 : (k : Int) < (l.length : Int) := by omega
        generalize mkB l[k].name = s0 at x1 y1
        generalize mkB l[k].value = s1 at x2 y2
        have HQ := Lib.hid hq
        clear hq
        have hgaw : ga < wr.heap.size := by have := HQ.out.size; omega
        have hgbw : gb < wr.heap.size := by have := HQ.out.size; omega
        go_wp2_with fail
        go_region_held3 (fun w' => w'.cell? ⟨ga, oa + k * 2, none⟩ = some (.string s0) ∧ w'.cell? ⟨ga, oa + k * 2 + 1, none⟩ = some (.string s1) ∧ w'.cell? ⟨gb, ob + k * 2, none⟩ = some (.string s0) ∧ w'.cell? ⟨gb, ob + k * 2 + 1, none⟩ = some (.string s1)) (first | go_keep | exact ⟨(hB1.cell (p := ⟨ga, oa + k * 2, none⟩) hgaw).trans x1, (hB1.cell (p := ⟨ga, oa + k * 2 + 1, none⟩) hgaw).trans x2, (hB1.cell (p := ⟨gb, ob + k * 2, none⟩) hgbw).trans y1, (hB1.cell (p := ⟨gb, ob + k * 2 + 1, none⟩) hgbw).trans y2⟩) (first | (go_at_call 14; refine (EE.out _ _ _).mono ?_; rintro e w1 ⟨rfl, hB1⟩))
        have HQ1 := Lib.hid ((HQ.out.drew).trans (hB1.mono HQ.out.size))
        clear hB1
        go_wp2_with fail
        go_roundw
        case rel => exact ⟨k + 1, by omega, by go_num, HQ1.out⟩
        case measure => simp [intOf]; omega
      · obtain rfl : k = l.length := by omega
        go_wp2_with fail
        go_ret
        exact ⟨rfl, hq⟩
end Go.Proofs.YtgebkpnieailbaaDoor
