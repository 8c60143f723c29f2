/-
  Fields: the walk of the laws' sameFields where they are equal.
-/
import Derived.Test.YtfgfbdfijpecfaaDoorFlE
namespace Go.Proofs.YtfgfbdfijpecfaaDoor
set_option linter.unusedVariables false
open Go.RowKit

set_option maxRecDepth 100000 in
set_option maxHeartbeats 1000000 in
theorem sameFls_yes (va vb : Value) (l : List Fl) (w : World) (ha : FlsAt w va l) (hb : FlsAt w vb l) (hl : l.length ≤ 4294967296) :
    Calls Tryd.prog 9 #[va, vb] w fun e w' => e = .returned (.bool true) ∧ Below w.heap.size w w' := by
  by_cases h0 : l.length = 0
  · obtain rfl : l = [] := List.eq_nil_of_length_eq_zero h0
    obtain ⟨p, cap, rfl⟩ : ∃ p cap, va = .slice p 0 cap := by
      rcases ha with ⟨_, h⟩ | ⟨g, off, cap, h, _⟩
      · exact h
      · exact ⟨_, _, h⟩
    obtain ⟨q, cbp, rfl⟩ : ∃ p cap, vb = .slice p 0 cap := by
      rcases hb with ⟨_, h⟩ | ⟨g, off, cap, h, _⟩
      · exact h
      · exact ⟨_, _, h⟩
    clear ha hb h0
    go_enter Tryd.func9, Tryd.ntmps9
    go_wp2
    go_loop [5] (fun i => i = .int .i64 0) (fun _ => 0)
    case atStart => rfl
    case round =>
      obtain rfl := hrel
      go_wp2
      go_ret
      exact ⟨rfl, Below.refl _ _⟩
  · rcases ha with ⟨rfl, _⟩ | ⟨ga, oa, ca, rfl, hga, hca⟩
    · exact absurd rfl h0
    rcases hb with ⟨rfl, _⟩ | ⟨gb, ob, cb, rfl, hgb, hcb⟩
    · exact absurd rfl h0
    have HCA := Lib.hid hca
    have HCB := Lib.hid hcb
    clear hca hcb
    go_enter Tryd.func9, Tryd.ntmps9
    go_wp2
    go_loopw [5] (fun i wr => ∃ k : Nat, k ≤ l.length ∧ i = .int .i64 k ∧ Below w.heap.size w wr) (fun i _ => l.length - (intOf i).toNat)
    case atStart => exact ⟨0, Nat.zero_le _, rfl, Below.refl _ _⟩
    case round =>
      obtain ⟨k, hk, rfl, hq⟩ := hrel
      by_cases hlt : k < l.length
      · obtain ⟨x1, x2⟩ := HCA.out k hlt
        obtain ⟨y1, y2⟩ := HCB.out k hlt
        rw [← hq.cell (p := ⟨ga, oa + k * 2, none⟩) hga] at x1
        rw [← hq.cell (p := ⟨ga, oa + k * 2 + 1, none⟩) hga] at x2
        rw [← hq.cell (p := ⟨gb, ob + k * 2, none⟩) hgb] at y1
        rw [← hq.cell (p := ⟨gb, ob + k * 2 + 1, none⟩) hgb] at y2
        have i1 : (0 : Int) ≤ (k : Int) := by omega
        have i2 : (k : Int) < (l.length : Int) := by omega
        generalize mkB l[k].name = kk at x1 y1
        generalize mkB l[k].body = tt at x2 y2
        have HQ := Lib.hid hq
        clear hq
        have hgaw : ga < wr.heap.size := by have := HQ.out.size; omega
        have hgbw : gb < wr.heap.size := by have := HQ.out.size; omega
        go_wp2_with fail
        go_quiet (fail)
        go_wp2_with fail
        go_roundw
        case rel => exact ⟨k + 1, by omega, by go_num, below_drewL HQ.out _⟩
        case measure => simp [intOf]; omega
      · obtain rfl : k = l.length := by omega
        go_wp2_with fail
        go_ret
        exact ⟨rfl, hq⟩
end Go.Proofs.YtfgfbdfijpecfaaDoor
