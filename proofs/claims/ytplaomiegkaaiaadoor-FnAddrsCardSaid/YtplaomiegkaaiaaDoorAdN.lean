/-
  Addr: the walk of the laws' sameAddrs where they are equal.
-/
import Derived.Test.YtplaomiegkaaiaaDoorAdA
import Derived.Deep.RegionHeld3
import Derived.Deep.QuietTactic
import Derived.BigQuiet
namespace Go.Proofs.YtplaomiegkaaiaaDoor
set_option linter.unusedVariables false
open Go.RowKit

theorem below_drewAd {B : Nat} {a b : World} (h : Below B a b) (n : Nat) : Below B a (b.drewN n) := ⟨h.os, h.tape, h.output, h.size, h.block⟩

set_option maxRecDepth 100000 in
set_option maxHeartbeats 1000000 in
theorem sameAds_yes (va vb : Value) (l : List Ad) (w : World) (ha : AdsAt w va l) (hb : AdsAt w vb l) (hl : l.length ≤ 4294967296) :
    Calls Tryd.prog 13 #[va, vb] w fun e w' => e = .returned (.bool true) ∧ Below w.heap.size w w' := by
  by_cases h0 : l.length = 0
  · obtain rfl : l = [] := List.eq_nil_of_length_eq_zero h0
    obtain ⟨p, cap, rfl⟩ : ∃ p cap, va = .slice p 0 cap := by
      rcases ha with ⟨_, h⟩ | ⟨g, off, cap, h, _⟩
      · exact h
      · exact ⟨_, _, h⟩
    obtain ⟨q, cbp, rfl⟩ : ∃ p cap, vb = .slice p 0 cap := by
      rcases hb with ⟨_, h⟩ | ⟨g, off, cap, h, _⟩
      · exact h
      · exact ⟨_, _, h⟩
    clear ha hb h0
    go_enter Tryd.func13, Tryd.ntmps13
    go_wp2
    go_loop [5] (fun i => i = .int .i64 0) (fun _ => 0)
    case atStart => rfl
    case round =>
      obtain rfl := hrel
      go_wp2
      go_ret
      exact ⟨rfl, Below.refl _ _⟩
  · rcases ha with ⟨rfl, _⟩ | ⟨ga, oa, ca, rfl, hga, hca⟩
    · exact absurd rfl h0
    rcases hb with ⟨rfl, _⟩ | ⟨gb, ob, cb, rfl, hgb, hcb⟩
    · exact absurd rfl h0
    have HCA := Lib.hid hca
    have HCB := Lib.hid hcb
    clear hca hcb
    go_enter Tryd.func13, Tryd.ntmps13
    go_wp2
    go_loopw [5] (fun i wr => ∃ k : Nat, k ≤ l.length ∧ i = .int .i64 k ∧ Below w.heap.size w wr) (fun i _ => l.length - (intOf i).toNat)
    case atStart => exact ⟨0, Nat.zero_le _, rfl, Below.refl _ _⟩
    case round =>
      obtain ⟨k, hk, rfl, hq⟩ := hrel
      by_cases hlt : k < l.length
      · obtain ⟨x1, x2, x3⟩ := HCA.out k hlt
        obtain ⟨y1, y2, y3⟩ := HCB.out k hlt
        rw [← hq.cell (p := ⟨ga, oa + k * 3, none⟩) hga] at x1
        rw [← hq.cell (p := ⟨gb, ob + k * 3, none⟩) hgb] at y1
        rw [← hq.cell (p := ⟨ga, oa + k * 3 + 1, none⟩) hga] at x2
        rw [← hq.cell (p := ⟨gb, ob + k * 3 + 1, none⟩) hgb] at y2
        rw [← hq.cell (p := ⟨ga, oa + k * 3 + 2, none⟩) hga] at x3
        rw [← hq.cell (p := ⟨gb, ob + k * 3 + 2, none⟩) hgb] at y3
        have i1 : (0 : Int) ≤ (k : Int) := by omega
        have i2 : (k : Int) < (l.length : Int) := by omega
        generalize mkB l[k].name = s0 at x1 y1
        generalize mkB l[k].box = s1 at x2 y2
        generalize mkB l[k].host = s2 at x3 y3
        have HQ := Lib.hid hq
        clear hq
        have hgaw : ga < wr.heap.size := by have := HQ.out.size; omega
        have hgbw : gb < wr.heap.size := by have := HQ.out.size; omega
        go_wp2_with fail
        go_quiet (fail)
        go_wp2_with fail
        go_roundw
        case rel => exact ⟨k + 1, by omega, by go_num, below_drewAd HQ.out _⟩
        case measure => simp [intOf]; omega
      · obtain rfl : k = l.length := by omega
        go_wp2_with fail
        go_ret
        exact ⟨rfl, hq⟩
end Go.Proofs.YtplaomiegkaaiaaDoor
