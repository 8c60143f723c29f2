/-
  Marked fields are looked at again.
-/
import Derived.Test.YtfgfbdfijpecfaaDoorFlM
import Derived.Deep.RegionHeld3
namespace Go.Proofs.YtfgfbdfijpecfaaDoor
set_option linter.unusedVariables false
open Go.RowKit

set_option maxRecDepth 100000 in
set_option maxHeartbeats 1000000 in
/-- Marked fields are found so. -/
theorem heldFls_yes (v : Value) (n k : Nat) (w : World) (hv : FlsAt w v (flMarks k n)) (hl : n ≤ 10000000) (hk : k ≤ 10000000) :
    Calls Tryd.prog 16 #[v, .int .i64 k] w fun e w' => e = .returned (.int .i64 ((k + 2 * n : Nat) : Int)) ∧ Below w.heap.size w w' := by
  by_cases h0 : n = 0
  · subst h0
    obtain ⟨p, cap, rfl⟩ : ∃ p cap, v = .slice p 0 cap := by
      rcases hv with ⟨_, h⟩ | ⟨g, off, cap, h, _⟩
      · exact h
      · exact ⟨_, _, h⟩
    clear hv
    go_enter Tryd.func16, Tryd.ntmps16
    go_wp2
    go_loop [1, 5] (fun m i => i = .int .i64 0 ∧ m = .int .i64 k) (fun _ _ => 0)
    case atStart => exact ⟨rfl, rfl⟩
    case round =>
      obtain ⟨rfl, rfl⟩ := hrel
      go_wp2
      go_ret
      exact ⟨rfl, Below.refl _ _⟩
  · rcases hv with ⟨h, _⟩ | ⟨g, off, cap, rfl, hg, hc⟩
    · have := congrArg List.length h
      simp [flMarks_len] at this
      exact absurd this h0
    have hc2 : ∀ j, j < n → w.cell? ⟨g, off + j * 2, none⟩ = some (.string (mt (k + 2 * j))) ∧ w.cell? ⟨g, off + j * 2 + 1, none⟩ = some (.string (mt (k + 2 * j + 1))) := fun j hj => by
      have h1 := hc j (by rw [flMarks_len]; exact hj)
      have h2 := flMarks_at n k j hj
      rw [List.getElem?_eq_getElem (by rw [flMarks_len]; exact hj)] at h2
      rw [Option.some.inj h2] at h1
      exact h1
    rw [flMarks_len]
    have HC := Lib.hid hc2
    clear hc hc2 h0
    go_enter Tryd.func16, Tryd.ntmps16
    go_wp2
    go_loopw [1, 5] (fun m i wr => ∃ j c : Nat, j ≤ n ∧ i = .int .i64 j ∧ m = .int .i64 (c : Int) ∧ Hid (c = k + 2 * j) ∧ Below w.heap.size w wr) (fun _ i _ => n - (intOf i).toNat)
    case atStart => exact ⟨0, k, Nat.zero_le _, rfl, rfl, Lib.hid rfl, Below.refl _ _⟩
    case round =>
      obtain ⟨j, c, hj, rfl, rfl, HE, hB⟩ := hrel
      by_cases hlt : j < n
      · obtain ⟨x1, x2⟩ := HC.out j hlt
        rw [← HE.out, ← hB.cell (p := ⟨g, off + j * 2, none⟩) hg] at x1
        rw [← HE.out, ← hB.cell (p := ⟨g, off + j * 2 + 1, none⟩) hg] at x2
        have hgr : g < wr.heap.size := Nat.lt_of_lt_of_le hg hB.size
        have hi1 : (0 : Int) ≤ (j : Int) := by omega
        have hi2 : (j : Int) < (n : Int) := by omega
        have hcb : c ≤ 30000000 := by rw [HE.out]; omega
        have HM0 : Hid (∀ W, Calls Tryd.prog 31 #[.int .i64 (c : Int)] W fun e w' => e = .returned (.string (mt c)) ∧ Below W.heap.size W w') := Lib.hid (fun W => markText_any c W (by omega))
        have HM : Hid (∀ W, Calls Tryd.prog 31 #[.int .i64 ((c : Int) + 1)] W fun e w' => e = .returned (.string (mt (c + 1))) ∧ Below W.heap.size W w') := Lib.hid (fun W => markText_any (c + 1) W (by omega))
        generalize hx : mt (c + 1) = x at HM x2
        generalize hx0 : mt c = x0 at HM0 x1
        have HB := Lib.hid hB
        clear hx hx0 hB
        go_wp2_with fail
        go_region_held3 (fun w' => w'.cell? ⟨g, off + j * 2, none⟩ = some (.string x0) ∧ w'.cell? ⟨g, off + j * 2 + 1, none⟩ = some (.string x)) (first | go_keep | exact ⟨(hB1.cell (p := ⟨g, off + j * 2, none⟩) (by assumption)).trans x1, (hB1.cell (p := ⟨g, off + j * 2 + 1, none⟩) (by assumption)).trans x2⟩) (first | (go_at_call 31; refine (HM0.out _).mono ?_; rintro e w1 ⟨rfl, hB1⟩))
        have HB2 := Lib.hid (HB.out.trans ((Below.refl _ wr).drew.trans (hB1.mono HB.out.size)))
        have y2 : w1.cell? ⟨g, off + j * 2 + 1, none⟩ = some (.string x) := (hB1.cell (p := ⟨g, off + j * 2 + 1, none⟩) hgr).trans x2
        have hgr1 : g < w1.heap.size := Nat.lt_of_lt_of_le hgr hB1.size
        clear hB1 x1 x2
        go_wp2_with fail
        go_region_held3 (fun w' => w'.cell? ⟨g, off + j * 2 + 1, none⟩ = some (.string x)) (first | go_keep | exact (hB1.cell (p := ⟨g, off + j * 2 + 1, none⟩) (by assumption)).trans y2) (first | (go_at_call 31; refine (HM.out _).mono ?_; rintro e w3 ⟨rfl, hB1⟩))
        have HB3 := Lib.hid (HB2.out.trans ((Below.refl _ w1).drew.trans (hB1.mono HB2.out.size)))
        clear hB1
        go_wp2_with fail
        go_roundw
        case rel => exact ⟨j + 1, c + 2, by omega, by go_num, by go_num, Lib.hid (by rw [HE.out]; omega), HB3.out⟩
        case measure => simp [intOf]; omega
      · obtain rfl : j = n := by omega
        go_wp2
        go_ret
        exact ⟨by rw [← HE.out] <;> rfl, hB⟩
end Go.Proofs.YtfgfbdfijpecfaaDoor
