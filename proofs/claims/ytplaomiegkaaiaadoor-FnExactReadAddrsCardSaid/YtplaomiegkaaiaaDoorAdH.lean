/-
  Marked Addr are looked at again.
-/
import Derived.Test.YtplaomiegkaaiaaDoorAdM
import Derived.Deep.RegionHeld3
namespace Go.Proofs.YtplaomiegkaaiaaDoor
set_option linter.unusedVariables false
open Go.RowKit

set_option maxRecDepth 100000 in
set_option maxHeartbeats 1000000 in
/-- Marked ones are found so. -/
theorem heldAds_yes (v : Value) (n k : Nat) (w : World) (hv : AdsAt w v (adMarks k n)) (hl : n ≤ 10000000) (hk : k ≤ 10000000) :
    Calls Tryd.prog 33 #[v, .int .i64 k] w fun e w' => e = .returned (.int .i64 ((k + 3 * n : Nat) : Int)) ∧ Below w.heap.size w w' := by
  by_cases h0 : n = 0
  · subst h0
    obtain ⟨p, cap, rfl⟩ : ∃ p cap, v = .slice p 0 cap := by
      rcases hv with ⟨_, h⟩ | ⟨g, off, cap, h, _⟩
      · exact h
      · exact ⟨_, _, h⟩
    clear hv
    go_enter Tryd.func33, Tryd.ntmps33
    go_wp2
    go_loop [1, 5] (fun m i => i = .int .i64 0 ∧ m = .int .i64 k) (fun _ _ => 0)
    case atStart => exact ⟨rfl, rfl⟩
    case round =>
      obtain ⟨rfl, rfl⟩ := hrel
      go_wp2
      go_ret
      exact ⟨rfl, Below.refl _ _⟩
  · rcases hv with ⟨h, _⟩ | ⟨g, off, cap, rfl, hg, hc⟩
    · have := congrArg List.length h
      simp [adMarks_len] at this
      exact absurd this h0
    have hc2 : ∀ j, j < n → w.cell? ⟨g, off + j * 3, none⟩ = some (.string (mt (k + 3 * j))) ∧ w.cell? ⟨g, off + j * 3 + 1, none⟩ = some (.string (mt (k + 3 * j + 1))) ∧ w.cell? ⟨g, off + j * 3 + 2, none⟩ = some (.string (mt (k + 3 * j + 2))) := fun j hj => by
      have h1 := hc j (by rw [adMarks_len]; exact hj)
      have h2 := adMarks_at n k j hj
      rw [List.getElem?_eq_getElem (by rw [adMarks_len]; exact hj)] at h2
      rw [Option.some.inj h2] at h1
      exact h1
    rw [adMarks_len]
    have HC := Lib.hid hc2
    clear hc hc2 h0
    go_enter Tryd.func33, Tryd.ntmps33
    go_wp2
    go_loopw [1, 5] (fun m i wr => ∃ j c : Nat, j ≤ n ∧ i = .int .i64 j ∧ m = .int .i64 (c : Int) ∧ Hid (c = k + 3 * j) ∧ Below w.heap.size w wr) (fun _ i _ => n - (intOf i).toNat)
    case atStart => exact ⟨0, k, Nat.zero_le _, rfl, rfl, Lib.hid rfl, Below.refl _ _⟩
    case round =>
      obtain ⟨j, c, hj, rfl, rfl, HE, hB⟩ := hrel
      by_cases hlt : j < n
      · obtain ⟨x1, x2, x3⟩ := HC.out j hlt
        rw [← HE.out, ← hB.cell (p := ⟨g, off + j * 3, none⟩) hg] at x1
        rw [← HE.out, ← hB.cell (p := ⟨g, off + j * 3 + 1, none⟩) hg] at x2
        rw [← HE.out, ← hB.cell (p := ⟨g, off + j * 3 + 2, none⟩) hg] at x3
        have hgr : g < wr.heap.size := Nat.lt_of_lt_of_le hg hB.size
        have hi1 : (0 : Int) ≤ (j : Int) := by omega
        have hi2 : (j : Int) < (n : Int) := by omega
        have hcb : c ≤ 40000000 := by rw [HE.out]; omega
        have HM0 : Hid (∀ W, Calls Tryd.prog 55 #[.int .i64 (c : Int)] W fun e w' => e = .returned (.string (mt c)) ∧ Below W.heap.size W w') := Lib.hid (fun W => markText_any c W (by omega))
        have HM1 : Hid (∀ W, Calls Tryd.prog 55 #[.int .i64 ((c : Int) + 1)] W fun e w' => e = .returned (.string (mt (c + 1))) ∧ Below W.heap.size W w') := Lib.hid (fun W => markText_any (c + 1) W (by omega))
        have HM2 : Hid (∀ W, Calls Tryd.prog 55 #[.int .i64 ((c : Int) + 2)] W fun e w' => e = .returned (.string (mt (c + 2))) ∧ Below W.heap.size W w') := Lib.hid (fun W => markText_any (c + 2) W (by omega))
        generalize hx0 : mt c = z0 at HM0 x1
        generalize hx1 : mt (c + 1) = z1 at HM1 x2
        generalize hx2 : mt (c + 2) = z2 at HM2 x3
        have HB0 := Lib.hid hB
        clear hB hx0 hx1 hx2
        go_wp2_with fail
        go_region_held3 (fun w' => w'.cell? ⟨g, off + j * 3, none⟩ = some (.string z0) ∧ w'.cell? ⟨g, off + j * 3 + 1, none⟩ = some (.string z1) ∧ w'.cell? ⟨g, off + j * 3 + 2, none⟩ = some (.string z2)) (first | go_keep | exact ⟨(hB1.cell (p := ⟨g, off + j * 3, none⟩) (by assumption)).trans x1, (hB1.cell (p := ⟨g, off + j * 3 + 1, none⟩) (by assumption)).trans x2, (hB1.cell (p := ⟨g, off + j * 3 + 2, none⟩) (by assumption)).trans x3⟩) (first | (go_at_call 55; refine (HM0.out _).mono ?_; rintro e w1 ⟨rfl, hB1⟩))
        have HB1 := Lib.hid (HB0.out.trans ((Below.refl _ wr).drew.trans (hB1.mono HB0.out.size)))
        have y0_1 : w1.cell? ⟨g, off + j * 3 + 1, none⟩ = some (.string z1) := (hB1.cell (p := ⟨g, off + j * 3 + 1, none⟩) hgr).trans x2
        have y0_2 : w1.cell? ⟨g, off + j * 3 + 2, none⟩ = some (.string z2) := (hB1.cell (p := ⟨g, off + j * 3 + 2, none⟩) hgr).trans x3
        have hgr1 : g < w1.heap.size := Nat.lt_of_lt_of_le hgr hB1.size
        clear hB1 HM0 x1 x2 x3 hgr
        go_wp2_with fail
        go_region_held3 (fun w' => w'.cell? ⟨g, off + j * 3 + 1, none⟩ = some (.string z1) ∧ w'.cell? ⟨g, off + j * 3 + 2, none⟩ = some (.string z2)) (first | go_keep | exact ⟨(hB1.cell (p := ⟨g, off + j * 3 + 1, none⟩) (by assumption)).trans y0_1, (hB1.cell (p := ⟨g, off + j * 3 + 2, none⟩) (by assumption)).trans y0_2⟩) (first | (go_at_call 55; refine (HM1.out _).mono ?_; rintro e w2 ⟨rfl, hB1⟩))
        have HB2 := Lib.hid (HB1.out.trans ((Below.refl _ w1).drew.trans (hB1.mono HB1.out.size)))
        have y1_2 : w2.cell? ⟨g, off + j * 3 + 2, none⟩ = some (.string z2) := (hB1.cell (p := ⟨g, off + j * 3 + 2, none⟩) hgr1).trans y0_2
        have hgr2 : g < w2.heap.size := Nat.lt_of_lt_of_le hgr1 hB1.size
        clear hB1 HM1 y0_1 y0_2 hgr1
        go_wp2_with fail
        go_region_held3 (fun w' => w'.cell? ⟨g, off + j * 3 + 2, none⟩ = some (.string z2)) (first | go_keep | exact (hB1.cell (p := ⟨g, off + j * 3 + 2, none⟩) (by assumption)).trans y1_2) (first | (go_at_call 55; refine (HM2.out _).mono ?_; rintro e w3 ⟨rfl, hB1⟩))
        have HB3 := Lib.hid (HB2.out.trans ((Below.refl _ w2).drew.trans (hB1.mono HB2.out.size)))
        have hgr3 : g < w3.heap.size := Nat.lt_of_lt_of_le hgr2 hB1.size
        clear hB1 HM2 y1_2 hgr2
        go_wp2_with fail
        go_roundw
        case rel => exact ⟨j + 1, c + 3, by omega, by go_num, by go_num, Lib.hid (by rw [HE.out]; omega), HB3.out⟩
        case measure => simp [intOf]; omega
      · obtain rfl : j = n := by omega
        go_wp2
        go_ret
        exact ⟨by rw [← HE.out] <;> rfl, hB⟩
end Go.Proofs.YtplaomiegkaaiaaDoor
