/-
  Marked slices of three ints are looked at again.
-/
import Derived.Test.YtjleadlecdcdeaaI3A
import Derived.Deep.RegionHeld3
import Derived.Deep.QuietTactic
import Derived.BigQuiet
namespace Go.Proofs.Ytjleadlecdcdeaa
set_option linter.unusedVariables false
open Go.RowKit

set_option maxRecDepth 100000 in
set_option maxHeartbeats 1000000 in
theorem heldI3_yes (v : Value) (n k : Nat) (w : World) (hv : CellsAt w v n (iCells (iMarks k (n * 3)))) (hl : n ≤ 10000000) (hk : k ≤ 10000000) :
    Calls Try.prog 24 #[v, .int .i64 k] w fun e w' => e = .returned (.int .i64 ((k + n * 3 : Nat) : Int)) ∧ Below w.heap.size w w' := by
  by_cases h0 : n = 0
  · subst h0
    obtain ⟨p, cap, rfl⟩ := hv.slice
    clear hv
    go_enter Try.func24, Try.ntmps24
    go_wp2
    go_loop [1, 5] (fun m i => i = .int .i64 0 ∧ m = .int .i64 k) (fun _ _ => 0)
    case atStart => exact ⟨rfl, rfl⟩
    case round =>
      obtain ⟨rfl, rfl⟩ := hrel
      go_wp2
      go_ret
      exact ⟨rfl, Below.refl _ _⟩
  · rcases hv with ⟨h, _⟩ | ⟨g, off, cap, rfl, hg, hc⟩
    · exact absurd h h0
    have hc2 : ∀ j, j < n * 3 → w.cell? ⟨g, off + j, none⟩ = some (.int .i64 ((k + j : Nat) : Int)) := fun j hj => by
      rw [hc j (by simp [iCells, iMarks_len]; omega), iCells_at _ j (by rw [iMarks_len]; omega)]
      have h2 := iMarks_at (n * 3) k j hj
      rw [List.getElem?_eq_getElem (by rw [iMarks_len]; exact hj)] at h2
      rw [Option.some.inj h2]
    have HC := Lib.hid hc2
    clear hc hc2 h0
    go_enter Try.func24, Try.ntmps24
    go_wp2
    go_loopw [1, 5] (fun m i wr => ∃ j c : Nat, j ≤ n ∧ i = .int .i64 j ∧ m = .int .i64 (c : Int) ∧ Hid (c = k + j * 3) ∧ Below w.heap.size w wr) (fun _ i _ => n - (intOf i).toNat)
    case atStart => exact ⟨0, k, Nat.zero_le _, rfl, rfl, Lib.hid (by omega), Below.refl _ _⟩
    case round =>
      obtain ⟨j, c, hj, rfl, rfl, HE, hB⟩ := hrel
      by_cases hlt : j < n
      · have i1 : (0 : Int) ≤ (j : Int) := by omega
        have i2 : (j : Int) < (n : Int) := by omega
        have HB0 := Lib.hid hB
        clear hB
        go_wp2_with fail
        go_loopw [1, 6] (fun m i wr => ∃ t c : Nat, t ≤ 3 ∧ i = .int .i64 t ∧ m = .int .i64 (c : Int) ∧ Hid (c = k + (j * 3 + t)) ∧ Hid (Below w.heap.size w wr)) (fun _ i _ => 3 - (intOf i).toNat)
        case atStart => exact ⟨0, c, by omega, rfl, rfl, Lib.hid (by have := HE.out; omega), HB0⟩
        case round =>
          obtain ⟨t, c2, ht, rfl, rfl, HE2, HB1⟩ := hrel
          by_cases htl : t < 3
          · have j1 : (0 : Int) ≤ (t : Int) := by omega
            have j2 : (t : Int) < 3 := by omega
            have hcb : c2 ≤ 40000000 := by have := HE2.out; omega
            have x1 := HC.out (j * 3 + t) (by omega)
            rw [← HE2.out, ← HB1.out.cell (p := ⟨g, off + (j * 3 + t), none⟩) hg, ← Nat.add_assoc] at x1
            clear HB0
            go_wp2_with fail
            go_roundw
            case rel => exact ⟨t + 1, c2 + 1, by omega, by go_num, by go_num, Lib.hid (by rw [HE2.out]; omega), HB1⟩
            case measure => simp [intOf]; omega
          · obtain rfl : t = 3 := by omega
            clear HB0
            go_wp2_with fail
            go_roundw
            case rel => exact ⟨j + 1, c2, by omega, by go_num, rfl, Lib.hid (by rw [HE2.out]; omega), HB1.out⟩
            case measure => simp [intOf]; omega
      · obtain rfl : j = n := by omega
        go_wp2
        go_ret
        exact ⟨by rw [← HE.out] <;> rfl, hB⟩
end Go.Proofs.Ytjleadlecdcdeaa
