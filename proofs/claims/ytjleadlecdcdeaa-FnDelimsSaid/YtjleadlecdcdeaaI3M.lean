/-
  A slice of three ints marked.
-/
import Derived.Test.YtjleadlecdcdeaaI3A
import Derived.Test.YtjleadlecdcdeaaMarkA
import Derived.Deep.RegionHeld3
import Derived.Deep.QuietTactic
import Derived.BigQuiet
namespace Go.Proofs.Ytjleadlecdcdeaa
set_option linter.unusedVariables false
open Go.RowKit

def MarksI3 (v : Value) (n k B : Nat) (w : World) (e : Ending) (w' : World) : Prop :=
  e = .returned (.int .i64 ((k + n * 3 : Nat) : Int)) ∧ w'.ownsRow B 40 3 v n (iCells (iMarks k (n * 3))) ∧ w.grownBy w' v.ownBlock

set_option maxRecDepth 100000 in
set_option maxHeartbeats 1000000 in
theorem markI3_any (v : Value) (n : Nat) (xs : List Value) (k B : Nat) (w : World) (hrow : w.ownsRow B 40 3 v n xs) (hx : xs.length = n * 3) (hl : n ≤ 10000000) (hk : k ≤ 10000000) :
    Calls Try.prog 23 #[v, .int .i64 k] w (MarksI3 v n k B w) := by
  by_cases h0 : n = 0
  · subst h0
    obtain rfl : xs = [] := List.eq_nil_of_length_eq_zero (by omega)
    obtain ⟨p, cap, rfl⟩ : ∃ p cap, v = .slice p 0 cap := row_slice hrow
    have HROW := Lib.hid hrow
    clear hrow hx
    go_enter Try.func23, Try.ntmps23
    go_wp2
    go_loop [1, 5] (fun m i => i = .int .i64 0 ∧ m = .int .i64 k) (fun _ _ => 0)
    case atStart => exact ⟨rfl, rfl⟩
    case round =>
      obtain ⟨rfl, rfl⟩ := hrel
      go_wp2
      go_ret
      exact ⟨rfl, HROW.out, grownBy_refl _ _⟩
  · obtain ⟨g, cap, rfl⟩ : ∃ g cap, v = .slice (some ⟨g, 0, none⟩) n cap := row_slice1 hrow (by omega)
    have HROW : Hid (w.ownsRow B 40 3 (.slice (some ⟨g, 0, none⟩) n cap) n (iMarked xs k 0)) := Lib.hid (by simpa [iMarked, iMarks, iCells] using hrow)
    clear hrow h0
    go_enter Try.func23, Try.ntmps23
    go_wp2
    go_loopw [1, 5] (fun m i wr => ∃ j c : Nat, j ≤ n ∧ i = .int .i64 j ∧ m = .int .i64 (c : Int) ∧ Hid (c = k + j * 3) ∧ Hid (wr.ownsRow B 40 3 (.slice (some ⟨g, 0, none⟩) n cap) n (iMarked xs k (j * 3))) ∧ Hid (w.grownBy wr (some g))) (fun _ i _ => n - (intOf i).toNat)
    case atStart => exact ⟨0, k, Nat.zero_le _, rfl, rfl, Lib.hid (by omega), Lib.hid (by rw [Nat.zero_mul]; exact HROW.out), Lib.hid (grownBy_refl _ _)⟩
    case round =>
      obtain ⟨j, c, hj, rfl, rfl, HC, HR, HG⟩ := hrel
      by_cases hlt : j < n
      · have i1 : (0 : Int) ≤ (j : Int) := by omega
        have i2 : (j : Int) < (n : Int) := by omega
        go_wp2_with fail
        go_loopw [1, 6] (fun m i wr => ∃ t c : Nat, t ≤ 3 ∧ i = .int .i64 t ∧ m = .int .i64 (c : Int) ∧ Hid (c = k + (j * 3 + t)) ∧ Hid (wr.ownsRow B 40 3 (.slice (some ⟨g, 0, none⟩) n cap) n (iMarked xs k (j * 3 + t))) ∧ Hid (w.grownBy wr (some g))) (fun _ i _ => 3 - (intOf i).toNat)
        case atStart => exact ⟨0, c, by omega, rfl, rfl, Lib.hid (by have := HC.out; omega), HR, HG⟩
        case round =>
          obtain ⟨t, c2, ht, rfl, rfl, HC2, HR2, HG2⟩ := hrel
          by_cases htl : t < 3
          · have j1 : (0 : Int) ≤ (t : Int) := by omega
            have j2 : (t : Int) < 3 := by omega
            have hcb : c2 ≤ 40000000 := by have := HC2.out; omega
            have hlen : (iMarked xs k (j * 3 + t)).length = n * 3 := by rw [iMarked_len _ _ _ (by omega)]; exact hx
            have hset := iMarked_set xs k (j * 3 + t) (by omega)
            rw [← HC2.out] at hset
            have hc0 := HR2.out.cellAt (j * 3 + t) (by omega)
            rw [List.getElem?_eq_getElem (by omega)] at hc0
            have hf0 := HR2.out.frozenAt (j * 3 + t)
            have hst := (HR2.out.stored (j * 3 + t) (.int .i64 (c2 : Int))).1
            rw [hset] at hst
            have HS := Lib.hid hst
            have HG3 := Lib.hid (grownBy_set HG2.out (j * 3 + t) (.int .i64 (c2 : Int)))
            generalize (iMarked xs k (j * 3 + t))[j * 3 + t] = old at hc0
            clear hst hset hlen HR HG HR2 HG2 HROW
            go_wp2_with fail
            go_roundw
            case rel => exact ⟨t + 1, c2 + 1, by omega, by go_num, by go_num, Lib.hid (by rw [HC2.out]; omega), HS, HG3⟩
            case measure => simp [intOf]; omega
          · obtain rfl : t = 3 := by omega
            clear HR HG HROW
            go_wp2_with fail
            go_roundw
            case rel => exact ⟨j + 1, c2, by omega, by go_num, rfl, Lib.hid (by rw [HC2.out]; omega), Lib.hid (by rw [show (j + 1) * 3 = j * 3 + 3 by omega]; exact HR2.out), HG2⟩
            case measure => simp [intOf]; omega
      · obtain rfl : j = n := by omega
        have he : iMarked xs k (j * 3) = iCells (iMarks k (j * 3)) := by
          unfold iMarked
          rw [List.drop_eq_nil_of_le (by omega), List.append_nil]
        have HR3 := HR.out
        rw [he] at HR3
        go_wp2
        go_ret
        exact ⟨by rw [← HC.out] <;> rfl, HR3, HG.out⟩
end Go.Proofs.Ytjleadlecdcdeaa
