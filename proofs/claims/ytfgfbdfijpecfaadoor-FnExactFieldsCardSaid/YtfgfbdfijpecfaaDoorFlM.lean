/-
  A slice of fields marked, and looked at again.
-/
import Derived.Test.YtfgfbdfijpecfaaDoorFlG
import Derived.Test.YtfgfbdfijpecfaaDoorFlE
import Derived.Test.YtfgfbdfijpecfaaDoorMarkA
import Derived.Deep.RegionHeld3
namespace Go.Proofs.YtfgfbdfijpecfaaDoor
set_option linter.unusedVariables false
open Go.RowKit

def flMarks (k : Nat) : Nat → List Fl
  | 0 => []
  | n + 1 => ⟨mtL k, mtL (k + 1)⟩ :: flMarks (k + 2) n
theorem flMarks_len : ∀ (n k : Nat), (flMarks k n).length = n
  | 0, _ => rfl
  | n + 1, k => by simp [flMarks, flMarks_len n]
theorem flMarks_snoc : ∀ (n k : Nat), flMarks k (n + 1) = flMarks k n ++ [⟨mtL (k + 2 * n), mtL (k + 2 * n + 1)⟩]
  | 0, k => rfl
  | n + 1, k => by
    rw [flMarks, flMarks_snoc n (k + 2), flMarks, List.cons_append, show k + 2 + 2 * n = k + 2 * (n + 1) by omega]
theorem flMarks_at : ∀ (n k j : Nat) (h : j < n), (flMarks k n)[j]? = some ⟨mtL (k + 2 * j), mtL (k + 2 * j + 1)⟩
  | 0, _, _, h => by omega
  | n + 1, k, 0, _ => rfl
  | n + 1, k, j + 1, h => by
    rw [flMarks, List.getElem?_cons_succ, flMarks_at n (k + 2) j (by omega), show k + 2 + 2 * j = k + 2 * (j + 1) by omega]
/-- The first j of the events marked. -/
def flMarked (l : List Fl) (k j : Nat) : List Fl := flMarks k j ++ l.drop j
theorem flMarked_len (l : List Fl) (k j : Nat) (h : j ≤ l.length) : (flMarked l k j).length = l.length := by
  simp [flMarked, flMarks_len]; omega
theorem flMarked_set (l : List Fl) (k j : Nat) (h : j < l.length) :
    ((flCells (flMarked l k j)).set (j * 2) (.string (mt (k + 2 * j)))).set (j * 2 + 1) (.string (mt (k + 2 * j + 1))) = flCells (flMarked l k (j + 1)) := by
  have hl : (flCells (flMarks k j)).length = j * 2 := by rw [flCells_len, flMarks_len]
  have ht : flCells (l.drop j) = .string (mkB l[j].name) :: .string (mkB l[j].body) :: flCells (l.drop (j + 1)) := by
    rw [List.drop_eq_getElem_cons h]
    rfl
  unfold flMarked
  rw [flMarks_snoc]
  simp only [show ∀ a b : List Fl, flCells (a ++ b) = flCells a ++ flCells b from fun a b => by simp [flCells], ht]
  rw [List.set_append_right _ _ (by omega), hl, Nat.sub_self, List.set_cons_zero, List.set_append_right _ _ (by omega), hl, show j * 2 + 1 - j * 2 = 1 by omega, List.set_cons_succ, List.set_cons_zero, List.append_assoc]
  rfl

def MarksFls (v : Value) (n k B : Nat) (w : World) (e : Ending) (w' : World) : Prop :=
  e = .returned (.int .i64 ((k + 2 * n : Nat) : Int)) ∧ w'.ownsRow B 30 2 v n (flCells (flMarks k n)) ∧ w.grownBy w' v.ownBlock

set_option maxRecDepth 100000 in
set_option maxHeartbeats 1000000 in
theorem markFls_any (v : Value) (l : List Fl) (k B : Nat) (w : World) (hrow : w.ownsRow B 30 2 v l.length (flCells l)) (hl : l.length ≤ 10000000) (hk : k ≤ 10000000) :
    Calls Tryd.prog 15 #[v, .int .i64 k] w (MarksFls v l.length k B w) := by
  by_cases h0 : l.length = 0
  · obtain rfl : l = [] := List.eq_nil_of_length_eq_zero h0
    obtain ⟨p, cap, rfl⟩ : ∃ p cap, v = .slice p 0 cap := row_slice hrow
    have HROW := Lib.hid hrow
    clear hrow h0
    go_enter Tryd.func15, Tryd.ntmps15
    go_wp2
    go_loop [1, 5] (fun m i => i = .int .i64 0 ∧ m = .int .i64 k) (fun _ _ => 0)
    case atStart => exact ⟨rfl, rfl⟩
    case round =>
      obtain ⟨rfl, rfl⟩ := hrel
      go_wp2
      go_ret
      exact ⟨rfl, HROW.out, grownBy_refl _ _⟩
  · obtain ⟨g, cap, rfl⟩ : ∃ g cap, v = .slice (some ⟨g, 0, none⟩) l.length cap := row_slice1 hrow (by omega)
    have HROW := Lib.hid hrow
    clear hrow h0
    go_enter Tryd.func15, Tryd.ntmps15
    go_wp2
    go_loopw [1, 5] (fun m i wr => ∃ j c : Nat, j ≤ l.length ∧ i = .int .i64 j ∧ m = .int .i64 (c : Int) ∧ Hid (c = k + 2 * j) ∧ Hid (wr.ownsRow B 30 2 (.slice (some ⟨g, 0, none⟩) l.length cap) l.length (flCells (flMarked l k j))) ∧ w.grownBy wr (some g)) (fun _ i _ => l.length - (intOf i).toNat)
    case atStart => exact ⟨0, k, Nat.zero_le _, rfl, rfl, Lib.hid rfl, HROW, grownBy_refl _ _⟩
    case round =>
      obtain ⟨j, c, hj, rfl, rfl, HC, hr, hgr⟩ := hrel
      by_cases hlt : j < l.length
      · have hlm := flMarked_len l k j hj
        obtain ⟨x1, x2⟩ := flCells_at (flMarked l k j) j (by omega)
        have hc0 := (hr.out.cellAt (j * 2) (by omega)).trans x1
        have hf0 := hr.out.frozenAt (j * 2)
        have i1 : (0 : Int) ≤ (j : Int) := by omega
        have i2 : (j : Int) < (l.length : Int) := by omega
        have hset := flMarked_set l k j hlt
        rw [← HC.out] at hset
        have HSET := Lib.hid hset
        have hlen : j * 2 + 1 < (flCells ((flMarked l k j))).length := by rw [flCells_len, hlm]; omega
        have HLEN := Lib.hid hlen
        have hcb : c ≤ 30000000 := by rw [HC.out]; omega
        have HM0 : Hid (∀ W, Calls Tryd.prog 31 #[.int .i64 (c : Int)] W fun e w' => e = .returned (.string (mt c)) ∧ Below W.heap.size W w') := Lib.hid (fun W => markText_any c W (by omega))
        have HM : Hid (∀ W, Calls Tryd.prog 31 #[.int .i64 ((c : Int) + 1)] W fun e w' => e = .returned (.string (mt (c + 1))) ∧ Below W.heap.size W w') := Lib.hid (fun W => markText_any (c + 1) W (by omega))
        generalize hx : mt (c + 1) = x at HM HSET
        generalize hx0 : mt c = x0 at HM0 HSET
        generalize mkB (flMarked l k j)[j].name = q at hc0
        have HG0 := Lib.hid hgr
        clear x1 x2 hlm hset hlen hgr hx hx0
        have HR0 := Lib.hid hr.out
        clear hr
        go_wp2_with fail
        refine (HM0.out _).mono ?_
        rintro e w0 ⟨rfl, hB0⟩
        have hr0 := row_lat HR0.out hB0
        have hc0' := hr0.cellAt (j * 2) (by have := HLEN.out; omega)
        rw [List.getElem?_eq_getElem (by have := HLEN.out; omega)] at hc0'
        have hf0' := hr0.frozenAt (j * 2)
        have HS := Lib.hid (hr0.stored (j * 2) (.string x0)).1
        have HG := Lib.hid (grownBy_set (grownBy_below HG0.out hB0) (j * 2) (.string x0))
        clear hr0 hB0 hc0 hf0
        go_wp2_with fail
        refine (HM.out _).mono ?_
        rintro e w1 ⟨rfl, hB1⟩
        have hr1 := row_lat HS.out hB1
        have hc1 := hr1.cellAt (j * 2 + 1) (by omega)
        have hf1 := hr1.frozenAt (j * 2 + 1)
        have HR1 := Lib.hid hr1
        rw [List.getElem?_eq_getElem (by rw [List.length_set]; exact HLEN.out)] at hc1
        clear hr1
        go_wp2_with fail
        go_roundw
        case rel =>
          refine ⟨j + 1, c + 2, by omega, by go_num, by go_num, Lib.hid (by rw [HC.out]; omega), Lib.hid ?_, grownBy_set (grownBy_below HG.out hB1) _ _⟩
          have h := (HR1.out.stored (j * 2 + 1) (.string x)).1
          rw [HSET.out] at h
          exact h
        case measure => simp [intOf]; omega
      · obtain rfl : j = l.length := by omega
        have he : flMarked l k l.length = flMarks k l.length := by simp [flMarked]
        rw [he] at hr
        go_wp2
        go_ret
        exact ⟨by rw [← HC.out] <;> rfl, hr.out, hgr⟩

end Go.Proofs.YtfgfbdfijpecfaaDoor
