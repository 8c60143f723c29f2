/-
  A slice of Addr marked.
-/
import Derived.Test.YtplaomiegkaaiaaDoorAdA
import Derived.Test.YtplaomiegkaaiaaDoorMarkA
import Derived.Test.YtplaomiegkaaiaaDoorRowG
import Derived.Deep.RegionHeld3
namespace Go.Proofs.YtplaomiegkaaiaaDoor
set_option linter.unusedVariables false
open Go.RowKit

def adMarks (k : Nat) : Nat → List Ad
  | 0 => []
  | n + 1 => ⟨mtL k, mtL (k + 1), mtL (k + 2)⟩ :: adMarks (k + 3) n
theorem adMarks_len : ∀ (n k : Nat), (adMarks k n).length = n
  | 0, _ => rfl
  | n + 1, k => by simp [adMarks, adMarks_len n]
theorem adMarks_snoc : ∀ (n k : Nat), adMarks k (n + 1) = adMarks k n ++ [⟨mtL (k + 3 * n), mtL (k + 3 * n + 1), mtL (k + 3 * n + 2)⟩]
  | 0, k => rfl
  | n + 1, k => by
    rw [adMarks, adMarks_snoc n (k + 3), adMarks, List.cons_append, show k + 3 + 3 * n = k + 3 * (n + 1) by omega]
theorem adMarks_at : ∀ (n k j : Nat) (h : j < n), (adMarks k n)[j]? = some ⟨mtL (k + 3 * j), mtL (k + 3 * j + 1), mtL (k + 3 * j + 2)⟩
  | 0, _, _, h => by omega
  | n + 1, k, 0, _ => rfl
  | n + 1, k, j + 1, h => by
    rw [adMarks, List.getElem?_cons_succ, adMarks_at n (k + 3) j (by omega), show k + 3 + 3 * j = k + 3 * (j + 1) by omega]
/-- The first j marked. -/
def adMarked (l : List Ad) (k j : Nat) : List Ad := adMarks k j ++ l.drop j
theorem adMarked_len (l : List Ad) (k j : Nat) (h : j ≤ l.length) : (adMarked l k j).length = l.length := by
  simp [adMarked, adMarks_len]; omega
theorem adMarked_set (l : List Ad) (k j : Nat) (h : j < l.length) :
    (((adCells (adMarked l k j)).set (j * 3) (.string (mt (k + 3 * j)))).set (j * 3 + 1) (.string (mt (k + 3 * j + 1)))).set (j * 3 + 2) (.string (mt (k + 3 * j + 2))) = adCells (adMarked l k (j + 1)) := by
  have hl : (adCells (adMarks k j)).length = j * 3 := by rw [adCells_len, adMarks_len]
  have ht : adCells (l.drop j) = .string (mkB l[j].name) :: .string (mkB l[j].box) :: .string (mkB l[j].host) :: adCells (l.drop (j + 1)) := by
    rw [List.drop_eq_getElem_cons h]
    rfl
  unfold adMarked
  rw [adMarks_snoc]
  simp only [show ∀ a b : List Ad, adCells (a ++ b) = adCells a ++ adCells b from fun a b => by simp [adCells], ht]
  rw [List.set_append_right _ _ (by omega), hl, Nat.sub_self, List.set_cons_zero, List.set_append_right _ _ (by omega), hl, show j * 3 + 1 - j * 3 = 1 by omega, List.set_cons_succ, List.set_cons_zero, List.set_append_right _ _ (by omega), hl, show j * 3 + 2 - j * 3 = 2 by omega, List.set_cons_succ, List.set_cons_succ, List.set_cons_zero, List.append_assoc]
  rfl

def MarksAds (v : Value) (n k B : Nat) (w : World) (e : Ending) (w' : World) : Prop :=
  e = .returned (.int .i64 ((k + 3 * n : Nat) : Int)) ∧ w'.ownsRow B 29 3 v n (adCells (adMarks k n)) ∧ w.grownBy w' v.ownBlock

set_option maxRecDepth 100000 in
set_option maxHeartbeats 1000000 in
theorem markAds_any (v : Value) (l : List Ad) (k B : Nat) (w : World) (hrow : w.ownsRow B 29 3 v l.length (adCells l)) (hl : l.length ≤ 10000000) (hk : k ≤ 10000000) :
    Calls Tryd.prog 32 #[v, .int .i64 k] w (MarksAds v l.length k B w) := by
  by_cases h0 : l.length = 0
  · obtain rfl : l = [] := List.eq_nil_of_length_eq_zero h0
    obtain ⟨p, cap, rfl⟩ : ∃ p cap, v = .slice p 0 cap := row_slice hrow
    have HROW := Lib.hid hrow
    clear hrow h0
    go_enter Tryd.func32, Tryd.ntmps32
    go_wp2
    go_loop [1, 5] (fun m i => i = .int .i64 0 ∧ m = .int .i64 k) (fun _ _ => 0)
    case atStart => exact ⟨rfl, rfl⟩
    case round =>
      obtain ⟨rfl, rfl⟩ := hrel
      go_wp2
      go_ret
      exact ⟨rfl, HROW.out, grownBy_refl _ _⟩
  · obtain ⟨g, cap, rfl⟩ : ∃ g cap, v = .slice (some ⟨g, 0, none⟩) l.length cap := row_slice1 hrow (by omega)
    have HROW := Lib.hid hrow
    clear hrow h0
    go_enter Tryd.func32, Tryd.ntmps32
    go_wp2
    go_loopw [1, 5] (fun m i wr => ∃ j c : Nat, j ≤ l.length ∧ i = .int .i64 j ∧ m = .int .i64 (c : Int) ∧ Hid (c = k + 3 * j) ∧ Hid (wr.ownsRow B 29 3 (.slice (some ⟨g, 0, none⟩) l.length cap) l.length (adCells (adMarked l k j))) ∧ w.grownBy wr (some g)) (fun _ i _ => l.length - (intOf i).toNat)
    case atStart => exact ⟨0, k, Nat.zero_le _, rfl, rfl, Lib.hid rfl, HROW, grownBy_refl _ _⟩
    case round =>
      obtain ⟨j, c, hj, rfl, rfl, HC, hr, hgr⟩ := hrel
      by_cases hlt : j < l.length
      · have hlm := adMarked_len l k j hj
        have i1 : (0 : Int) ≤ (j : Int) := by omega
        have i2 : (j : Int) < (l.length : Int) := by omega
        have hset := adMarked_set l k j hlt
        rw [← HC.out] at hset
        have HSET := Lib.hid hset
        have HLEN : Hid (j * 3 + 2 < (adCells (adMarked l k j)).length) := Lib.hid (by rw [adCells_len, hlm]; omega)
        have hcb : c ≤ 40000000 := by rw [HC.out]; omega
        have HM0 : Hid (∀ W, Calls Tryd.prog 55 #[.int .i64 (c : Int)] W fun e w' => e = .returned (.string (mt c)) ∧ Below W.heap.size W w') := Lib.hid (fun W => markText_any c W (by omega))
        have HM1 : Hid (∀ W, Calls Tryd.prog 55 #[.int .i64 ((c : Int) + 1)] W fun e w' => e = .returned (.string (mt (c + 1))) ∧ Below W.heap.size W w') := Lib.hid (fun W => markText_any (c + 1) W (by omega))
        have HM2 : Hid (∀ W, Calls Tryd.prog 55 #[.int .i64 ((c : Int) + 2)] W fun e w' => e = .returned (.string (mt (c + 2))) ∧ Below W.heap.size W w') := Lib.hid (fun W => markText_any (c + 2) W (by omega))
        generalize hx0 : mt c = x0 at HM0 HSET
        generalize hx1 : mt (c + 1) = x1 at HM1 HSET
        generalize hx2 : mt (c + 2) = x2 at HM2 HSET
        obtain ⟨Cs, hCs⟩ : ∃ Cs, adCells (adMarked l k j) = Cs := ⟨_, rfl⟩
        rw [hCs] at HSET HLEN hr
        have HG0 := Lib.hid hgr
        clear hlm hset hgr hCs hx0 hx1 hx2
        have HR0 := Lib.hid hr.out
        clear hr
        have hc0 := HR0.out.cellAt (j * 3) (by have := HLEN.out; omega)
        rw [List.getElem?_eq_getElem (by have := HLEN.out; omega)] at hc0
        have hf0 := HR0.out.frozenAt (j * 3)
        clear hc0 hf0
        go_wp2_with fail
        refine (HM0.out _).mono ?_
        rintro e w0 ⟨rfl, hB0⟩
        have hr0 := row_lat HR0.out hB0
        have hc0 := hr0.cellAt (j * 3) (by (try simp only [List.length_set]); have := HLEN.out; omega)
        rw [List.getElem?_eq_getElem (by (try simp only [List.length_set]); have := HLEN.out; omega)] at hc0
        have hf0 := hr0.frozenAt (j * 3)
        have HS0 := Lib.hid (hr0.stored (j * 3) (.string x0)).1
        have HG1 := Lib.hid (grownBy_set (grownBy_below HG0.out hB0) (j * 3) (.string x0))
        clear hr0 hB0
        go_wp2_with fail
        refine (HM1.out _).mono ?_
        rintro e w1 ⟨rfl, hB1⟩
        have hr1 := row_lat HS0.out hB1
        have hc1 := hr1.cellAt (j * 3 + 1) (by (try simp only [List.length_set]); have := HLEN.out; omega)
        rw [List.getElem?_eq_getElem (by (try simp only [List.length_set]); have := HLEN.out; omega)] at hc1
        have hf1 := hr1.frozenAt (j * 3 + 1)
        have HS1 := Lib.hid (hr1.stored (j * 3 + 1) (.string x1)).1
        have HG2 := Lib.hid (grownBy_set (grownBy_below HG1.out hB1) (j * 3 + 1) (.string x1))
        clear hr1 hB1
        go_wp2_with fail
        refine (HM2.out _).mono ?_
        rintro e w2 ⟨rfl, hB2⟩
        have hr2 := row_lat HS1.out hB2
        have hc2 := hr2.cellAt (j * 3 + 2) (by (try simp only [List.length_set]); have := HLEN.out; omega)
        rw [List.getElem?_eq_getElem (by (try simp only [List.length_set]); have := HLEN.out; omega)] at hc2
        have hf2 := hr2.frozenAt (j * 3 + 2)
        have HS2 := Lib.hid (hr2.stored (j * 3 + 2) (.string x2)).1
        have HG3 := Lib.hid (grownBy_set (grownBy_below HG2.out hB2) (j * 3 + 2) (.string x2))
        clear hr2 hB2
        go_wp2_with fail
        go_roundw
        case rel =>
          refine ⟨j + 1, c + 3, by omega, by go_num, by go_num, Lib.hid (by rw [HC.out]; omega), Lib.hid ?_, HG3.out⟩
          have h := HS2.out
          rw [HSET.out] at h
          exact h
        case measure => simp [intOf]; omega
      · obtain rfl : j = l.length := by omega
        have he : adMarked l k l.length = adMarks k l.length := by simp [adMarked]
        rw [he] at hr
        go_wp2
        go_ret
        exact ⟨by rw [← HC.out] <;> rfl, hr.out, hgr⟩

end Go.Proofs.YtplaomiegkaaiaaDoor
