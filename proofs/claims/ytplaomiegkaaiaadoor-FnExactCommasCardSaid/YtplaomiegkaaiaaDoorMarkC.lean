/-
  A slice of texts marked, and looked at again.
-/
import Derived.Test.YtplaomiegkaaiaaDoorGrown
import Derived.Test.YtplaomiegkaaiaaDoorMarkB
import Derived.Deep.RegionHeld3
namespace Go.Proofs.YtplaomiegkaaiaaDoor
set_option linter.unusedVariables false
open Go.RowKit

def marks (k : Nat) : Nat → List ByteArray
  | 0 => []
  | n + 1 => mt k :: marks (k + 1) n
theorem marks_len : ∀ (n k : Nat), (marks k n).length = n
  | 0, _ => rfl
  | n + 1, k => by simp [marks, marks_len n]
theorem marks_at : ∀ (n k j : Nat), j < n → (marks k n)[j]? = some (mt (k + j))
  | 0, _, _, h => by omega
  | n + 1, k, 0, _ => rfl
  | n + 1, k, j + 1, h => by
    simp only [marks, List.getElem?_cons_succ]
    rw [marks_at n (k + 1) j (by omega)]
    congr 2
    omega

/-- The first j of the texts marked. -/
def marked (l : List ByteArray) (k j : Nat) : List ByteArray := marks k j ++ l.drop j
theorem marked_len (l : List ByteArray) (k j : Nat) (h : j ≤ l.length) : (marked l k j).length = l.length := by
  simp [marked, marks_len]; omega
theorem marked_set (l : List ByteArray) (k j : Nat) (h : j < l.length) : (marked l k j).set j (mt (k + j)) = marked l k (j + 1) := by
  apply List.ext_getElem?
  intro i
  simp only [marked, List.getElem?_set, List.getElem?_append, marks_len, List.getElem?_drop, List.length_append, List.length_drop]
  by_cases e : j = i
  · subst e
    rw [if_pos rfl, if_pos (by omega), if_pos (by omega), marks_at _ _ _ (by omega)]
  · rw [if_neg e]
    by_cases h1 : i < j
    · rw [if_pos h1, if_pos (by omega), marks_at _ _ _ h1, marks_at _ _ _ (by omega)]
    · rw [if_neg h1, if_neg (by omega)]
      congr 1
      omega
theorem marked_end (l : List ByteArray) (k : Nat) : marked l k l.length = marks k l.length := by
  simp [marked]


def MarksStrs (v : Value) (n k B : Nat) (w : World) (e : Ending) (w' : World) : Prop :=
  e = .returned (.int .i64 ((k + n : Nat) : Int)) ∧ w'.ownsRow B 9 1 v n ((marks k n).map Value.string) ∧ w.grownBy w' v.ownBlock

set_option maxRecDepth 100000 in
set_option maxHeartbeats 1000000 in
theorem markStrs_any (v : Value) (l : List ByteArray) (k B : Nat) (w : World) (hrow : w.ownsRow B 9 1 v l.length (l.map Value.string)) (hl : l.length ≤ 100000000) (hk : k ≤ 100000000) :
    Calls Tryd.prog 29 #[v, .int .i64 k] w (MarksStrs v l.length k B w) := by
  by_cases h0 : l.length = 0
  · obtain rfl : l = [] := List.eq_nil_of_length_eq_zero h0
    obtain ⟨p, cap, rfl⟩ : ∃ p cap, v = .slice p 0 cap := by
      rcases valsAt_of_row hrow with ⟨_, h⟩ | ⟨g, cap, h, _⟩
      · exact h
      · exact ⟨_, _, h⟩
    have HROW := Lib.hid hrow
    clear hrow h0
    go_enter Tryd.func29, Tryd.ntmps29
    go_wp2
    go_loop [1, 5] (fun m i => i = .int .i64 0 ∧ m = .int .i64 k) (fun _ _ => 0)
    case atStart => exact ⟨rfl, rfl⟩
    case round =>
      obtain ⟨rfl, rfl⟩ := hrel
      go_wp2
      go_ret
      exact ⟨rfl, HROW.out, grownBy_refl _ _⟩
  · obtain ⟨g, cap, rfl⟩ : ∃ g cap, v = .slice (some ⟨g, 0, none⟩) l.length cap := by
      rcases valsAt_of_row hrow with ⟨h, _⟩ | ⟨g, cap, h, _⟩
      · exact absurd (by simpa using h) (fun e : l = [] => h0 (by rw [e]; rfl))
      · exact ⟨g, cap, by simpa using h⟩
    have HROW := Lib.hid hrow
    clear hrow h0
    go_enter Tryd.func29, Tryd.ntmps29
    go_wp2
    go_loopw [1, 5] (fun m i wr => ∃ j : Nat, j ≤ l.length ∧ i = .int .i64 j ∧ m = .int .i64 (k + j : Nat) ∧ Hid (wr.ownsRow B 9 1 (.slice (some ⟨g, 0, none⟩) l.length cap) l.length ((marked l k j).map Value.string)) ∧ w.grownBy wr (some g)) (fun _ i _ => l.length - (intOf i).toNat)
    case atStart => exact ⟨0, Nat.zero_le _, rfl, rfl, HROW, grownBy_refl _ _⟩
    case round =>
      obtain ⟨j, hj, rfl, rfl, hr, hgr⟩ := hrel
      by_cases hlt : j < l.length
      · go_wp2_with (go_at_call 55; refine (markText_any _ _ (by omega)).mono ?_; rintro e w1 ⟨rfl, hB1⟩; have hr1 := row_below hr.out hB1; have hc1 := hr1.cellAt j (by omega); have hf1 := hr1.frozenAt j; have HR1 := Lib.hid hr1; rw [List.getElem?_eq_getElem (by rw [List.length_map, marked_len _ _ _ (by omega)]; exact hlt)] at hc1; clear hr1)
        go_roundw
        case rel =>
          refine ⟨j + 1, by omega, by go_num, by go_num, Lib.hid ?_, grownBy_set (grownBy_below hgr hB1) _ _⟩
          have h := (HR1.out.stored j (.string (mt (k + j)))).1
          rw [← marked_set l k j hlt, List.map_set]
          exact h
        case measure => simp [intOf]; omega
      · obtain rfl : j = l.length := by omega
        rw [marked_end] at hr
        go_wp2
        go_ret
        exact ⟨rfl, hr.out, hgr⟩

set_option maxRecDepth 100000 in
set_option maxHeartbeats 1000000 in
/-- A marked slice is found so. -/
theorem heldStrs_yes (v : Value) (n k : Nat) (w : World) (hv : ValsAt w v ((marks k n).map Value.string)) (hl : n ≤ 100000000) (hk : k ≤ 100000000) :
    Calls Tryd.prog 30 #[v, .int .i64 k] w fun e w' => e = .returned (.int .i64 ((k + n : Nat) : Int)) ∧ Below w.heap.size w w' := by
  by_cases h0 : n = 0
  · subst h0
    obtain ⟨p, cap, rfl⟩ : ∃ p cap, v = .slice p 0 cap := by
      rcases hv with ⟨_, h⟩ | ⟨g, cap, h, _⟩
      · exact h
      · exact ⟨_, _, h⟩
    clear hv
    go_enter Tryd.func30, Tryd.ntmps30
    go_wp2
    go_loop [1, 5] (fun m i => i = .int .i64 0 ∧ m = .int .i64 k) (fun _ _ => 0)
    case atStart => exact ⟨rfl, rfl⟩
    case round =>
      obtain ⟨rfl, rfl⟩ := hrel
      go_wp2
      go_ret
      exact ⟨rfl, Below.refl _ _⟩
  · rcases hv with ⟨h, _⟩ | ⟨g, cap, rfl, hg, hc⟩
    · have := congrArg List.length h
      simp [marks_len] at this
      exact absurd this h0
    simp only [List.length_map, marks_len] at hc ⊢
    have HC := Lib.hid hc
    clear hc h0
    go_enter Tryd.func30, Tryd.ntmps30
    go_wp2
    go_loopw [1, 5] (fun m i wr => ∃ j : Nat, j ≤ n ∧ i = .int .i64 j ∧ m = .int .i64 (k + j : Nat) ∧ Below w.heap.size w wr) (fun _ i _ => n - (intOf i).toNat)
    case atStart => exact ⟨0, Nat.zero_le _, rfl, rfl, Below.refl _ _⟩
    case round =>
      obtain ⟨j, hj, rfl, rfl, hB⟩ := hrel
      by_cases hlt : j < n
      · have hcj : wr.cell? ⟨g, j, none⟩ = some (.string (mt (k + j))) := by
          rw [hB.cell (p := ⟨g, j, none⟩) hg, (HC.out j hlt).1, List.getElem?_map, marks_at _ _ _ hlt]; rfl
        have hgr : g < wr.heap.size := Nat.lt_of_lt_of_le hg hB.size
        have hi1 : (0 : Int) ≤ (j : Int) := by omega
        have hi2 : (j : Int) < (n : Int) := by omega
        generalize hx : mt (k + j) = x at hcj
        have HX := Lib.hid hx
        clear hx
        have hm := fun W => markText_any (k + j) W (by omega)
        rw [HX.out] at hm
        have HM := Lib.hid hm
        clear hm
        go_wp2
        go_region_held3 (fun w' => w'.cell? ⟨g, j, none⟩ = some (.string x)) (first | go_keep | exact (hB1.cell (p := ⟨g, j, none⟩) (by assumption)).trans hcj) (first | (go_at_call 55; refine (HM.out _).mono ?_; rintro e w1 ⟨rfl, hB1⟩))
        have hbw : Below w.heap.size w w1 := hB.trans ((Below.refl _ wr).drew.trans (hB1.mono hB.size))
        go_wp2
        go_roundw
        case rel => exact ⟨j + 1, by omega, by go_num, by go_num, hbw⟩
        case measure => simp [intOf]; omega
      · obtain rfl : j = n := by omega
        go_wp2
        go_ret
        exact ⟨rfl, hB⟩
end Go.Proofs.YtplaomiegkaaiaaDoor
