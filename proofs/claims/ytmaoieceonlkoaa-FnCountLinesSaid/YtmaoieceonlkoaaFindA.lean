/-
  The walks of spec.Find, impl.Find: both are the first index of a sublist.
-/
import Derived.Test.YtmaoieceonlkoaaRows
import Derived.WalkKit
import Derived.WalkSpells
import Derived.Lib.Hide
import Derived.Lib.IndexMore
import Derived.Shelf.Strings.Shaped
import Derived.Test.YtmaoieceonlkoaaShelf
namespace Go.Proofs.Ytmaoieceonlkoaa
set_option linter.unusedVariables false
open Go.RowKit

theorem occ_piece (s t : ByteArray) (k : Nat) (h : k + t.size ≤ s.size) :
    Lib.occAt s.data.toList t.data.toList k = ((s.extract k (k + t.size)).toList == t.toList) := by
  rw [Lib.occAt_iff_take _ _ _ (by simpa using h), Lib.toList_data, Lib.toList_data, Lib.extract_data]
  have e : k + t.size - k = t.data.toList.length := by simp
  rw [e]

theorem no_room (s t : ByteArray) (k : Nat) (h : s.size < k + t.size) (hk : k ≤ s.size) : Lib.occAt s.data.toList t.data.toList k = false := by
  rw [← Bool.not_eq_true]
  intro hc
  rcases Lib.occAt_room hc with h1 | h1
  · simp at h1; omega
  · have : t.size = 0 := by
      have : t.data.toList.length = 0 := by rw [h1]; rfl
      simpa using this
    omega

set_option maxHeartbeats 400000 in
theorem specFind_any (s t : ByteArray) (w : World) (hs : s.size ≤ 1048576) (ht : t.size ≤ 1048576) :
    Calls Try.prog 20 #[.string s, .string t] w fun e w' => e = .returned (.int .i64 (Lib.index s.data.toList t.data.toList)) ∧ w' = w := by
  go_enter Try.func20, Try.ntmps20
  go_wp2
  go_loop [5] (fun i => ∃ k : Nat, k ≤ s.size + 1 ∧ i = .int .i64 k ∧ Hid (∀ j, j < k → Lib.occAt s.data.toList t.data.toList j = false)) (fun i => s.size + 1 - (intOf i).toNat)
  case atStart => exact ⟨0, Nat.zero_le _, rfl, Lib.hid (fun j hj => by omega)⟩
  case round =>
    obtain ⟨k, hk, rfl, hno⟩ := hrel
    by_cases hle : k + t.size ≤ s.size
    · cases hoc : Lib.occAt s.data.toList t.data.toList k
      · have hq : ((s.extract k (k + t.size)).toList == t.toList) = false := by rw [← occ_piece s t k hle]; exact hoc
        have Hoc := Lib.hid hoc
        clear hoc
        go_wp2
        go_round
        case rel => exact ⟨k + 1, by omega, by go_num, Lib.hid (fun j hj => by
          rcases Nat.lt_or_ge j k with h1 | h1
          · exact hno.out j h1
          · obtain rfl : j = k := by omega
            exact Hoc.out)⟩
        case measure => simp [intOf]; omega
      · have hq : ((s.extract k (k + t.size)).toList == t.toList) = true := by rw [← occ_piece s t k hle]; exact hoc
        have Hx := Lib.hid (Lib.index_first (s := s.data.toList) (sub := t.data.toList) (i := k) (by simp; omega) hoc hno.out)
        clear hoc
        go_wp2
        go_ret
        exact ⟨by rw [Hx.out]; rfl, rfl⟩
    · have Hx := Lib.hid (Lib.index_none (s := s.data.toList) (sub := t.data.toList) (fun j hj => by
        rcases Nat.lt_or_ge j k with h1 | h1
        · exact hno.out j h1
        · exact no_room s t j (by omega) (by simpa using hj)))
      go_wp2
      go_ret
      exact ⟨by rw [Hx.out]; rfl, rfl⟩

/-- The library's variable holds some number. -/
def MaxLenAt (w : World) : Prop := ∃ m : Int, w.cell? ⟨0, 0, none⟩ = some (.int .i64 m)
theorem maxLenAt_of_shaped {w : World} (h : w.ShapedOpen Try.prog) : MaxLenAt w :=
  Go.Proofs.cell_of_shapedOpen_int (zero := #[.int .i64 0]) (t := 3) h (of_decide_eq_true (by kernel_rfl)) (by kernel_rfl) rfl (by kernel_rfl) (by kernel_rfl) Try.underlying3
theorem MaxLenAt.lt {w : World} (h : MaxLenAt w) : 0 < w.heap.size := by
  obtain ⟨m, hm⟩ := h
  exact block_lt_of_cell hm
theorem MaxLenAt.below {B : Nat} {w w' : World} (h : MaxLenAt w) (hb : Below B w w') (hB : 0 < B) : MaxLenAt w' := by
  obtain ⟨m, hm⟩ := h
  exact ⟨m, (hb.cell (p := ⟨0, 0, none⟩) hB).trans hm⟩
theorem MaxLenAt.after {w w' : World} (h : MaxLenAt w) (hb : Below w.heap.size w w') : MaxLenAt w' := h.below hb h.lt

set_option maxHeartbeats 400000 in
theorem implFind_any (s t : ByteArray) (w : World) (hm : MaxLenAt w) (hs : s.size < 4294967281) :
    Calls Try.prog 19 #[.string s, .string t] w fun e w' => e = .returned (.int .i64 (Lib.index s.data.toList t.data.toList)) ∧ w' = w := by
  obtain ⟨m, hm⟩ := hm
  have HM := Lib.hid hm
  clear hm
  go_enter Try.func19, Try.ntmps19
  go_wp2_with (go_at_call 36; refine (Try.strings_Index _ _ m _ hs HM.out).mono ?_; rintro e w' ⟨rfl, rfl⟩)
  go_ret
  exact ⟨rfl, rfl⟩

set_option maxHeartbeats 400000 in
theorem exactFind_walk (s t : ByteArray) (w : World) (hs : s.size ≤ maxLen) (ht : t.size ≤ maxLen) (hsh : w.ShapedOpen Try.prog) :
    Calls Try.prog 9 #[.string s, .string t] w fun e w' => e = .returned (.bool true) ∧ Below w.heap.size w w' := by
  unfold maxLen at hs ht
  by_cases h1 : s.size ≤ 1048576
  · by_cases h2 : t.size ≤ 1048576
    · go_enter Try.func9, Try.ntmps9
      go_wp2_with (first | (go_at_call 20; refine (specFind_any _ _ _ h1 h2).mono ?_; rintro e w' ⟨rfl, rfl⟩) | (go_at_call 19; refine (implFind_any _ _ _ (maxLenAt_of_shaped hsh) (by omega)).mono ?_; rintro e w' ⟨rfl, rfl⟩))
      go_ret
      exact ⟨rfl, Below.refl _ _⟩
    · go_enter Try.func9, Try.ntmps9
      go_wp2
      go_ret
      exact ⟨rfl, Below.refl _ _⟩
  · go_enter Try.func9, Try.ntmps9
    go_wp2
    go_ret
    exact ⟨rfl, Below.refl _ _⟩
end Go.Proofs.Ytmaoieceonlkoaa
