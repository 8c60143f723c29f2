/-
  Cut: the walk of spec's.
-/
import Derived.Test.YtilljhmkjlnnbaaCutP
import Derived.Test.YtilljhmkjlnnbaaIntS
namespace Go.Proofs.Ytilljhmkjlnnbaa
set_option linter.unusedVariables false
open Go.RowKit

theorem drop_at (l : List Int) (k : Nat) (h : k < l.length) : l.drop k = l.getD k 0 :: l.drop (k + 1) := by
  rw [List.drop_eq_getElem_cons h, List.getD_eq_getElem?_getD, List.getElem?_eq_getElem h]
  rfl
theorem vals_int {w : World} {v : Value} {l : List Int} (h : ValsAt w v (l.map iv)) (k : Nat) (hk : k < l.length) : ∃ g cap, v = .slice (some ⟨g, 0, none⟩) l.length cap ∧ w.cell? ⟨g, k, none⟩ = some (.int .i64 (l.getD k 0)) ∧ g < w.heap.size := by
  rcases h with ⟨h, _⟩ | ⟨g, cap, rfl, hg, hc⟩
  · have := congrArg List.length h
    rw [List.length_map, List.length_nil] at this
    omega
  · refine ⟨g, cap, by simp, ?_, hg⟩
    have := (hc k (by simpa using hk)).1
    rw [this, List.getElem?_map, List.getElem?_eq_getElem hk, List.getD_eq_getElem?_getD, List.getElem?_eq_getElem hk]
    rfl
theorem vals_slice {w : World} {v : Value} {l : List Int} (h : ValsAt w v (l.map iv)) : ∃ p cap, v = .slice p l.length cap := by
  rcases h with ⟨h, p, cap, rfl⟩ | ⟨g, cap, rfl, _, _⟩
  · have := congrArg List.length h
    rw [List.length_map, List.length_nil] at this
    exact ⟨p, cap, by rw [this]⟩
  · exact ⟨some ⟨g, 0, none⟩, cap, by rw [List.length_map]⟩

set_option maxRecDepth 100000 in
set_option maxHeartbeats 2000000 in
theorem specCut_any (s : ByteArray) (v : Value) (l : List Int) (w : World) (hs : s.size ≤ 67108864) (hl : l.length ≤ 1048576) (hv : ValsAt w v (l.map iv)) (hb : ∀ x ∈ l, -9223372036854775808 ≤ x ∧ x ≤ 9223372036854775807) :
    Calls Try.prog 10 #[.string s, v] w (GivesStrs (cutL s l) w) := by
  obtain ⟨i0, hi, hz0, hz1, hz2⟩ := info_parts infoStr
  obtain ⟨T, hT⟩ : ∃ T, cutL s l = T := ⟨_, rfl⟩
  rw [hT]
  have HT := Lib.hid hT
  have HV := Lib.hid hv
  have HB := Lib.hid hb
  obtain ⟨p, cap, rfl⟩ := vals_slice hv
  clear hT hv hb
  go_enter Try.func10, Try.ntmps10
  go_wp2
  go_loopw [0, 5, 6] (fun t o i wr => ∃ (k : Nat) (u : ByteArray) (acc : List ByteArray), k ≤ l.length ∧ u.size ≤ s.size ∧ t = .string u ∧ i = .int .i64 (k : Int) ∧ Hid (acc ++ cutL u (l.drop k) = T) ∧ acc.length ≤ k ∧ wr.ownsRow w.heap.size 9 1 o acc.length (acc.map Value.string) ∧ Below w.heap.size w wr) (fun _ _ i _ => l.length - (intOf i).toNat)
  case atStart => exact ⟨0, s, [], Nat.zero_le _, Nat.le_refl _, rfl, rfl, HT, Nat.zero_le _, World.ownsRow_lit w #[] 0 (Nat.le_refl _) (by decide) rfl, (Below.refl _ _).alloc (Nat.le_refl _) _⟩
  case round =>
    obtain ⟨k, u, acc, hk, hu, rfl, rfl, HP, hacc, hown, hB⟩ := hrel
    have hsz := hB.size
    by_cases h0 : u.size = 0
    · have hue : u = ⟨#[]⟩ := by
        apply ByteArray.ext
        apply Array.ext'
        exact List.eq_nil_of_length_eq_zero (by simpa using h0)
      have HN : Hid (acc = T) := Lib.hid (by rw [← HP.out, cutL_empty _ _ h0, List.append_nil])
      subst hue
      clear h0 HP
      by_cases hlt : k < l.length
      · have g1 : decide ((k : Int) < (l.length : Int)) = true := by simp; omega
        go_wp2_with fail
        go_ret
        exact ⟨_, rfl, by rw [← HN.out]; exact hown, hB⟩
      · have g1 : decide ((k : Int) < (l.length : Int)) = false := by simp; omega
        go_wp2_with fail
        go_ret
        exact ⟨_, rfl, by rw [← HN.out]; exact hown, hB⟩
    · have hue : u.toList.isEmpty = false := by
        rw [Lib.toList_data]
        cases e : u.data.toList with
        | nil =>
          have : u.data.toList.length = u.size := by simp
          rw [e] at this
          simp at this
          omega
        | cons a r => rfl
      by_cases hlt : k < l.length
      · have g1 : decide ((k : Int) < (l.length : Int)) = true := by simp; omega
        obtain ⟨g, c2, hgv, hcell0, hgl⟩ := vals_int HV.out k hlt
        injection hgv with hgv1 hgv2 hgv3
        subst hgv1 hgv3
        have hcell : wr.cell? ⟨g, k, none⟩ = some (.int .i64 (l.getD k 0)) := (hB.cell (p := ⟨g, k, none⟩) hgl).trans hcell0
        have hnb := HB.out (l.getD k 0) (by rw [List.getD_eq_getElem?_getD, List.getElem?_eq_getElem hlt]; exact List.getElem_mem _)
        have HP2 := HP.out
        rw [drop_at l k hlt, cutL, if_neg h0] at HP2
        have hcn := cutN_le (l.getD k 0) u.size
        generalize hq : l.getD k 0 = q at hcell hnb HP2 hcn
        obtain ⟨hq1, hq2⟩ := hnb
        obtain ⟨m, hm⟩ : ∃ m, cutN q u.size = m := ⟨_, rfl⟩
        rw [hm] at HP2 hcn
        have HST : Hid ((acc ++ [u.extract 0 m]) ++ cutL (u.extract m u.size) (l.drop (k + 1)) = T) := Lib.hid (by rw [← HP2]; simp)
        have hes : (u.extract m u.size).size ≤ s.size := by rw [ByteArray.size_extract]; omega
        have i1 : (0 : Int) ≤ (k : Int) := by omega
        have i2 : (k : Int) < (l.length : Int) := by omega
        have i3 : (0 : Int) ≤ (m : Int) := by omega
        have i4 : (m : Int) ≤ (u.size : Int) := by omega
        unfold cutN at hm
        clear hq hcell0 HP HP2 h0
        by_cases hneg : q < 0
        · rw [if_pos hneg] at hm
          subst hm
          have g2 : decide (q < 0) = true := by simpa using hneg
          have g3 : decide ((u.size : Int) < 0) = false := by simp
          rw [show u.extract 0 0 = ByteArray.empty by simp, show u.extract 0 u.size = u by simp] at HST
          clear hneg hes
          go_wp2_with (at_builtin; refine wpList_append_own _ rfl _ _ 27 rfl w.heap.size 9 i0 (.string ⟨#[]⟩) 1 16 Try.underlying27 hi hz0 hz1 hz2 rfl (by decide) _ _ _ rfl (hown.alloc _) ⟨wr.heap.size, 0, none⟩ 1 1 [.string (ByteArray.empty)] rfl rfl (cell_one_new _ _ _) (by simp [Value.oneCell']) (by unfold maxLen; omega) (by omega) (by simp; omega) ?_; intro v' w1 hown' hgrow _)
          have hB1 : Below w.heap.size w w1 := (hB.alloc hsz _).grown hgrow (by simp; omega) (fun k e => (hown.lt k e).1)
          have hrow : w1.ownsRow w.heap.size 9 1 v' (acc ++ [ByteArray.empty]).length ((acc ++ [ByteArray.empty]).map Value.string) := by simpa using hown'
          clear hown' hown
          go_wp2_with fail
          go_roundw
          case rel => exact ⟨k + 1, u, acc ++ [ByteArray.empty], by omega, by first | exact hes | omega, rfl, by go_num, HST, by simp; omega, hrow, hB1⟩
          case measure => simp [intOf]; omega
        · rw [if_neg hneg] at hm
          have g2 : decide (q < 0) = false := by simpa using hneg
          by_cases hbig : (u.size : Int) < q
          · rw [if_pos hbig] at hm
            subst hm
            have g3 : decide ((u.size : Int) < q) = true := by simpa using hbig
            rw [show u.extract 0 u.size = u by simp, show u.extract u.size u.size = ByteArray.empty by simp] at HST
            clear hneg hbig hes
            go_wp2_with (at_builtin; refine wpList_append_own _ rfl _ _ 27 rfl w.heap.size 9 i0 (.string ⟨#[]⟩) 1 16 Try.underlying27 hi hz0 hz1 hz2 rfl (by decide) _ _ _ rfl (hown.alloc _) ⟨wr.heap.size, 0, none⟩ 1 1 [.string (u)] rfl rfl (cell_one_new _ _ _) (by simp [Value.oneCell']) (by unfold maxLen; omega) (by omega) (by simp; omega) ?_; intro v' w1 hown' hgrow _)
            have hB1 : Below w.heap.size w w1 := (hB.alloc hsz _).grown hgrow (by simp; omega) (fun k e => (hown.lt k e).1)
            have hrow : w1.ownsRow w.heap.size 9 1 v' (acc ++ [u]).length ((acc ++ [u]).map Value.string) := by simpa using hown'
            clear hown' hown
            go_wp2_with fail
            go_roundw
            case rel => exact ⟨k + 1, ByteArray.empty, acc ++ [u], by omega, by first | exact hes | (simp; done) | omega, rfl, by go_num, HST, by simp; omega, hrow, hB1⟩
            case measure => simp [intOf]; omega
          · rw [if_neg hbig] at hm
            obtain rfl : q = (m : Int) := by omega
            have g3 : decide ((u.size : Int) < (m : Int)) = false := by simp; omega
            clear hneg hbig hm
            go_wp2_with (at_builtin; refine wpList_append_own _ rfl _ _ 27 rfl w.heap.size 9 i0 (.string ⟨#[]⟩) 1 16 Try.underlying27 hi hz0 hz1 hz2 rfl (by decide) _ _ _ rfl (hown.alloc _) ⟨wr.heap.size, 0, none⟩ 1 1 [.string (u.extract 0 m)] rfl rfl (cell_one_new _ _ _) (by simp [Value.oneCell']) (by unfold maxLen; omega) (by omega) (by simp; omega) ?_; intro v' w1 hown' hgrow _)
            have hB1 : Below w.heap.size w w1 := (hB.alloc hsz _).grown hgrow (by simp; omega) (fun k e => (hown.lt k e).1)
            have hrow : w1.ownsRow w.heap.size 9 1 v' (acc ++ [u.extract 0 m]).length ((acc ++ [u.extract 0 m]).map Value.string) := by simpa using hown'
            clear hown' hown
            go_wp2_with fail
            go_roundw
            case rel => exact ⟨k + 1, u.extract m u.size, acc ++ [u.extract 0 m], by omega, by first | exact hes | (simp; done) | omega, rfl, by go_num, HST, by simp; omega, hrow, hB1⟩
            case measure => simp [intOf]; omega
      · obtain rfl : k = l.length := by omega
        have HN : Hid (acc ++ [u] = T) := Lib.hid (by rw [← HP.out, List.drop_of_length_le (Nat.le_refl _), cutL, if_neg h0])
        have g1 : decide ((l.length : Int) < (l.length : Int)) = false := by simp
        clear HP h0
        go_wp2_with (at_builtin; refine wpList_append_own _ rfl _ _ 27 rfl w.heap.size 9 i0 (.string ⟨#[]⟩) 1 16 Try.underlying27 hi hz0 hz1 hz2 rfl (by decide) _ _ _ rfl (hown.alloc _) ⟨wr.heap.size, 0, none⟩ 1 1 [.string (u)] rfl rfl (cell_one_new _ _ _) (by simp [Value.oneCell']) (by unfold maxLen; omega) (by omega) (by simp; omega) ?_; intro v' w1 hown' hgrow _)
        have hB1 : Below w.heap.size w w1 := (hB.alloc hsz _).grown hgrow (by simp; omega) (fun k e => (hown.lt k e).1)
        have hrow : w1.ownsRow w.heap.size 9 1 v' (acc ++ [u]).length ((acc ++ [u]).map Value.string) := by simpa using hown'
        clear hown' hown
        go_wp2_with fail
        go_ret
        exact ⟨_, rfl, by rw [← HN.out]; exact hrow, hB1⟩
end Go.Proofs.Ytilljhmkjlnnbaa
