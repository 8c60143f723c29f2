/-
  The laws FnFind and FnCountLines, for every code.
-/
import Derived.Test.YtmaoieceonlkoaaDrawFi
import Derived.Test.YtmaoieceonlkoaaLinesC
namespace Go.Proofs.Ytmaoieceonlkoaa
set_option linter.unusedVariables false
open Go.RowKit

theorem occ_prefix_of {l t r : List UInt8} {j : Nat} (h : Lib.occAt l t j = true) (hle : l <+: r) : Lib.occAt r t j = true := by
  unfold Lib.occAt at h ⊢
  rw [List.isPrefixOf_iff_prefix] at h ⊢
  obtain ⟨q, rfl⟩ := hle
  rcases Nat.lt_or_ge l.length j with h1 | h1
  · rw [List.drop_eq_nil_of_le (by omega)] at h
    have := List.eq_nil_of_prefix_nil h
    rw [this]
    exact List.nil_prefix
  · rw [List.drop_append_of_le_length h1]
    exact h.trans (List.prefix_append _ _)
theorem find_behind (s t : ByteArray) : 0 ≤ Lib.index (s ++ t).data.toList t.data.toList := by
  rcases Lib.index_spec (s ++ t).data.toList t.data.toList with ⟨_, h⟩ | ⟨i, h, _⟩
  · exfalso
    have h1 := h s.size (by simp)
    rw [← Bool.not_eq_true] at h1
    apply h1
    unfold Lib.occAt
    rw [List.isPrefixOf_iff_prefix]
    simp
  · omega
theorem find_ahead (s t : ByteArray) (i : Nat) (h : Lib.index s.data.toList t.data.toList = (i : Int)) (hi : 0 < i) :
    0 < t.size ∧ Lib.index (s.extract 0 (i + t.size - 1)).data.toList t.data.toList = -1 := by
  obtain ⟨h1, h2, h3⟩ := index_facts s t i h
  have ht : 0 < t.size := by
    rcases Nat.eq_zero_or_pos t.size with h0 | h0
    · exfalso
      have hn : t.data.toList = [] := List.eq_nil_of_length_eq_zero (by simpa using h0)
      have := h3 0 hi
      rw [hn] at this
      simp [Lib.occAt] at this
    · exact h0
  refine ⟨ht, ?_⟩
  apply Lib.index_none
  intro j hj
  rw [← Bool.not_eq_true]
  intro hoc
  have hroom := Lib.occAt_room hoc
  have hlen : (s.extract 0 (i + t.size - 1)).data.toList.length ≤ i + t.size - 1 := by rw [Lib.extract_data, List.length_take]; omega
  have hji : j < i := by
    rcases hroom with h4 | h4
    · have h5 : t.data.toList.length = t.size := by simp
      omega
    · have h5 : t.data.toList.length = 0 := by rw [h4]; rfl
      have h6 : t.data.toList.length = t.size := by simp
      omega
  have hp : (s.extract 0 (i + t.size - 1)).data.toList <+: s.data.toList := by
    rw [Lib.extract_data]
    simp only [List.drop_zero]
    exact List.take_prefix _ _
  have := occ_prefix_of hoc hp
  rw [h3 j hji] at this
  cases this
theorem find_here (s t : ByteArray) (i : Nat) (h : Lib.index s.data.toList t.data.toList = (i : Int)) : i + t.size ≤ s.size ∧ ((s.extract i (i + t.size)).toList == t.toList) = true := by
  have hr := index_room s t i h
  obtain ⟨h1, h2, h3⟩ := index_facts s t i h
  exact ⟨hr, by rw [← occ_piece s t i hr]; exact h2⟩

set_option maxRecDepth 100000 in
set_option maxHeartbeats 1000000 in
theorem lawFind_walk (a0 : Option Addr) (len0 cap0 : Nat) (z0 : List Int) (w : World) (w0 : IsRow .u8 w a0 len0 cap0 z0) (hsh : w.ShapedOpen Try.prog) :
    Calls Try.prog 4 #[.slice a0 len0 cap0] w fun e w' => e = .returned (.bool true) ∧ Below w.heap.size w w' := by
  have W0 := Lib.hid w0
  have HM := Lib.hid (maxLenAt_of_shaped hsh)
  clear w0 hsh
  by_cases hl : len0 ≤ 1048576
  · go_enter Try.func4, Try.ntmps4
    go_wp2_with fail
    refine (big_no _ _ _ _ hl).mono ?_
    rintro e w1 ⟨rfl, rfl⟩
    go_wp2_with fail
    refine (drawFind_any ⟨a0, len0, cap0, z0⟩ w1 w1 W0.out hl (Below.refl _ _)).mono ?_
    rintro e w2 ⟨s, t, rfl, hs, ht, hB2⟩
    have B2 := Lib.hid hB2
    clear hB2
    have M2 := Lib.hid (HM.out.after B2.out)
    go_wp2_with fail
    refine (implFind_any s t _ M2.out (by omega)).mono ?_
    rintro e w3 ⟨rfl, rfl⟩
    go_wp2_with fail
    refine (specFind_any s t _ (by omega) (by omega)).mono ?_
    rintro e w3 ⟨rfl, rfl⟩
    rcases Int.lt_or_le (Lib.index s.data.toList t.data.toList) 0 with hneg | hpos
    · have hm1 : Lib.index s.data.toList t.data.toList = -1 := by have := Lib.index_ge s.data.toList t.data.toList; omega
      rw [hm1]
      have hb0 := find_behind s t
      clear hneg hm1
      generalize hx : Lib.index (s ++ t).data.toList t.data.toList = x at hb0
      have HX := Lib.hid hx
      clear hx
      go_wp2_with fail
      refine (implFind_any (s ++ t) t _ M2.out (by simp; omega)).mono ?_
      rw [HX.out]
      rintro e w3 ⟨rfl, rfl⟩
      go_wp2_with fail
      go_ret
      exact ⟨rfl, B2.out⟩
    · obtain ⟨i, hi⟩ := Int.eq_ofNat_of_zero_le hpos
      obtain ⟨hroom, hpc⟩ := find_here s t i hi
      rw [hi]
      by_cases h0 : i = 0
      · subst h0
        clear hpos hi
        simp only [Nat.zero_add] at hpc hroom
        go_wp2_with fail
        go_ret
        exact ⟨rfl, B2.out⟩
      · obtain ⟨htp, hx⟩ := find_ahead s t i hi (by omega)
        have hi0 : ((i : Int) == 0) = false := by rw [beq_eq_false_iff_ne]; omega
        have HX := Lib.hid hx
        clear hpos hi hx h0
        go_wp2_with fail
        refine (implFind_any (s.extract 0 (i + t.size - 1)) t _ M2.out (by simp; omega)).mono ?_
        rw [HX.out]
        rintro e w3 ⟨rfl, rfl⟩
        go_wp2_with fail
        go_ret
        exact ⟨rfl, B2.out⟩
  · go_enter Try.func4, Try.ntmps4
    go_wp2_with (go_at_call 11; refine (big_yes _ _ _ _ (by omega)).mono ?_; rintro e w1 ⟨rfl, rfl⟩)
    go_ret
    exact ⟨rfl, Below.refl _ _⟩
end Go.Proofs.Ytmaoieceonlkoaa
