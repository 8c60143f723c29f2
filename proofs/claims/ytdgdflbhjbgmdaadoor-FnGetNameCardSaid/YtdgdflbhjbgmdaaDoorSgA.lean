/-
  Texts that are all signs: the walks of SignsOk, and of the exact law on it.
-/
import Derived.Test.YtdgdflbhjbgmdaaDoorPuN
import Derived.Test.YtdgdflbhjbgmdaaDoorUtA
import Derived.Test.YtdgdflbhjbgmdaaDoorVal
namespace Go.Proofs.YtdgdflbhjbgmdaaDoor
set_option linter.unusedVariables false
open Go.RowKit

def Tabs8 (w : World) : Prop := Lib.Utf8Tabs 0 1 w
theorem Tabs8.later {w w' : World} (h : Tabs8 w) (hb : Below w.heap.size w w') : Tabs8 w' := Utf8Tabs_below h hb

/-- At place i: no sign, and the text is none of signs; or a sign, and the rest tells. -/
theorem next_valid (l : List UInt8) (i : Nat) (h : i < l.length) :
    ((nextL l i).2 = 0 ∧ Lib.validD (l.drop i) = false) ∨
    (1 ≤ (nextL l i).2 ∧ i + (nextL l i).2 ≤ l.length ∧ nextL l i = Lib.decodeL (l.drop i) ∧ ¬ ((Lib.decodeL (l.drop i)).1 = 65533 ∧ (Lib.decodeL (l.drop i)).2 = 1) ∧ Lib.validD (l.drop i) = Lib.validD (l.drop (i + (nextL l i).2))) := by
  have hne : l.drop i ≠ [] := by
    intro e
    have := congrArg List.length e
    rw [List.length_drop] at this
    simp at this
    omega
  have hstep := Lib.validD_step (l.drop i) hne
  have hd := next_dec l i h
  have hge : 1 ≤ (Lib.decodeL (l.drop i)).2 := by rw [Lib.decodeL_N]; exact Lib.decodeN_ge1 _ _ _ _ _
  have hle := Lib.decodeL_le (l.drop i) hne
  rw [List.length_drop] at hle
  unfold told at hd
  by_cases hb : (Lib.decodeL (l.drop i)).1 = 65533 ∧ (Lib.decodeL (l.drop i)).2 = 1
  · rw [if_pos hb] at hd hstep
    exact .inl ⟨by rw [hd], hstep⟩
  · rw [if_neg hb] at hd hstep
    rw [List.drop_drop] at hstep
    rw [hd]
    exact .inr ⟨hge, by omega, rfl, hb, hstep⟩

set_option maxRecDepth 100000 in
set_option maxHeartbeats 1000000 in
theorem specSignsOk_any (s : ByteArray) (w : World) (hs : s.size ≤ 67108864) :
    Calls Tryd.prog 19 #[.string s] w fun e w' => e = .returned (.bool (Lib.validD s.data.toList)) ∧ Below w.heap.size w w' := by
  generalize hV : Lib.validD s.data.toList = V
  have HV := Lib.hid hV
  clear hV
  go_enter Tryd.func19, Tryd.ntmps19
  go_wp2
  go_loopw [3] (fun i wr => ∃ (k : Nat), k ≤ s.size ∧ i = .int .i64 (k : Int) ∧ Hid (Lib.validD (s.data.toList.drop k) = V) ∧ Below w.heap.size w wr) (fun i _ => s.size - (intOf i).toNat)
  case atStart => exact ⟨0, by omega, rfl, Lib.hid (by rw [List.drop_zero]; exact HV.out), Below.refl _ _⟩
  case round =>
    obtain ⟨k, hk, rfl, HD, hB⟩ := hrel
    by_cases hlt : k < s.size
    · have hlen : s.data.toList.length = s.size := by simp
      have hcases := next_valid s.data.toList k (by omega)
      have hnext := fun w => next_any s k w hs hlt
      unfold NextAt at hnext
      generalize nextL s.data.toList k = p at hcases hnext
      obtain ⟨r, n⟩ := p
      simp only at hcases hnext
      have NEXT := Lib.hid hnext
      clear hnext
      rcases hcases with ⟨rfl, h2⟩ | ⟨h1, h2, _, _, h3⟩
      · rw [HD.out] at h2
        have H2 := Lib.hid h2
        clear h2 hlen
        go_wp2_with fail
        refine (NEXT.out _).mono ?_
        rintro e w2 ⟨rfl, hB2⟩
        go_wp2_with fail
        go_ret
        exact ⟨by rw [H2.out]; rfl, hB.trans (hB2.mono hB.size)⟩
      · have H3 : Hid (Lib.validD (s.data.toList.drop (k + n)) = V) := Lib.hid (by rw [← h3]; exact HD.out)
        have hkn : k + n ≤ s.size := by omega
        have hn0 : ((n : Int) == 0) = false := by rw [beq_eq_false_iff_ne]; omega
        clear h3 hlen h2
        go_wp2_with fail
        refine (NEXT.out _).mono ?_
        rintro e w2 ⟨rfl, hB2⟩
        go_wp2_with fail
        go_roundw
        case rel => exact ⟨k + n, hkn, by go_num, H3, hB.trans (hB2.mono hB.size)⟩
        case measure => simp [intOf]; omega
    · obtain rfl : k = s.size := by omega
      have H2 : Hid (V = true) := Lib.hid (by
        rw [← HD.out, List.drop_eq_nil_of_le (by simp)]
        rfl)
      go_wp2_with fail
      go_ret
      exact ⟨by rw [H2.out]; rfl, hB⟩

set_option maxHeartbeats 400000 in
theorem implSignsOk_any (s : ByteArray) (w : World) (hs : s.size ≤ 9223372036854775807) (hT : Tabs8 w) :
    Calls Tryd.prog 14 #[.string s] w fun e w' => e = .returned (.bool (Lib.validD s.data.toList)) ∧ Below w.heap.size w w' := by
  have C := Lib.hid (Tryd.utf8_ValidString s w hs hT)
  clear hT
  go_enter Tryd.func14, Tryd.ntmps14
  go_wp2_with (go_at_call 30; refine C.out.mono ?_; rintro e w1 ⟨rfl, hB1⟩)
  go_ret
  exact ⟨rfl, hB1⟩

set_option maxHeartbeats 400000 in
theorem exactSignsOk_walk (s : ByteArray) (w : World) (hs : s.size ≤ maxLen) (hT : Tabs8 w) :
    Calls Tryd.prog 7 #[.string s] w fun e w' => e = .returned (.bool true) ∧ Below w.heap.size w w' := by
  have hs2 := hs
  have HT := Lib.hid hT
  clear hs hT
  unfold maxLen at hs2
  by_cases h1 : s.size ≤ 1048576
  · generalize hV : Lib.validD s.data.toList = V
    have SPEC : Hid (∀ w, Calls Tryd.prog 19 #[.string s] w fun e w' => e = .returned (.bool V) ∧ Below w.heap.size w w') := Lib.hid (fun w => by rw [← hV]; exact specSignsOk_any s w (by omega))
    have IMPL : Hid (∀ w, Tabs8 w → Calls Tryd.prog 14 #[.string s] w fun e w' => e = .returned (.bool V) ∧ Below w.heap.size w w') := Lib.hid (fun w hT => by rw [← hV]; exact implSignsOk_any s w (by omega) hT)
    clear hV
    go_enter Tryd.func7, Tryd.ntmps7
    go_wp2_with fail
    refine (SPEC.out _).mono ?_
    rintro e w1 ⟨rfl, hB1⟩
    go_wp2_with fail
    refine (IMPL.out _ (HT.out.later hB1)).mono ?_
    rintro e w2 ⟨rfl, hB2⟩
    go_wp2_with fail
    go_ret
    exact ⟨rfl, hB1.trans (hB2.mono hB1.size)⟩
  · go_enter Tryd.func7, Tryd.ntmps7
    go_wp2
    go_ret
    exact ⟨rfl, Below.refl _ _⟩
end Go.Proofs.YtdgdflbhjbgmdaaDoor
