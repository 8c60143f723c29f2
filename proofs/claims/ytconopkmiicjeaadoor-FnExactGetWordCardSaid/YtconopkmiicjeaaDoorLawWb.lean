/-
  The walks of the laws FnExactPutString, FnExactPutWord, FnExactNString, FnExactGetWord.
-/
import Derived.Test.YtconopkmiicjeaaDoorIwB
import Derived.Test.YtconopkmiicjeaaDoorWdF
namespace Go.Proofs.YtconopkmiicjeaaDoor
set_option linter.unusedVariables false
open Go.RowKit

set_option maxHeartbeats 400000 in
theorem exactPutString_walk (s : ByteArray) (w : World) (hs : s.size ≤ maxLen) (ht : Tens w) :
    Calls Tryd.prog 7 #[.string s] w fun e w' => e = .returned (.bool true) ∧ Below w.heap.size w w' := by
  have hs2 := hs
  have HT := Lib.hid ht
  clear hs ht
  unfold maxLen at hs2
  by_cases h1 : s.size ≤ 1048576
  · generalize hL : putStr s.data.toList = L
    have SPEC : Hid (∀ w, Calls Tryd.prog 15 #[.string s] w fun e w' => e = .returned (.string ⟨L.toArray⟩) ∧ Below w.heap.size w w') := Lib.hid (fun w => by rw [← hL]; exact specPutString_any s w (by omega))
    have IMPL : Hid (∀ w, Tens w → Calls Tryd.prog 13 #[.string s] w fun e w' => e = .returned (.string ⟨L.toArray⟩) ∧ Below w.heap.size w w') := Lib.hid (fun w ht => by rw [← hL]; exact implPutString_any s w (by omega) ht)
    clear hL
    go_enter Tryd.func7, Tryd.ntmps7
    go_wp2_with fail
    refine (SPEC.out _).mono ?_
    rintro e w1 ⟨rfl, hB1⟩
    go_wp2_with fail
    refine (IMPL.out _ (HT.out.later hB1)).mono ?_
    rintro e w2 ⟨rfl, hB2⟩
    go_wp2_with fail
    go_ret
    exact ⟨rfl, hB1.trans (hB2.mono hB1.size)⟩
  · go_enter Tryd.func7, Tryd.ntmps7
    go_wp2
    go_ret
    exact ⟨rfl, Below.refl _ _⟩

set_option maxHeartbeats 400000 in
theorem exactPutWord_walk (s : ByteArray) (w : World) (hs : s.size ≤ maxLen) (ht : Tens w) :
    Calls Tryd.prog 8 #[.string s] w fun e w' => e = .returned (.bool true) ∧ Below w.heap.size w w' := by
  have hs2 := hs
  have HT := Lib.hid ht
  clear hs ht
  unfold maxLen at hs2
  by_cases h1 : s.size ≤ 1048576
  · generalize hL : putWd s.data.toList = L
    have SPEC : Hid (∀ w, Calls Tryd.prog 16 #[.string s] w fun e w' => e = .returned (.string ⟨L.toArray⟩) ∧ Below w.heap.size w w') := Lib.hid (fun w => by rw [← hL]; exact specPutWord_any s w (by omega))
    have IMPL : Hid (∀ w, Tens w → Calls Tryd.prog 14 #[.string s] w fun e w' => e = .returned (.string ⟨L.toArray⟩) ∧ Below w.heap.size w w') := Lib.hid (fun w ht => by rw [← hL]; exact implPutWord_any s w (by omega) ht)
    clear hL
    go_enter Tryd.func8, Tryd.ntmps8
    go_wp2_with fail
    refine (SPEC.out _).mono ?_
    rintro e w1 ⟨rfl, hB1⟩
    go_wp2_with fail
    refine (IMPL.out _ (HT.out.later hB1)).mono ?_
    rintro e w2 ⟨rfl, hB2⟩
    go_wp2_with fail
    go_ret
    exact ⟨rfl, hB1.trans (hB2.mono hB1.size)⟩
  · go_enter Tryd.func8, Tryd.ntmps8
    go_wp2
    go_ret
    exact ⟨rfl, Below.refl _ _⟩

set_option maxHeartbeats 400000 in
theorem exactNString_walk (s : ByteArray) (b : Bool) (w : World) (hs : s.size ≤ maxLen) (ht : Tens w) :
    Calls Tryd.prog 10 #[.string s, .bool b] w fun e w' => e = .returned (.bool true) ∧ Below w.heap.size w w' := by
  have hs2 := hs
  have HT := Lib.hid ht
  clear hs ht
  unfold maxLen at hs2
  by_cases h1 : s.size ≤ 1048576
  · generalize hL : nstr b s.data.toList = L
    have SPEC : Hid (∀ w, Calls Tryd.prog 26 #[.string s, .bool b] w fun e w' => e = .returned (.string ⟨L.toArray⟩) ∧ Below w.heap.size w w') := Lib.hid (fun w => by rw [← hL]; exact specNString_any s b w (by omega))
    have IMPL : Hid (∀ w, Tens w → Calls Tryd.prog 25 #[.string s, .bool b] w fun e w' => e = .returned (.string ⟨L.toArray⟩) ∧ Below w.heap.size w w') := Lib.hid (fun w ht => by rw [← hL]; exact implNString_any s b w (by omega) ht)
    clear hL
    go_enter Tryd.func10, Tryd.ntmps10
    go_wp2_with fail
    refine (SPEC.out _).mono ?_
    rintro e w1 ⟨rfl, hB1⟩
    go_wp2_with fail
    refine (IMPL.out _ (HT.out.later hB1)).mono ?_
    rintro e w2 ⟨rfl, hB2⟩
    go_wp2_with fail
    go_ret
    exact ⟨rfl, hB1.trans (hB2.mono hB1.size)⟩
  · go_enter Tryd.func10, Tryd.ntmps10
    go_wp2
    go_ret
    exact ⟨rfl, Below.refl _ _⟩

set_option maxHeartbeats 400000 in
theorem exactGetWord_walk (s : ByteArray) (p : Int) (w : World) (hs : s.size ≤ maxLen) (hp : (Lit.int .i64 p).wf = true) (ht : Tens w) (he : Errs w) (hg : w.heap.size > 2 ∧ w.heap.size > 3 ∧ w.heap.size > 1) :
    Calls Tryd.prog 9 #[.string s, .int .i64 p] w fun e w' => e = .returned (.bool true) ∧ Below w.heap.size w w' := by
  have hs2 := hs
  have hp2 : -9223372036854775808 ≤ p ∧ p ≤ 9223372036854775807 := by simpa [Lit.wf, IntKind.min, IntKind.max, IntKind.signed, IntKind.bits] using hp
  obtain ⟨hp3, hp4⟩ := hp2
  have DD : Hid (∀ w', Below w.heap.size w w' → Decs w'.heap.size w') := Lib.hid (fun w' hb => by
    have h := (⟨ht, he, hg.1, hg.2.1, hg.2.2, Nat.le_refl _⟩ : Decs w.heap.size w).below hb
    have hz := hb.size
    exact ⟨h.tens, h.errs, Nat.lt_of_lt_of_le h.lt1 hz, Nat.lt_of_lt_of_le h.lt2 hz, Nat.lt_of_lt_of_le h.lt3 hz, Nat.le_refl _⟩)
  clear hs hp ht he hg
  unfold maxLen at hs2
  by_cases h1 : s.size ≤ 1048576
  · obtain ⟨T, hT⟩ : ∃ T, getWd s p = T := ⟨_, rfl⟩
    have SPEC : Hid (∀ w, Calls Tryd.prog 19 #[.string s, .int .i64 p] w (TellsWord T w)) := Lib.hid (fun w => by rw [← hT]; exact specGetWord_any s p w h1 hp3 hp4)
    have IMPL : Hid (∀ w, Decs w.heap.size w → Calls Tryd.prog 17 #[.string s, .int .i64 p] w (TellsWord T w)) := Lib.hid (fun w hd => by rw [← hT, ← wdI_eq]; exact implGetWord_any s p w h1 hp3 hp4 hd)
    clear hT
    go_enter Tryd.func9, Tryd.ntmps9
    go_wp2_with fail
    refine (SPEC.out _).mono ?_
    rintro e w1 ⟨hc1, hB1⟩
    have B1 := Lib.hid hB1
    clear hB1
    rcases hc1 with ⟨o, j, hT, rfl⟩ | ⟨hT, rfl⟩
    · have HT := Lib.hid hT
      clear hT
      go_wp2_with fail
      refine (IMPL.out _ (DD.out _ B1.out)).mono ?_
      rintro e w2 ⟨hc2, hB2⟩
      have B2 := Lib.hid hB2
      clear hB2
      rcases hc2 with ⟨o2, j2, hT2, rfl⟩ | ⟨hT2, rfl⟩
      · rw [HT.out] at hT2
        injection hT2 with hT2
        injection hT2 with h2 h3
        obtain rfl : o2 = o := (ByteArray.ext (Array.ext' h2)).symm
        subst h3
        clear h2
        go_wp2_with fail
        go_ret
        exact ⟨rfl, B1.out.trans (B2.out.mono B1.out.size)⟩
      · rw [HT.out] at hT2
        cases hT2
    · have HT := Lib.hid hT
      clear hT
      go_wp2_with fail
      refine (IMPL.out _ (DD.out _ B1.out)).mono ?_
      rintro e w2 ⟨hc2, hB2⟩
      have B2 := Lib.hid hB2
      clear hB2
      rcases hc2 with ⟨o2, j2, hT2, rfl⟩ | ⟨hT2, rfl⟩
      · rw [HT.out] at hT2
        cases hT2
      · clear hT2
        go_wp2_with fail
        go_ret
        exact ⟨rfl, B1.out.trans (B2.out.mono B1.out.size)⟩
  · go_enter Tryd.func9, Tryd.ntmps9
    go_wp2
    go_ret
    exact ⟨rfl, Below.refl _ _⟩
end Go.Proofs.YtconopkmiicjeaaDoor
