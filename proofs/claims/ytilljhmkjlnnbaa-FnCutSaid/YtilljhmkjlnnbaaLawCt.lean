/-
  The law FnCut, for every code.
-/
import Derived.Test.YtilljhmkjlnnbaaLawCx
import Derived.Test.YtilljhmkjlnnbaaDrawSz
import Derived.Test.YtilljhmkjlnnbaaTexts
import Derived.Test.YtilljhmkjlnnbaaJoin
import Derived.Test.YtilljhmkjlnnbaaBig
namespace Go.Proofs.Ytilljhmkjlnnbaa
set_option linter.unusedVariables false
open Go.RowKit

theorem joinL_flat (l : List ByteArray) : joinL [] l = l.flatMap (fun x => x.data.toList) := by
  cases l with
  | nil => rfl
  | cons x r => simp [joinL]
set_option maxRecDepth 100000 in
set_option maxHeartbeats 1000000 in
theorem joined_nil (v : Value) (m : ByteArray) (w : World) (hv : ValsAt w v []) :
    Calls Try.prog 11 #[v, .string m] w fun e w' => e = .returned (.string ⟨#[]⟩) ∧ Below w.heap.size w w' := by
  obtain ⟨p, cap, rfl⟩ : ∃ p cap, v = .slice p 0 cap := by
    rcases hv with ⟨_, h⟩ | ⟨g, cap, h, _⟩
    · exact h
    · exact ⟨_, _, h⟩
  clear hv
  go_enter Try.func11, Try.ntmps11
  go_wp2
  go_loopw [5, 6] (fun o i wr => i = .int .i64 0 ∧ wr.ownsRow w.heap.size 5 1 o ([] : List UInt8).length (([] : List UInt8).map bv) ∧ Below w.heap.size w wr) (fun _ i _ => 0)
  case atStart => exact ⟨rfl, World.ownsRow_lit w #[] 0 (Nat.le_refl _) (by decide) rfl, (Below.refl _ _).alloc (Nat.le_refl _) _⟩
  case round =>
    obtain ⟨rfl, hown, hB⟩ := hrel
    have hback := rowJ_back (P := Try.prog) hown 22 9 5 Try.underlying22 Try.underlying5 Try.underlying9
    go_wp2
    go_ret
    exact ⟨rfl, hB⟩

set_option maxRecDepth 100000 in
set_option maxHeartbeats 2000000 in
theorem lawCut_walk (a0 : Option Addr) (len0 cap0 : Nat) (z0 : List Int) (w : World) (w0 : IsRow .u8 w a0 len0 cap0 z0) :
    Calls Try.prog 3 #[.slice a0 len0 cap0] w fun e w' => e = .returned (.bool true) ∧ Below w.heap.size w w' := by
  have W0 := Lib.hid w0
  clear w0
  by_cases hl : len0 ≤ 1048576
  · go_enter Try.func3, Try.ntmps3
    go_wp2_with fail
    refine (big_no _ _ _ _ hl).mono ?_
    rintro e w1 ⟨rfl, rfl⟩
    go_wp2_with fail
    refine (drawCut_any ⟨a0, len0, cap0, z0⟩ w1 w1 W0.out hl (Below.refl _ _)).mono ?_
    rintro e w2 ⟨s, v, l, rfl, hs, hll, hlb, hrow, hB2⟩
    have R2 := Lib.hid hrow
    have B2 := Lib.hid hB2
    have hlb2 : ∀ x ∈ l, -9223372036854775808 ≤ x ∧ x ≤ 9223372036854775807 := fun x hx => by have := hlb x hx; omega
    have SC : Hid (∀ w, ValsAt w v (l.map iv) → Calls Try.prog 10 #[.string s, v] w (GivesStrs (cutL s l) w)) := Lib.hid (fun w hv => specCut_any s v l w (by omega) (by omega) hv hlb2)
    have IC : Hid (∀ w, ValsAt w v (l.map iv) → Calls Try.prog 8 #[.string s, v] w (GivesStrs (cutL s l) w)) := Lib.hid (fun w hv => implCut_any s v l w (by omega) (by omega) hv hlb2)
    have hpl := cutL_len l s
    have HALL := Lib.hid (cutL_all l s)
    have HSZ := Lib.hid (cutL_size l s)
    generalize cutL s l = p at SC IC hpl HALL HSZ
    obtain ⟨pa, pc, rfl⟩ : ∃ p cap, v = .slice p l.length cap := vals_slice (valsAt_of_row R2.out)
    have g1 : decide ((p.length : Int) ≤ (l.length : Int) + 1) = true := by simp; omega
    clear hrow hB2 hlb hlb2
    go_wp2_with fail
    refine (IC.out _ (valsAt_of_row R2.out)).mono ?_
    rintro e w3 ⟨v3, rfl, hr3, hB3⟩
    have R3 := Lib.hid hr3
    have R23 := Lib.hid (row_below R2.out hB3)
    have B3 := Lib.hid (B2.out.trans (hB3.mono B2.out.size))
    clear hr3 hB3
    go_wp2_with fail
    refine (SC.out _ (valsAt_of_row R23.out)).mono ?_
    rintro e w4 ⟨v4, rfl, hr4, hB4⟩
    have R4 := Lib.hid hr4
    have R34 := Lib.hid (row_below R3.out hB4)
    have B4 := Lib.hid (B3.out.trans (hB4.mono B3.out.size))
    clear hr4 hB4
    go_wp2_with fail
    refine (sameTexts_any v3 v4 p p _ (valsAt_of_row R34.out) (valsAt_of_row R4.out) (by omega) (by omega)).mono ?_
    rintro e w5 ⟨rfl, hq5⟩
    rw [decide_eq_true (rfl : p = p)]
    have V5 := Lib.hid ((valsAt_of_row R34.out).of_heap hq5.1)
    have B5 := Lib.hid (B4.out.trans (hq5.2.mono B4.out.size))
    clear hq5
    have JN : Hid (Calls Try.prog 11 #[v3, .string ⟨#[]⟩] w5 fun e w' => e = .returned (.string s) ∧ Below w5.heap.size w5 w') := Lib.hid (by
      by_cases h0 : p = []
      · subst h0
        have hse : s = ⟨#[]⟩ := by
          apply ByteArray.ext
          apply Array.ext'
          exact HALL.out.symm
        rw [hse]
        exact joined_nil v3 _ w5 V5.out
      · have h := joined_any v3 p ⟨#[]⟩ w5 V5.out h0 (by omega) (fun y hy => by have := HSZ.out y hy; omega) (by decide)
        rw [show (⟨#[]⟩ : ByteArray).data.toList = [] from rfl, joinL_flat, HALL.out] at h
        exact h)
    obtain ⟨p3, c3, hv3⟩ : ∃ q cap, v3 = .slice q p.length cap := by
      rcases V5.out with ⟨h, q, cap, hh⟩ | ⟨g, cap, hh, _, _⟩
      · have := congrArg List.length h
        rw [List.length_map, List.length_nil] at this
        exact ⟨q, cap, by rw [this]; exact hh⟩
      · exact ⟨_, cap, by rw [hh, List.length_map]⟩
    subst hv3
    go_wp2_with fail
    refine JN.out.mono ?_
    rintro e w6 ⟨rfl, hB6⟩
    have B6 := Lib.hid (B5.out.trans (hB6.mono B5.out.size))
    clear hB6
    go_wp2_with fail
    go_ret
    exact ⟨rfl, B6.out⟩
  · go_enter Try.func3, Try.ntmps3
    go_wp2_with fail
    refine (big_yes _ _ _ _ (by omega)).mono ?_
    rintro e w1 ⟨rfl, rfl⟩
    go_wp2_with fail
    go_ret
    exact ⟨rfl, Below.refl _ _⟩
end Go.Proofs.Ytilljhmkjlnnbaa
