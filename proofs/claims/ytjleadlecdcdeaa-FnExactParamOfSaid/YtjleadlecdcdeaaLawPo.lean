/-
  Kinds: the exact law on ParamOf.
-/
import Derived.Test.YtjleadlecdcdeaaPoI
import Derived.Test.YtjleadlecdcdeaaPtS
import Derived.Test.YtjleadlecdcdeaaPtT
import Derived.Test.YtjleadlecdcdeaaPtE
import Derived.Test.YtjleadlecdcdeaaPrO
namespace Go.Proofs.Ytjleadlecdcdeaa
set_option linter.unusedVariables false
open Go.RowKit

set_option maxRecDepth 100000 in
set_option maxHeartbeats 1000000 in
theorem exactParamOf_walk (T U : ByteArray) (a : Option Addr) (len cap : Nat) (l : List Pr) (s : ByteArray) (w : World) (hk : T.size ≤ maxLen ∧ U.size ≤ maxLen ∧ IsPrs w a len cap l) (hs : s.size ≤ maxLen) :
    Calls Try.prog 5 #[.agg #[.string T, .string U, .slice a len cap], .string s] w fun e w' => e = .returned (.bool true) ∧ Below w.heap.size w w' := by
  obtain ⟨hT, hU, hv, rfl, hm, hx⟩ := hk
  unfold maxLen at hm hx hs hT hU
  have B0 : Hid (Below w.heap.size w (w.alloc (.cells #[.string T, .string U, .slice a l.length cap] 43))) := Lib.hid ((Below.refl _ _).alloc (Nat.le_refl _) _)
  have N0 := Lib.hid (new_three w (.string T) (.string U) (.slice a l.length cap) 43)
  have V0 := Lib.hid (hv.later B0.out (Nat.le_refl _))
  have SZ := Lib.hid (fun w hv => szKd_any ⟨T.data.toList, U.data.toList, l⟩ (.slice a l.length cap) 1048576 w hv (by decide) (by decide) (by simp; omega) (by simp; omega) (by show l.length ≤ _; omega) (fun f hf => by have := hx f hf; omega))
  have HX := Lib.hid hx
  change Hid (∀ w, PrsAt w (.slice a l.length cap) l → Calls _ _ #[.agg #[.string T, .string U, .slice a l.length cap], .int .i64 1048576] _ _) at SZ
  clear hx hT hU
  by_cases hbig : 1048576 < s.size
  · have g0 : decide ((1048576 : Int) < (s.size : Int)) = true := by simp; omega
    clear hv
    go_enter Try.func5, Try.ntmps5
    go_wp2_with fail
    go_ret
    exact ⟨rfl, B0.out⟩
  have g0 : decide ((1048576 : Int) < (s.size : Int)) = false := by simp; omega
  have TF := Lib.hid (fun w (hv : PrsAt w (.slice a l.length cap) l) (hl : l.length ≤ 1048576) => toKd_any T U _ l w hv hl)
  have PS := Lib.hid (fun v w (hv : PrsAt w v l) (hl : l.length ≤ 1048576) => specParamOf_any T U v l s w hv (by unfold maxLen; omega) (fun f hf => by have := HX.out f hf; unfold maxLen; omega) (by omega))
  have PI := Lib.hid (fun v w (hv : PrsAt w v l) (hl : l.length ≤ 1048576) => implParamOf_any T U v l s w hv (by unfold maxLen; omega) (fun f hf => by have := HX.out f hf; unfold maxLen; omega) (by omega))
  generalize paramAt s.data.toList l = R at PS PI
  obtain ⟨sv, ok, hV⟩ : ∃ (sv : ByteArray) (ok : Bool), poV R = .tuple #[.string sv, .bool ok] := by
    cases R with
    | none => exact ⟨_, _, rfl⟩
    | some b => exact ⟨_, _, rfl⟩
  rw [hV] at PS PI
  have gp : (sv.toList != sv.toList) = false := by simp
  have gk : (ok != ok) = false := by simp
  clear hv hV hbig hs
  go_enter Try.func5, Try.ntmps5
  go_wp2_with fail
  obtain ⟨w0, hw0⟩ : ∃ x, w.alloc (.cells #[.string T, .string U, .slice a l.length cap] 43) = x := ⟨_, rfl⟩
  rw [hw0] at B0 N0 V0 ⊢
  clear hw0
  refine (SZ.out _ V0.out).mono ?_
  rintro e w1 ⟨⟨r, rfl, hr1, hr2, hr3⟩, hB1⟩
  have B1 := Lib.hid hB1
  have V1 := Lib.hid (V0.out.later hB1 (Nat.le_refl _))
  have H3 := Lib.hid hr3
  obtain ⟨_, _, _⟩ := three_cells ((hB1.block _ (Array.getElem?_eq_some_iff.1 N0.out).1).trans N0.out)
  clear hB1 hr3
  by_cases hneg : r < 0
  · have g1 : decide (r < 0) = true := by simpa using hneg
    clear hneg
    go_wp2_with fail
    go_ret
    exact ⟨rfl, B0.out.trans (B1.out.mono B0.out.size)⟩
  · have g1 : decide (r < 0) = false := by simpa using hneg
    have LL := Lib.hid (H3.out (by omega))
    change Hid (l.length ≤ 1048576) at LL
    clear hneg hr1 hr2 H3
    go_wp2_with fail
    refine (TF.out _ V1.out LL.out).mono ?_
    rintro e w2 ⟨v2, rfl, hr2, hB2⟩
    have B2 := Lib.hid (B1.out.trans (hB2.mono B1.out.size))
    have V2 := Lib.hid (V1.out.later hB2 (Nat.le_refl _))
    have X2 := Lib.hid (prs_of_row hr2)
    clear hB2 hr2
    go_wp2_with fail
    refine (PS.out _ _ X2.out LL.out).mono ?_
    rintro e w3 ⟨rfl, hB3⟩
    have B3 := Lib.hid (B2.out.trans (hB3.mono B2.out.size))
    have V3 := Lib.hid (V2.out.later hB3 (Nat.le_refl _))
    obtain ⟨_, _, _⟩ := three_cells ((B3.out.block _ (Array.getElem?_eq_some_iff.1 N0.out).1).trans N0.out)
    clear hB3
    go_wp2_with fail
    refine (TF.out _ V3.out LL.out).mono ?_
    rintro e w4 ⟨v4, rfl, hr4, hB4⟩
    obtain ⟨p4, c4, rfl⟩ := row_slice hr4
    have B4 := Lib.hid (B3.out.trans (hB4.mono B3.out.size))
    have V4 := Lib.hid (V3.out.later hB4 (Nat.le_refl _))
    have X4 := Lib.hid (prs_of_row hr4)
    have N4 := Lib.hid (new_three w4 (.string T) (.string U) (.slice p4 l.length c4) 26)
    have W4 : Hid (Below w4.heap.size w4 (w4.alloc (.cells #[.string T, .string U, .slice p4 l.length c4] 26))) := Lib.hid ((Below.refl _ _).alloc (Nat.le_refl _) _)
    clear hB4 hr4
    go_wp2_with fail
    have X5a := Lib.hid (X4.out.later W4.out (Nat.le_refl _))
    have V5a := Lib.hid (V4.out.later W4.out (Nat.le_refl _))
    have B5a := Lib.hid (B4.out.trans (W4.out.mono B4.out.size))
    obtain ⟨w5, hw5⟩ : ∃ x, w4.alloc (.cells #[.string T, .string U, .slice p4 l.length c4] 26) = x := ⟨_, rfl⟩
    rw [hw5] at N4 X5a V5a B5a ⊢
    clear hw5 W4
    refine (PI.out _ _ X5a.out LL.out).mono ?_
    rintro e w6 ⟨rfl, hB6⟩
    have B6 := Lib.hid (B5a.out.trans (hB6.mono B5a.out.size))
    have V6 := Lib.hid (V5a.out.later hB6 (Nat.le_refl _))
    have X6 := Lib.hid (X5a.out.later hB6 (Nat.le_refl _))
    have N6 := Lib.hid ((hB6.block _ (Array.getElem?_eq_some_iff.1 N4.out).1).trans N4.out)
    obtain ⟨_, _, _⟩ := three_cells ((B6.out.block _ (Array.getElem?_eq_some_iff.1 N0.out).1).trans N0.out)
    obtain ⟨_, _, _⟩ := three_cells N6.out
    clear hB6
    go_wp2_with fail
    have D6 : Below w6.heap.size w6 w6.drew := (Below.refl _ _).drew
    have V7 := Lib.hid (V6.out.later D6 (Nat.le_refl _))
    have X6d := Lib.hid (X6.out.later D6 (Nat.le_refl _))
    have N6d := Lib.hid ((D6.block _ (Array.getElem?_eq_some_iff.1 N6.out).1).trans N6.out)
    have B6d := Lib.hid (B6.out.trans (D6.mono B6.out.size))
    obtain ⟨_, _, _⟩ := three_cells N6d.out
    clear D6
    go_region_with (first | (go_at_call 19; refine (TF.out _ V7.out LL.out).mono ?_; rintro e w7 ⟨v7, rfl, hr7, hB7⟩; have B7 := Lib.hid (B6d.out.trans (hB7.mono B6d.out.size)); have X7 := Lib.hid (X6d.out.later hB7 (Nat.le_refl _)); have Y7 := Lib.hid (prs_of_row hr7); obtain ⟨_, _, _⟩ := three_cells ((hB7.block _ (Array.getElem?_eq_some_iff.1 N6d.out).1).trans N6d.out); clear hB7 hr7) | (go_at_call 21; refine (eqKd_yes T U _ _ l _ X7.out Y7.out (by have := LL.out; omega)).mono ?_; rintro e w8 ⟨rfl, hB8⟩; have B8 := Lib.hid (B7.out.trans (hB8.mono B7.out.size)); clear hB8))
    all_goals
      go_wp2_with fail
      go_ret
      exact ⟨rfl, B0.out.trans (B8.out.mono B0.out.size)⟩
end Go.Proofs.Ytjleadlecdcdeaa
