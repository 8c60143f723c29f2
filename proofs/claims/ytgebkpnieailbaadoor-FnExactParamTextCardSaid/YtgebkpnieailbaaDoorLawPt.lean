/-
  Parameters: the exact law on ParamText.
-/
import Derived.Test.YtgebkpnieailbaaDoorPrtI
import Derived.Test.YtgebkpnieailbaaDoorPrE
import Derived.Test.YtgebkpnieailbaaDoorPrV
import Derived.Test.YtgebkpnieailbaaDoorPrO
namespace Go.Proofs.YtgebkpnieailbaaDoor
set_option linter.unusedVariables false
open Go.RowKit

set_option maxRecDepth 100000 in
set_option maxHeartbeats 1000000 in
theorem exactParamText_walk (a : Option Addr) (len cap : Nat) (l : List Pr) (w : World) (hl : IsPrs w a len cap l) (ht : Tens w) :
    Calls Tryd.prog 3 #[.slice a len cap] w fun e w' => e = .returned (.bool true) ∧ Below w.heap.size w w' := by
  obtain ⟨hv, rfl, hm, hx⟩ := hl
  unfold maxLen at hm hx
  have V0 := Lib.hid hv
  have HT := Lib.hid ht
  clear ht
  have SZ := Lib.hid (szParamS_any _ l w hv hm hx)
  clear hx
  by_cases hneg : szPrS l 1048576 < 0
  · generalize szPrS l 1048576 = q at SZ hneg
    have g1 : decide (q < 0) = true := by simpa using hneg
    clear hv
    go_enter Tryd.func3, Tryd.ntmps3
    go_wp2_with fail
    refine SZ.out.mono ?_
    rintro e w1 ⟨rfl, hB1⟩
    go_wp2_with fail
    go_ret
    exact ⟨rfl, hB1⟩
  · obtain ⟨b1, b2⟩ := szPrS_ok (l := l) (left := 1048576) (by omega)
    generalize szPrS l 1048576 = q at SZ hneg
    have g1 : decide (q < 0) = false := by simpa using hneg
    have hl1 : l.length ≤ 1048576 := by omega
    have hl2 : totPrL l ≤ 1048576 := by omega
    have TF := Lib.hid (fun w (hv : PrsAt w (.slice a l.length cap) l) => toParamS_any _ l w hv hl1)
    have PS := Lib.hid (fun v w (hv : PrsAt w v l) => specParamText_any v l w hv hl2 hl1)
    have PI := Lib.hid (fun v w (hv : PrsAt w v l) ht => implParamText_any v l w hv hl2 hl1 ht)
    generalize mkB (prT l) = pv at PS PI
    have gp : (pv.toList != pv.toList) = false := by simp
    clear hv b1 b2 hneg
    go_enter Tryd.func3, Tryd.ntmps3
    go_wp2_with fail
    refine SZ.out.mono ?_
    rintro e w1 ⟨rfl, hB1⟩
    have B1 := Lib.hid hB1
    have V1 := Lib.hid (V0.out.later hB1 (Nat.le_refl _))
    clear hB1
    go_wp2_with fail
    refine (TF.out _ V1.out).mono ?_
    rintro e w2 ⟨v2, rfl, hr2, hB2⟩
    have B2 := Lib.hid (B1.out.trans (hB2.mono B1.out.size))
    have V2 := Lib.hid (V1.out.later hB2 (Nat.le_refl _))
    have X2 := Lib.hid (prs_of_row hr2)
    clear hB2 hr2
    go_wp2_with fail
    refine (PS.out _ _ X2.out).mono ?_
    rintro e w3 ⟨rfl, hB3⟩
    have B3 := Lib.hid (B2.out.trans (hB3.mono B2.out.size))
    have V3 := Lib.hid (V2.out.later hB3 (Nat.le_refl _))
    clear hB3
    go_wp2_with fail
    refine (TF.out _ V3.out).mono ?_
    rintro e w4 ⟨v4, rfl, hr4, hB4⟩
    have B4 := Lib.hid (B3.out.trans (hB4.mono B3.out.size))
    have V4 := Lib.hid (V3.out.later hB4 (Nat.le_refl _))
    have X4 := Lib.hid (prs_of_row hr4)
    clear hB4 hr4
    go_wp2_with fail
    refine (PI.out _ _ X4.out (HT.out.later B4.out)).mono ?_
    rintro e w5 ⟨rfl, hB5⟩
    have B5 := Lib.hid (B4.out.trans (hB5.mono B4.out.size))
    have V5 := Lib.hid (V4.out.later hB5 (Nat.le_refl _))
    have X5 := Lib.hid (X4.out.later hB5 (Nat.le_refl _))
    clear hB5
    go_wp2_with fail
    refine (TF.out _ V5.out).mono ?_
    rintro e w6 ⟨v6, rfl, hr6, hB6⟩
    have B6 := Lib.hid (B5.out.trans (hB6.mono B5.out.size))
    have X6 := Lib.hid (X5.out.later hB6 (Nat.le_refl _))
    have Y6 := Lib.hid (prs_of_row hr6)
    clear hB6 hr6
    go_wp2_with fail
    refine (eqPrs_yes _ _ l w6 X6.out Y6.out (by omega)).mono ?_
    rintro e w7 ⟨rfl, hB7⟩
    have B7 := Lib.hid (B6.out.trans (hB7.mono B6.out.size))
    clear hB7
    go_wp2_with fail
    go_ret
    exact ⟨rfl, B7.out⟩
end Go.Proofs.YtgebkpnieailbaaDoor
