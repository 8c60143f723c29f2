/-
  The exact laws of PutFields and BodyOf, given the walks of impl's.
-/
import Derived.Test.YtfgfbdfijpecfaaFlV
import Derived.Test.YtfgfbdfijpecfaaFlE
import Derived.Test.YtfgfbdfijpecfaaLawBo
namespace Go.Proofs.Ytfgfbdfijpecfaa
set_option linter.unusedVariables false
open Go.RowKit

/-- A slice of fields that came in. -/
def IsFls (w : World) (a : Option Addr) (len cap : Nat) (l : List Fl) : Prop :=
  FlsAt w (.slice a len cap) l ∧ len = l.length ∧ len ≤ maxLen ∧ ∀ f ∈ l, f.name.length ≤ maxLen ∧ f.body.length ≤ maxLen

set_option maxRecDepth 100000 in
set_option maxHeartbeats 1000000 in
theorem exactPut_walk (IP : PutIs) (a : Option Addr) (len cap : Nat) (l : List Fl) (w : World) (hl : IsFls w a len cap l) :
    Calls Try.prog 7 #[.slice a len cap] w fun e w' => e = .returned (.bool true) ∧ Below w.heap.size w w' := by
  obtain ⟨hv, rfl, hm, hx⟩ := hl
  unfold maxLen at hm hx
  have V0 := Lib.hid hv
  have SZ := Lib.hid (szFieldS_any _ l w hv hm hx)
  clear hx
  by_cases hneg : szS l 1048576 < 0
  · generalize szS l 1048576 = q at SZ hneg
    have g1 : decide (q < 0) = true := by simpa using hneg
    clear hv
    go_enter Try.func7, Try.ntmps7
    go_wp2_with fail
    refine SZ.out.mono ?_
    rintro e w1 ⟨rfl, hB1⟩
    go_wp2_with fail
    go_ret
    exact ⟨rfl, hB1⟩
  · obtain ⟨b1, b2⟩ := szS_ok (l := l) (left := 1048576) (by omega)
    generalize szS l 1048576 = q at SZ hneg
    have g1 : decide (q < 0) = false := by simpa using hneg
    have hl1 : l.length ≤ 1048576 := by omega
    have hl2 : (putL l).length ≤ 8388608 := by omega
    have TF := Lib.hid (fun w (hv : FlsAt w (.slice a l.length cap) l) => toFieldS_any _ l w hv hl1)
    have PS := Lib.hid (fun v w (hv : FlsAt w v l) => specPut_any v l w hv (by omega) (by omega))
    have PI := Lib.hid (fun v w (hv : FlsAt w v l) => IP v l w hv hl2 hl1)
    generalize mkB (putL l) = pv at PS PI
    have gp : (pv.toList != pv.toList) = false := by simp
    clear hv b1 b2 hneg
    go_enter Try.func7, Try.ntmps7
    go_wp2_with fail
    refine SZ.out.mono ?_
    rintro e w1 ⟨rfl, hB1⟩
    have B1 := Lib.hid hB1
    have V1 := Lib.hid (V0.out.later hB1 (Nat.le_refl _))
    clear hB1
    go_wp2_with fail
    refine (TF.out _ V1.out).mono ?_
    rintro e w2 ⟨v2, rfl, hr2, hB2⟩
    have B2 := Lib.hid (B1.out.trans (hB2.mono B1.out.size))
    have V2 := Lib.hid (V1.out.later hB2 (Nat.le_refl _))
    have X2 := Lib.hid (fls_of_row hr2)
    clear hB2 hr2
    go_wp2_with fail
    refine (PS.out _ _ X2.out).mono ?_
    rintro e w3 ⟨rfl, hB3⟩
    have B3 := Lib.hid (B2.out.trans (hB3.mono B2.out.size))
    have V3 := Lib.hid (V2.out.later hB3 (Nat.le_refl _))
    clear hB3
    go_wp2_with fail
    refine (TF.out _ V3.out).mono ?_
    rintro e w4 ⟨v4, rfl, hr4, hB4⟩
    have B4 := Lib.hid (B3.out.trans (hB4.mono B3.out.size))
    have V4 := Lib.hid (V3.out.later hB4 (Nat.le_refl _))
    have X4 := Lib.hid (fls_of_row hr4)
    clear hB4 hr4
    go_wp2_with fail
    refine (PI.out _ _ X4.out).mono ?_
    rintro e w5 ⟨rfl, hB5⟩
    have B5 := Lib.hid (B4.out.trans (hB5.mono B4.out.size))
    have V5 := Lib.hid (V4.out.later hB5 (Nat.le_refl _))
    have X5 := Lib.hid (X4.out.later hB5 (Nat.le_refl _))
    clear hB5
    go_wp2_with fail
    refine (TF.out _ V5.out).mono ?_
    rintro e w6 ⟨v6, rfl, hr6, hB6⟩
    have B6 := Lib.hid (B5.out.trans (hB6.mono B5.out.size))
    have X6 := Lib.hid (X5.out.later hB6 (Nat.le_refl _))
    have Y6 := Lib.hid (fls_of_row hr6)
    clear hB6 hr6
    go_wp2_with fail
    refine (eqFls_yes _ _ l w6 X6.out Y6.out (by omega)).mono ?_
    rintro e w7 ⟨rfl, hB7⟩
    have B7 := Lib.hid (B6.out.trans (hB7.mono B6.out.size))
    clear hB7
    go_wp2_with fail
    go_ret
    exact ⟨rfl, B7.out⟩

set_option maxRecDepth 100000 in
set_option maxHeartbeats 1000000 in
theorem exactBody_walk (IB : BodyIs) (a : Option Addr) (len cap : Nat) (l : List Fl) (s : ByteArray) (w : World) (hl : IsFls w a len cap l) (hs : s.size ≤ maxLen) :
    Calls Try.prog 6 #[.slice a len cap, .string s] w fun e w' => e = .returned (.bool true) ∧ Below w.heap.size w w' := by
  obtain ⟨hv, rfl, hm, hx⟩ := hl
  unfold maxLen at hm hx hs
  have V0 := Lib.hid hv
  have SZ := Lib.hid (szFieldS_any _ l w hv hm hx)
  clear hx
  by_cases hbig : 1048576 < s.size
  · have g0 : decide ((1048576 : Int) < (s.size : Int)) = true := by simp; omega
    clear hv
    go_enter Try.func6, Try.ntmps6
    go_wp2_with fail
    go_ret
    exact ⟨rfl, Below.refl _ _⟩
  have g0 : decide ((1048576 : Int) < (s.size : Int)) = false := by simp; omega
  by_cases hneg : szS l 1048576 < 0
  · generalize szS l 1048576 = q at SZ hneg
    have g1 : decide (q < 0) = true := by simpa using hneg
    clear hv hbig
    go_enter Try.func6, Try.ntmps6
    go_wp2_with fail
    refine SZ.out.mono ?_
    rintro e w1 ⟨rfl, hB1⟩
    go_wp2_with fail
    go_ret
    exact ⟨rfl, hB1⟩
  · obtain ⟨b1, b2⟩ := szS_ok (l := l) (left := 1048576) (by omega)
    generalize szS l 1048576 = q at SZ hneg
    have g1 : decide (q < 0) = false := by simpa using hneg
    have hl1 : l.length ≤ 1048576 := by omega
    have hl2 : (putL l).length ≤ 8388608 := by omega
    have hss : s.size ≤ 1048576 := by omega
    have TF := Lib.hid (fun w (hv : FlsAt w (.slice a l.length cap) l) => toFieldS_any _ l w hv hl1)
    have PS := Lib.hid (fun v w (hv : FlsAt w v l) => specBody_any v l s w hv (by unfold maxLen; omega) (fun f hf => by have := putL_mem hf; rw [mkB_size]; unfold maxLen; omega) (by omega))
    have PI := Lib.hid (fun v w (hv : FlsAt w v l) => IB v l s w hv hss hl2 hl1)
    generalize bodyOf s.data.toList l = R at PS PI
    obtain ⟨sv, ok, hV⟩ : ∃ (sv : ByteArray) (ok : Bool), bodyV R = .tuple #[.string sv, .bool ok] := by
      cases R with
      | none => exact ⟨_, _, rfl⟩
      | some b => exact ⟨_, _, rfl⟩
    rw [hV] at PS PI
    have gp : (sv.toList != sv.toList) = false := by simp
    have gk : (ok != ok) = false := by simp
    clear hv b1 b2 hneg hV hbig hs
    go_enter Try.func6, Try.ntmps6
    go_wp2_with fail
    refine SZ.out.mono ?_
    rintro e w1 ⟨rfl, hB1⟩
    have B1 := Lib.hid hB1
    have V1 := Lib.hid (V0.out.later hB1 (Nat.le_refl _))
    clear hB1
    go_wp2_with fail
    refine (TF.out _ V1.out).mono ?_
    rintro e w2 ⟨v2, rfl, hr2, hB2⟩
    have B2 := Lib.hid (B1.out.trans (hB2.mono B1.out.size))
    have V2 := Lib.hid (V1.out.later hB2 (Nat.le_refl _))
    have X2 := Lib.hid (fls_of_row hr2)
    clear hB2 hr2
    go_wp2_with fail
    refine (PS.out _ _ X2.out).mono ?_
    rintro e w3 ⟨rfl, hB3⟩
    have B3 := Lib.hid (B2.out.trans (hB3.mono B2.out.size))
    have V3 := Lib.hid (V2.out.later hB3 (Nat.le_refl _))
    clear hB3
    go_wp2_with fail
    refine (TF.out _ V3.out).mono ?_
    rintro e w4 ⟨v4, rfl, hr4, hB4⟩
    have B4 := Lib.hid (B3.out.trans (hB4.mono B3.out.size))
    have V4 := Lib.hid (V3.out.later hB4 (Nat.le_refl _))
    have X4 := Lib.hid (fls_of_row hr4)
    clear hB4 hr4
    go_wp2_with fail
    refine (PI.out _ _ X4.out).mono ?_
    rintro e w5 ⟨rfl, hB5⟩
    have B5 := Lib.hid (B4.out.trans (hB5.mono B4.out.size))
    have V5 := Lib.hid (V4.out.later hB5 (Nat.le_refl _))
    have X5 := Lib.hid (X4.out.later hB5 (Nat.le_refl _))
    clear hB5
    go_wp2_with fail
    refine (TF.out _ V5.out).mono ?_
    rintro e w6 ⟨v6, rfl, hr6, hB6⟩
    have B6 := Lib.hid (B5.out.trans (hB6.mono B5.out.size))
    have X6 := Lib.hid (X5.out.later hB6 (Nat.le_refl _))
    have Y6 := Lib.hid (fls_of_row hr6)
    clear hB6 hr6
    go_wp2_with fail
    refine (eqFls_yes _ _ l w6 X6.out Y6.out (by omega)).mono ?_
    rintro e w7 ⟨rfl, hB7⟩
    have B7 := Lib.hid (B6.out.trans (hB7.mono B6.out.size))
    clear hB7
    go_wp2_with fail
    go_ret
    exact ⟨rfl, B7.out⟩
end Go.Proofs.Ytfgfbdfijpecfaa
