/-
  HeadEnd: the walks of the laws FnHeadEnd and FnExactHeadEnd, given the walk of impl's.
-/
import Derived.Test.YtfgfbdfijpecfaaDrawHe
import Derived.Test.YtfgfbdfijpecfaaHdS
import Derived.Test.YtfgfbdfijpecfaaFindI
import Derived.Test.YtfgfbdfijpecfaaBig
namespace Go.Proofs.Ytfgfbdfijpecfaa
set_option linter.unusedVariables false
open Go.RowKit

/-- What is asked of impl's HeadEnd. -/
def HeadIs : Prop := ∀ (s : ByteArray) (w : World), MaxLenAt w → s.size ≤ 1048576 →
  Calls Try.prog 12 #[.string s] w fun e w' => e = .returned (.int .i64 (headN s.data.toList : Int)) ∧ Below w.heap.size w w'

set_option maxHeartbeats 400000 in
theorem exactHead_walk (IH : HeadIs) (s : ByteArray) (w : World) (hs : s.size ≤ maxLen) (hsh : w.ShapedOpen Try.prog) :
    Calls Try.prog 5 #[.string s] w fun e w' => e = .returned (.bool true) ∧ Below w.heap.size w w' := by
  unfold maxLen at hs
  have hM := maxLenAt_of_shaped hsh
  clear hsh
  by_cases h1 : s.size ≤ 1048576
  · have H1 := Lib.hid (fun w => specHead_any s w h1)
    have H2 := Lib.hid (IH s w hM h1)
    generalize headN s.data.toList = r at H1 H2
    clear hM
    go_enter Try.func5, Try.ntmps5
    go_wp2_with (first | (go_at_call 13; refine (H1.out _).mono ?_; rintro e w1 ⟨rfl, rfl⟩) | (go_at_call 12; refine H2.out.mono ?_; rintro e w2 ⟨rfl, hB⟩))
    go_ret
    exact ⟨rfl, hB⟩
  · clear hM
    go_enter Try.func5, Try.ntmps5
    go_wp2
    go_ret
    exact ⟨rfl, Below.refl _ _⟩

theorem piece_two (s : ByteArray) (a : Nat) : ((s.extract a (a + 2)).toList == [13, 10]) = ((s.data.toList.drop a).take 2 == [13, 10]) := by
  rw [Lib.toList_data, Lib.extract_data, show a + 2 - a = 2 by omega]

set_option maxRecDepth 100000 in
set_option maxHeartbeats 1000000 in
theorem lawHead_walk (IH : HeadIs) (a0 : Option Addr) (len0 cap0 : Nat) (z0 : List Int) (w : World) (w0 : IsRow .u8 w a0 len0 cap0 z0) (hsh : w.ShapedOpen Try.prog) :
    Calls Try.prog 3 #[.slice a0 len0 cap0] w fun e w' => e = .returned (.bool true) ∧ Below w.heap.size w w' := by
  have W0 := Lib.hid w0
  have HM := Lib.hid (maxLenAt_of_shaped hsh)
  clear w0 hsh
  by_cases hl : len0 ≤ 1048576
  · go_enter Try.func3, Try.ntmps3
    go_wp2_with fail
    refine (big_no _ _ _ _ hl).mono ?_
    rintro e w1 ⟨rfl, rfl⟩
    go_wp2_with fail
    refine (drawHeadEnd_any ⟨a0, len0, cap0, z0⟩ w1 w1 W0.out hl (Below.refl _ _)).mono ?_
    rintro e w2 ⟨s, rfl, hs, hB2⟩
    have B2 := Lib.hid hB2
    clear hB2
    have M2 := Lib.hid (HM.out.after B2.out)
    have SZ := Lib.hid hs
    clear hs
    go_wp2_with fail
    refine (IH s _ M2.out (by have := SZ.out; omega)).mono ?_
    rintro e w3 ⟨rfl, hB3⟩
    have B3 := Lib.hid (B2.out.trans (hB3.mono B2.out.size))
    have M3 := Lib.hid (M2.out.after hB3)
    clear hB3
    have SH := Lib.hid (fun w => specHead_any s w (by have := SZ.out; omega))
    have hle := headN_le s.data.toList
    have IH4 := Lib.hid (fun w hm => IH (s.extract 0 (headN s.data.toList)) w hm (by have := SZ.out; rw [ByteArray.size_extract]; omega))
    have htl := headN_tells s.data.toList
    have hsz : s.data.toList.length = s.size := by simp
    rw [hsz] at hle htl
    have e1 : (s.extract 0 (headN s.data.toList)).data.toList = s.data.toList.take (headN s.data.toList) := by rw [Lib.extract_data]; simp
    rw [e1] at IH4
    clear hsz e1
    generalize headN s.data.toList = N at SH hle IH4 htl
    have g1 : ((N : Int) != (N : Int)) = false := by simp
    have g2 : decide ((N : Int) < 0) = false := by simp
    have g3 : decide ((s.size : Int) < (N : Int)) = false := by simp; omega
    have i1 : (0 : Int) ≤ (N : Int) := by omega
    have i2 : (N : Int) ≤ (s.size : Int) := by omega
    rcases htl with rfl | ⟨h2, hp2, h4, hfix⟩
    · have g4 : ((s.size : Int) == (s.size : Int)) = true := by simp
      go_wp2_with (first | (go_at_call 13; refine (SH.out _).mono ?_; rintro e w1 ⟨rfl, rfl⟩))
      go_ret
      exact ⟨rfl, B3.out⟩
    · by_cases heq : N = s.size
      · subst heq
        have g4 : ((s.size : Int) == (s.size : Int)) = true := by simp
        clear hp2 h4 hfix h2
        go_wp2_with (first | (go_at_call 13; refine (SH.out _).mono ?_; rintro e w1 ⟨rfl, rfl⟩))
        go_ret
        exact ⟨rfl, B3.out⟩
      · have g4 : ((N : Int) == (s.size : Int)) = false := by rw [beq_eq_false_iff_ne]; omega
        have g5 : decide ((2 : Int) ≤ (N : Int)) = true := by simp; omega
        rw [hfix] at IH4
        have p2 := piece_two s (N - 2)
        rw [hp2, show N - 2 + 2 = N by omega] at p2
        have p2' : ((s.extract (N - 2) N).toList == [13, 10]) = true := p2.trans rfl
        have c2 : (0 : Int) ≤ (N : Int) - 2 := by omega
        have c3 : (N : Int) - 2 ≤ (N : Int) := by omega
        have c4 : ((N : Int) - 2).toNat = N - 2 := by omega
        clear hp2 p2 hfix heq
        have g9 : ((N : Int) == (N : Int)) = true := by simp
        have hN9 : (N : Int) ≤ 1000 := by have := SZ.out; omega
        rcases h4 with h4 | ⟨h4, hp4⟩
        · have g6 : ((N : Int) == 2) = true := by rw [h4]; simp
          clear h4 h2
          go_wp2_with (first | (go_at_call 13; refine (SH.out _).mono ?_; rintro e w1 ⟨rfl, rfl⟩) | (go_at_call 12; refine (IH4.out _ M3.out).mono ?_; rintro e w4 ⟨rfl, hB4⟩))
          go_ret
          exact ⟨rfl, B3.out.trans (hB4.mono B3.out.size)⟩
        · have g6 : ((N : Int) == 2) = false := by rw [beq_eq_false_iff_ne]; omega
          have p4 := piece_two s (N - 4)
          rw [hp4, show N - 4 + 2 = N - 2 by omega] at p4
          have p4' : ((s.extract (N - 4) (N - 2)).toList == [13, 10]) = true := p4.trans rfl
          have c5 : (0 : Int) ≤ (N : Int) - 4 := by omega
          have c6 : (N : Int) - 4 ≤ (N : Int) - 2 := by omega
          have c7 : ((N : Int) - 4).toNat = N - 4 := by omega
          have c8 : (N : Int) - 2 ≤ (s.size : Int) := by omega
          clear hp4 p4 h2 h4
          go_wp2_with (first | (go_at_call 13; refine (SH.out _).mono ?_; rintro e w1 ⟨rfl, rfl⟩) | (go_at_call 12; refine (IH4.out _ M3.out).mono ?_; rintro e w4 ⟨rfl, hB4⟩))
          go_ret
          exact ⟨rfl, B3.out.trans (hB4.mono B3.out.size)⟩
  · go_enter Try.func3, Try.ntmps3
    go_wp2_with fail
    refine (big_yes _ _ _ _ (by omega)).mono ?_
    rintro e w1 ⟨rfl, rfl⟩
    go_wp2_with fail
    go_ret
    exact ⟨rfl, Below.refl _ _⟩
end Go.Proofs.Ytfgfbdfijpecfaa
