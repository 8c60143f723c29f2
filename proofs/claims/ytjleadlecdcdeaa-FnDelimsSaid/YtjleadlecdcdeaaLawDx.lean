/-
  Delimiters: the exact law on Delims; what is asked of impl's (DelimsIs).
-/
import Derived.Test.YtjleadlecdcdeaaDlG
import Derived.Test.YtjleadlecdcdeaaFindI
import Derived.Test.YtjleadlecdcdeaaI3E
import Derived.Test.YtjleadlecdcdeaaI3M
import Derived.Test.YtjleadlecdcdeaaI3H
namespace Go.Proofs.Ytjleadlecdcdeaa
set_option linter.unusedVariables false
open Go.RowKit

/-- What is asked of impl's Delims. -/
def DelimsIs : Prop := ∀ (s : ByteArray) (a b : Int) (mk : ByteArray) (w : World), MaxLenAt w → s.size ≤ 1048576 → mk.size ≤ 1048576 → (-9223372036854775808 ≤ a ∧ a ≤ 9223372036854775807) → (-9223372036854775808 ≤ b ∧ b ≤ 9223372036854775807) →
  Calls Try.prog 15 #[.string s, .int .i64 a, .int .i64 b, .string mk] w (GivesDls (delimsL s.data.toList a b mk.data.toList) w)
theorem delimsF_len (raw mark : List UInt8) (st to : Nat) : ∀ (n a : Nat), (delimsF raw st to mark n a).length ≤ n
  | 0, a => Nat.le_refl _
  | n + 1, a => by
    have ih := delimsF_len raw mark st to n (a + 1)
    rw [delimsF]
    split
    · split
      · split
        · omega
        · split
          · simp
          · simp; omega
      · omega
    · simp
theorem delimsL_len (raw mark : List UInt8) (a b : Int) : (delimsL raw a b mark).length ≤ raw.length := by
  unfold delimsL
  split
  · simp
  · rename_i h
    have := delimsF_len raw mark a.toNat b.toNat (b.toNat - a.toNat) a.toNat
    omega

set_option maxRecDepth 100000 in
set_option maxHeartbeats 1000000 in
theorem exactDelims_walk (ID : DelimsIs) (s : ByteArray) (a b : Int) (mk : ByteArray) (w : World) (hs : s.size ≤ maxLen) (ha0 : (Lit.int .i64 a).wf = true) (hb0 : (Lit.int .i64 b).wf = true) (hmk : mk.size ≤ maxLen) (hsh : w.ShapedOpen Try.prog) :
    Calls Try.prog 6 #[.string s, .int .i64 a, .int .i64 b, .string mk] w fun e w' => e = .returned (.bool true) ∧ Below w.heap.size w w' := by
  have ha : -9223372036854775808 ≤ a ∧ a ≤ 9223372036854775807 := by simpa [Lit.wf, IntKind.min, IntKind.max, IntKind.signed, IntKind.bits] using ha0
  have hb : -9223372036854775808 ≤ b ∧ b ≤ 9223372036854775807 := by simpa [Lit.wf, IntKind.min, IntKind.max, IntKind.signed, IntKind.bits] using hb0
  unfold maxLen at hs hmk
  have HM := Lib.hid (maxLenAt_of_shaped hsh)
  clear hsh
  by_cases h1 : s.size ≤ 1048576
  · by_cases h2 : mk.size ≤ 1048576
    · have H1 := Lib.hid (fun w => specDelims_any s a b mk w h1 h2 ha hb)
      have H2 := Lib.hid (fun W (hB : Below w.heap.size w W) => ID s a b mk W (HM.out.after hB) h1 h2 ha hb)
      have hn := delimsL_len s.data.toList mk.data.toList a b
      have hsl : s.data.toList.length = s.size := by simp
      rw [hsl] at hn
      generalize delimsL s.data.toList a b mk.data.toList = l at H1 H2 hn
      have hn1 : l.length ≤ 10000000 := by omega
      have hn2 : l.length ≤ 4294967296 := by omega
      have hlc := i3_len l
      unfold GivesDls at H1 H2
      rw [i3_cells] at H1 H2
      generalize i3 l = ys at H1 H2 hlc
      generalize hN : l.length = N at *
      clear hsl hn ha hb ha0 hb0 ID
      go_enter Try.func6, Try.ntmps6
      go_wp2_with fail
      refine (H1.out _).mono ?_
      rintro e w1 ⟨va, rfl, hra, hB1⟩
      have RA1 := Lib.hid hra
      have B1 := Lib.hid hB1
      clear hra hB1
      go_wp2_with fail
      refine (H2.out _ B1.out).mono ?_
      rintro e w2 ⟨vb, rfl, hrb, hB2⟩
      have RB2 := Lib.hid hrb
      have RA2 := Lib.hid (row_lat RA1.out hB2)
      have B2 := Lib.hid (B1.out.trans (hB2.mono B1.out.size))
      have AP : Hid (Apart vb va) := Lib.hid (fun g hg hx => by
        have := (RB2.out.lt g hg).1
        have := (RA1.out.lt g hx).2
        omega)
      clear hrb hB2
      go_wp2_with fail
      refine (eqI3s_yes vb va N ys w2 (cellsAt_row RB2.out) (cellsAt_row RA2.out) hlc hn2).mono ?_
      rintro e w3 ⟨rfl, hB3⟩
      have RB3 := Lib.hid (row_lat RB2.out hB3)
      have RA3 := Lib.hid (row_lat RA2.out hB3)
      have B3 := Lib.hid (B2.out.trans (hB3.mono B2.out.size))
      clear hB3
      go_wp2_with fail
      refine (markI3_any vb N (iCells ys) 1 w1.heap.size w3 RB3.out (by rw [iCells, List.length_map]; exact hlc) hn1 (by decide)).mono ?_
      rintro e w4 ⟨rfl, hr4, hg4⟩
      have RA4 := Lib.hid (row_staysG RA3.out hg4 AP.out)
      have B4 : Hid (Below w.heap.size w w4) := Lib.hid (B3.out.grown hg4 B3.out.size (fun k e => Nat.le_trans B1.out.size (RB3.out.lt k e).1))
      have FB4 : Hid (CellsAt w4 vb N (iCells (iMarks 1 (N * 3)))) := Lib.hid (cellsAt_row hr4)
      clear hr4 hg4
      obtain ⟨Q, hQ⟩ : ∃ Q : Int, ((1 + N * 3 : Nat) : Int) = Q := ⟨_, rfl⟩
      rw [hQ]
      have HQ := Lib.hid hQ
      have g1 : decide (Q < 0) = false := by simp; omega
      have g2 : (Q != Q) = false := by simp
      clear hQ
      go_wp2_with fail
      refine (heldI3_yes vb N 1 w4 FB4.out hn1 (by decide)).mono ?_
      rintro e w5 ⟨rfl, hB5⟩
      have FA5 := Lib.hid ((cellsAt_row RA4.out).later hB5 (Nat.le_refl _))
      have FB5 := Lib.hid (FB4.out.later hB5 (Nat.le_refl _))
      have B5 := Lib.hid (B4.out.trans (hB5.mono B4.out.size))
      clear hB5
      rw [HQ.out]
      go_wp2_with fail
      refine (H2.out _ B5.out).mono ?_
      rintro e w6 ⟨vc, rfl, hrc, hB6⟩
      have RC6 := Lib.hid hrc
      have FA6 := Lib.hid (FA5.out.later hB6 (Nat.le_refl _))
      have FB6 := Lib.hid (FB5.out.later hB6 (Nat.le_refl _))
      have B6 := Lib.hid (B5.out.trans (hB6.mono B5.out.size))
      clear hrc hB6
      go_wp2_with fail
      refine (eqI3s_yes vc va N ys w6 (cellsAt_row RC6.out) FA6.out hlc hn2).mono ?_
      rintro e w7 ⟨rfl, hB7⟩
      have FB7 := Lib.hid (FB6.out.later hB7 (Nat.le_refl _))
      have B7 := Lib.hid (B6.out.trans (hB7.mono B6.out.size))
      clear hB7
      go_wp2_with fail
      refine (heldI3_yes vb N 1 w7 FB7.out hn1 (by decide)).mono ?_
      rintro e w8 ⟨rfl, hB8⟩
      have B8 := Lib.hid (B7.out.trans (hB8.mono B7.out.size))
      clear hB8
      rw [HQ.out]
      go_wp2_with fail
      go_ret
      exact ⟨rfl, B8.out⟩
    · go_enter Try.func6, Try.ntmps6
      go_wp2
      go_ret
      exact ⟨rfl, Below.refl _ _⟩
  · go_enter Try.func6, Try.ntmps6
    go_wp2
    go_ret
    exact ⟨rfl, Below.refl _ _⟩
end Go.Proofs.Ytjleadlecdcdeaa
