/-
  Delimiters: the walks of impl's cursor where it stands alone: skip, run.
-/
import Derived.Test.YtjleadlecdcdeaaIwR
import Derived.Test.YtjleadlecdcdeaaFitsA
import Derived.Test.YtjleadlecdcdeaaGrown
import Derived.Test.YtjleadlecdcdeaaShelf
import Derived.Deep.QuietTactic
import Derived.BigQuiet
namespace Go.Proofs.Ytjleadlecdcdeaa
set_option linter.unusedVariables false
open Go.RowKit

/-- A cursor in block g, over s, at place k. -/
structure Crs (w : World) (g : Nat) (s : ByteArray) (k : Nat) : Prop where
  cell : w.heap[g]? = some (.cells #[.string s, .int .i64 (k : Int)] 118 (0, 0))
  le : k ≤ s.size
  few : s.size ≤ 1048576
theorem Crs.lt {w : World} {g : Nat} {s : ByteArray} {k : Nat} (h : Crs w g s k) : g < w.heap.size := (Array.getElem?_eq_some_iff.1 h.cell).1
theorem Crs.cells {w : World} {g : Nat} {s : ByteArray} {k : Nat} (h : Crs w g s k) :
    w.cell? ⟨g, 0, none⟩ = some (.string s) ∧ w.cell? ⟨g, 1, none⟩ = some (.int .i64 (k : Int)) ∧ w.frozen? ⟨g, 1, none⟩ = false := by
  have hg := h.cell
  refine ⟨by simp [World.cell?, hg], by simp [World.cell?, hg], by simp [World.frozen?, hg]⟩
theorem Crs.later {w w' : World} {g : Nat} {s : ByteArray} {k : Nat} (h : Crs w g s k) (hb : Below w.heap.size w w') : Crs w' g s k := ⟨(hb.block g h.lt).trans h.cell, h.le, h.few⟩
theorem Crs.to {w : World} {g : Nat} {s : ByteArray} {k : Nat} (h : Crs w g s k) (j : Nat) (hj : j ≤ s.size) : Crs (w.setCell ⟨g, 1, none⟩ (.int .i64 (j : Int))) g s j :=
  ⟨heap_setCell_same _ _ _ _ _ _ h.cell, hj, h.few⟩
theorem Crs.drewN {w : World} {g : Nat} {s : ByteArray} {k : Nat} (h : Crs w g s k) (n : Nat) : Crs (w.drewN n) g s k := ⟨h.cell, h.le, h.few⟩

set_option maxRecDepth 100000 in
set_option maxHeartbeats 400000 in
theorem cskip_yes {w : World} {g : Nat} {s : ByteArray} {k : Nat} (h : Crs w g s k) (m : ByteArray) (hm : Lib.hasPrefix (s.extract k s.size).data.toList m.data.toList = true) :
    Calls Try.prog 78 #[.pointer (some ⟨g, 0, none⟩), .string m] w fun e w' => e = .returned (.bool true) ∧ Crs w' g s (k + m.size) ∧ w.grownBy w' (some g) := by
  obtain ⟨hc0, hc1, hf1⟩ := h.cells
  have hk := h.le
  have hs := h.few
  have hroom := prefix_room hk hm
  have R := Lib.hid h
  have HP := Lib.hid (fun w => Try.strings_HasPrefix (s.extract k s.size) m w)
  rw [hm] at HP
  clear h hm
  have g0 : (0 : Int) ≤ (k : Int) := by omega
  have g2 : (k : Int) ≤ (s.size : Int) := by omega
  go_enter Try.func78, Try.ntmps78
  go_wp2_with fail
  go_quiet ((go_at_call 97; exact Calls.quiet_of_same (HP.out _)))
  go_wp2_with fail
  go_ret
  exact ⟨rfl, (R.out.drewN _).to (k + m.size) hroom, grownBy_trans (grownBy_drewN (grownBy_refl _ _) _) (grownBy_one _ _ _ _)⟩

set_option maxRecDepth 100000 in
set_option maxHeartbeats 400000 in
theorem cskip_no {w : World} {g : Nat} {s : ByteArray} {k : Nat} (h : Crs w g s k) (m : ByteArray) (hm : Lib.hasPrefix (s.extract k s.size).data.toList m.data.toList = false) :
    Calls Try.prog 78 #[.pointer (some ⟨g, 0, none⟩), .string m] w fun e w' => e = .returned (.bool false) ∧ Crs w' g s k ∧ w.grownBy w' (some g) := by
  obtain ⟨hc0, hc1, hf1⟩ := h.cells
  have hk := h.le
  have hs := h.few
  have R := Lib.hid h
  have HP := Lib.hid (fun w => Try.strings_HasPrefix (s.extract k s.size) m w)
  rw [hm] at HP
  clear h hm
  have g0 : (0 : Int) ≤ (k : Int) := by omega
  have g2 : (k : Int) ≤ (s.size : Int) := by omega
  go_enter Try.func78, Try.ntmps78
  go_wp2_with fail
  go_quiet ((go_at_call 97; exact Calls.quiet_of_same (HP.out _)))
  go_wp2_with fail
  go_ret
  exact ⟨rfl, R.out.drewN _, grownBy_drewN (grownBy_refl _ _) _⟩

set_option maxRecDepth 100000 in
set_option maxHeartbeats 1000000 in
theorem crun_any (K : FuncId) (p : UInt8 → Bool) (hK : Fits K p) {w : World} {g : Nat} {s : ByteArray} {a : Nat} (h : Crs w g s a) :
    Calls Try.prog 79 #[.pointer (some ⟨g, 0, none⟩), .func (.func K) #[] #[]] w fun e w' => e = .returned (.string (s.extract a (runP p s.data.toList s.size a))) ∧ Crs w' g s (runP p s.data.toList s.size a) ∧ w.grownBy w' (some g) := by
  obtain ⟨hc0, hc1, hf1⟩ := h.cells
  have ha := h.le
  have hs := h.few
  have R := Lib.hid h
  have FK := Lib.hid hK
  obtain ⟨T, hT⟩ : ∃ T, runP p s.data.toList s.size a = T := ⟨_, rfl⟩
  have hT1 : a ≤ T := by rw [← hT]; exact runP_ge _ _ _ _
  have hT2 : T ≤ s.size := by rw [← hT]; have := runP_le p s.data.toList s.size a (by simpa using ha); simpa using this
  rw [hT]
  have HT := Lib.hid hT
  clear hT h hK
  go_enter Try.func79, Try.ntmps79
  go_wp2_with fail
  go_loopw [] (fun wr => ∃ k n : Nat, a ≤ k ∧ Crs wr g s k ∧ s.size ≤ k + n ∧ Hid (runP p s.data.toList n k = T) ∧ w.grownBy wr (some g)) (fun wr => s.size - (intOf ((wr.cell? ⟨g, 1, none⟩).getD undef)).toNat)
  case atStart => exact ⟨a, s.size, Nat.le_refl _, R.out, by omega, HT, grownBy_refl _ _⟩
  case round =>
    obtain ⟨k, n, hak, hr, hn, HG, hgw⟩ := hrel
    obtain ⟨kc0, kc1, kf1⟩ := hr.cells
    have hk := hr.le
    have RR := Lib.hid hr
    have GG := Lib.hid hgw
    have hlen : s.data.toList.length = s.size := by simp
    clear hr hgw hc0 hc1 hf1
    by_cases hlt : k < s.size
    · have g1 : decide ((k : Int) < (s.size : Int)) = true := by simp; omega
      have g2 : (0 : Int) ≤ (k : Int) := by omega
      have g3 : (k : Int) < (s.size : Int) := by omega
      have AT := Lib.hid (fun w => FK.out.goes s[k] w)
      have EN := Lib.hid (fun w => FK.out.enters #[.int .u8 s[k].toNat] w)
      cases hp : p s[k] with
      | true =>
        rw [hp] at AT
        obtain ⟨n, rfl⟩ : ∃ m, n = m + 1 := ⟨n - 1, by omega⟩
        have hg := HG.out
        rw [runP, if_pos ⟨by omega, by rw [byte_at s k hlt, hp]⟩] at hg
        have HG2 := Lib.hid hg
        clear hg hp hlen
        go_wp2_with fail
        go_quiet ((rw [EN.out]; exact ⟨rfl, (AT.out _).mono fun e w2 h => ⟨h.1, _, h.2.symm⟩⟩))
        go_wp2_with fail
        go_roundw
        case rel => exact ⟨k + 1, n, by omega, (RR.out.drewN _).to (k + 1) (by omega), by omega, HG2, grownBy_trans GG.out (grownBy_trans (grownBy_drewN (grownBy_refl _ _) _) (grownBy_one _ _ _ _))⟩
        case measure =>
          have hq := ((RR.out.drewN nq).to (k + 1) (by omega)).cells.2.1
          rw [Int.natCast_succ] at hq
          rw [hq, kc1]
          simp [intOf]
          omega
      | false =>
        rw [hp] at AT
        have HK : Hid (T = k) := Lib.hid (by rw [← HG.out, runP_end _ _ _ _ (by rw [byte_at s k hlt, hp]; simp)])
        have g4 : (0 : Int) ≤ (a : Int) := by omega
        have g5 : (a : Int) ≤ (k : Int) := by omega
        have g6 : (k : Int) ≤ (s.size : Int) := by omega
        clear hp hlen
        go_wp2_with fail
        go_quiet ((rw [EN.out]; exact ⟨rfl, (AT.out _).mono fun e w2 h => ⟨h.1, _, h.2.symm⟩⟩))
        go_wp2_with fail
        go_quiet (fail)
        go_wp2_with fail
        go_ret
        rw [HK.out]
        exact ⟨rfl, (RR.out.drewN _).drewN _, grownBy_drewN (grownBy_drewN GG.out _) _⟩
    · have g1 : decide ((k : Int) < (s.size : Int)) = false := by simp; omega
      have HK : Hid (T = k) := Lib.hid (by rw [← HG.out, runP_end _ _ _ _ (by omega)])
      have g4 : (0 : Int) ≤ (a : Int) := by omega
      have g5 : (a : Int) ≤ (k : Int) := by omega
      have g6 : (k : Int) ≤ (s.size : Int) := by omega
      clear hlen
      go_wp2_with fail
      go_quiet (fail)
      go_wp2_with fail
      go_quiet (fail)
      go_wp2_with fail
      go_ret
      rw [HK.out]
      exact ⟨rfl, (RR.out.drewN _).drewN _, grownBy_drewN (grownBy_drewN GG.out _) _⟩
end Go.Proofs.Ytjleadlecdcdeaa
