/-
  Words: the walks of impl's cursor: next, skip, run.
-/
import Derived.Test.YtconopkmiicjeaaDoorIwB
import Derived.Test.YtconopkmiicjeaaDoorDrawA
import Derived.Deep.QuietTactic
import Derived.BigQuiet
namespace Go.Proofs.YtconopkmiicjeaaDoor
set_option linter.unusedVariables false
open Go.RowKit

/-- A reader of words in block g, over s, at place k, with a value. -/
structure Rdr (w : World) (g : Nat) (s : ByteArray) (k : Nat) (v : ByteArray) : Prop where
  cell : w.heap[g]? = some (.cells #[.string s, .int .i64 (k : Int), .string v] 46 (0, 0))
  le : k ≤ s.size
  few : s.size ≤ 1048576
theorem Rdr.lt {w : World} {g : Nat} {s : ByteArray} {k : Nat} {v : ByteArray} (h : Rdr w g s k v) : g < w.heap.size := (Array.getElem?_eq_some_iff.1 h.cell).1
theorem Rdr.cells {w : World} {g : Nat} {s : ByteArray} {k : Nat} {v : ByteArray} (h : Rdr w g s k v) :
    w.cell? ⟨g, 0, none⟩ = some (.string s) ∧ w.cell? ⟨g, 1, none⟩ = some (.int .i64 (k : Int)) ∧ w.cell? ⟨g, 2, none⟩ = some (.string v) ∧ w.frozen? ⟨g, 1, none⟩ = false ∧ w.frozen? ⟨g, 2, none⟩ = false := by
  have hg := h.cell
  refine ⟨by simp [World.cell?, hg], by simp [World.cell?, hg], by simp [World.cell?, hg], by simp [World.frozen?, hg], by simp [World.frozen?, hg]⟩
theorem Rdr.later {w w' : World} {g : Nat} {s : ByteArray} {k : Nat} {v : ByteArray} (h : Rdr w g s k v) (hb : Below w.heap.size w w') : Rdr w' g s k v := ⟨(hb.block g h.lt).trans h.cell, h.le, h.few⟩
theorem Rdr.to {w : World} {g : Nat} {s : ByteArray} {k : Nat} {v : ByteArray} (h : Rdr w g s k v) (j : Nat) (hj : j ≤ s.size) : Rdr (w.setCell ⟨g, 1, none⟩ (.int .i64 (j : Int))) g s j v :=
  ⟨heap_setCell_same _ _ _ _ _ _ h.cell, hj, h.few⟩
theorem Rdr.with {w : World} {g : Nat} {s : ByteArray} {k : Nat} {v : ByteArray} (h : Rdr w g s k v) (u : ByteArray) : Rdr (w.setCell ⟨g, 2, none⟩ (.string u)) g s k u :=
  ⟨heap_setCell_same _ _ _ _ _ _ h.cell, h.le, h.few⟩
theorem Rdr.drewN {w : World} {g : Nat} {s : ByteArray} {k : Nat} {v : ByteArray} (h : Rdr w g s k v) (n : Nat) : Rdr (w.drewN n) g s k v := ⟨h.cell, h.le, h.few⟩
theorem grownBy_refl (w : World) (row : Option Nat) : w.grownBy w row := ⟨rfl, rfl, rfl, Nat.le_refl _, fun _ _ _ => rfl⟩

/-- A byte is taken, or none is there. -/
def TakesByte (g : Nat) (s : ByteArray) (k : Nat) (v : ByteArray) (w : World) (e : Ending) (w' : World) : Prop :=
  ∃ (b : UInt8) (j : Nat), e = .returned (.int .u8 b.toNat) ∧ Rdr w' g s j v ∧ w.grownBy w' (some g) ∧ ((k < s.size ∧ b = s.data.toList.getD k 0 ∧ j = k + 1) ∨ (k = s.size ∧ b = 0 ∧ j = k))

set_option maxRecDepth 100000 in
set_option maxHeartbeats 400000 in
theorem next_any {w : World} {g : Nat} {s : ByteArray} {k : Nat} {v : ByteArray} (h : Rdr w g s k v) :
    Calls Tryd.prog 67 #[.pointer (some ⟨g, 0, none⟩)] w (TakesByte g s k v w) := by
  obtain ⟨hc0, hc1, hc2, hf1, hf2⟩ := h.cells
  have hk := h.le
  have hs := h.few
  have R := Lib.hid h
  clear h
  by_cases hlt : k < s.size
  · have g1 : ((k : Int) == (s.size : Int)) = false := by rw [beq_eq_false_iff_ne]; omega
    have g2 : (0 : Int) ≤ (k : Int) + 1 - 1 := by omega
    have g3 : (k : Int) + 1 - 1 < (s.size : Int) := by omega
    have hb := byte_at s k hlt
    have HB := Lib.hid hb
    clear hb
    go_enter Tryd.func67, Tryd.ntmps67
    go_wp2_with fail
    go_quiet (fail)
    go_wp2_with fail
    go_quiet (fail)
    go_wp2_with fail
    go_ret
    exact ⟨s[k], k + 1, rfl, ((R.out.drewN _).to (k + 1) (by omega)).drewN _, grownBy_drewN (grownBy_trans (grownBy_drewN (grownBy_refl _ _) _) (grownBy_one _ _ _ _)) _, .inl ⟨hlt, HB.out.symm, rfl⟩⟩
  · have g1 : ((k : Int) == (s.size : Int)) = true := by rw [beq_iff_eq]; omega
    go_enter Tryd.func67, Tryd.ntmps67
    go_wp2_with fail
    go_quiet (fail)
    go_wp2_with fail
    go_ret
    exact ⟨0, k, rfl, R.out.drewN _, grownBy_drewN (grownBy_refl _ _) _, .inr ⟨by omega, rfl, rfl⟩⟩

theorem prefix_room {s m : ByteArray} {k : Nat} (hk : k ≤ s.size) (h : Lib.hasPrefix (s.extract k s.size).data.toList m.data.toList = true) : k + m.size ≤ s.size := by
  unfold Lib.hasPrefix at h
  have := (List.isPrefixOf_iff_prefix.1 h).length_le
  have e : (s.extract k s.size).data.toList.length = s.size - k := by
    have : (s.extract k s.size).size = s.size - k := by rw [ByteArray.size_extract]; omega
    rw [← this]; simp
  have e2 : m.data.toList.length = m.size := by simp
  omega

set_option maxRecDepth 100000 in
set_option maxHeartbeats 400000 in
theorem skip_yes {w : World} {g : Nat} {s : ByteArray} {k : Nat} {v : ByteArray} (h : Rdr w g s k v) (m : ByteArray) (hm : Lib.hasPrefix (s.extract k s.size).data.toList m.data.toList = true) :
    Calls Tryd.prog 56 #[.pointer (some ⟨g, 0, none⟩), .string m] w fun e w' => e = .returned (.bool true) ∧ Rdr w' g s (k + m.size) v ∧ w.grownBy w' (some g) := by
  obtain ⟨hc0, hc1, hc2, hf1, hf2⟩ := h.cells
  have hk := h.le
  have hs := h.few
  have hroom := prefix_room hk hm
  have R := Lib.hid h
  have HP := Lib.hid (fun w => Tryd.strings_HasPrefix (s.extract k s.size) m w)
  rw [hm] at HP
  clear h hm
  have g0 : (0 : Int) ≤ (k : Int) := by omega
  have g2 : (k : Int) ≤ (s.size : Int) := by omega
  go_enter Tryd.func56, Tryd.ntmps56
  go_wp2_with fail
  go_quiet ((go_at_call 66; exact Calls.quiet_of_same (HP.out _)))
  go_wp2_with fail
  go_ret
  exact ⟨rfl, (R.out.drewN _).to (k + m.size) hroom, grownBy_trans (grownBy_drewN (grownBy_refl _ _) _) (grownBy_one _ _ _ _)⟩

set_option maxRecDepth 100000 in
set_option maxHeartbeats 400000 in
theorem skip_no {w : World} {g : Nat} {s : ByteArray} {k : Nat} {v : ByteArray} (h : Rdr w g s k v) (m : ByteArray) (hm : Lib.hasPrefix (s.extract k s.size).data.toList m.data.toList = false) :
    Calls Tryd.prog 56 #[.pointer (some ⟨g, 0, none⟩), .string m] w fun e w' => e = .returned (.bool false) ∧ Rdr w' g s k v ∧ w.grownBy w' (some g) := by
  obtain ⟨hc0, hc1, hc2, hf1, hf2⟩ := h.cells
  have hk := h.le
  have hs := h.few
  have R := Lib.hid h
  have HP := Lib.hid (fun w => Tryd.strings_HasPrefix (s.extract k s.size) m w)
  rw [hm] at HP
  clear h hm
  have g0 : (0 : Int) ≤ (k : Int) := by omega
  have g2 : (k : Int) ≤ (s.size : Int) := by omega
  go_enter Tryd.func56, Tryd.ntmps56
  go_wp2_with fail
  go_quiet ((go_at_call 66; exact Calls.quiet_of_same (HP.out _)))
  go_wp2_with fail
  go_ret
  exact ⟨rfl, R.out.drewN _, grownBy_drewN (grownBy_refl _ _) _⟩

/-- Where a run of fitting bytes ends. -/
def runP (p : UInt8 → Bool) (l : List UInt8) : Nat → Nat → Nat
  | 0, k => k
  | n + 1, k => if k < l.length ∧ p (l.getD k 0) = true then runP p l n (k + 1) else k
theorem runP_end (p : UInt8 → Bool) (l : List UInt8) (n k : Nat) (h : ¬ (k < l.length ∧ p (l.getD k 0) = true)) : runP p l n k = k := by
  cases n with
  | zero => rfl
  | succ n => rw [runP, if_neg h]
theorem runP_ge (p : UInt8 → Bool) (l : List UInt8) : ∀ n k, k ≤ runP p l n k
  | 0, k => Nat.le_refl _
  | n + 1, k => by
    rw [runP]
    split
    · have := runP_ge p l n (k + 1)
      omega
    · exact Nat.le_refl _
theorem runP_le (p : UInt8 → Bool) (l : List UInt8) : ∀ n k, k ≤ l.length → runP p l n k ≤ l.length
  | 0, k, h => h
  | n + 1, k, h => by
    rw [runP]
    split
    · rename_i hh
      exact runP_le p l n (k + 1) (by omega)
    · exact h

set_option maxRecDepth 100000 in
set_option maxHeartbeats 1000000 in
theorem run_any (K : FuncId) (p : UInt8 → Bool) (hK : Fits K p) {w : World} {g : Nat} {s : ByteArray} {a : Nat} {v : ByteArray} (h : Rdr w g s a v) :
    Calls Tryd.prog 59 #[.pointer (some ⟨g, 0, none⟩), .func (.func K) #[] #[]] w fun e w' => e = .returned (.string (s.extract a (runP p s.data.toList s.size a))) ∧ Rdr w' g s (runP p s.data.toList s.size a) v ∧ w.grownBy w' (some g) := by
  obtain ⟨hc0, hc1, hc2, hf1, hf2⟩ := h.cells
  have ha := h.le
  have hs := h.few
  have R := Lib.hid h
  have FK := Lib.hid hK
  obtain ⟨T, hT⟩ : ∃ T, runP p s.data.toList s.size a = T := ⟨_, rfl⟩
  have hT1 : a ≤ T := by rw [← hT]; exact runP_ge _ _ _ _
  have hT2 : T ≤ s.size := by rw [← hT]; have := runP_le p s.data.toList s.size a (by simpa using ha); simpa using this
  rw [hT]
  have HT := Lib.hid hT
  clear hT h hK
  go_enter Tryd.func59, Tryd.ntmps59
  go_wp2_with fail
  go_loopw [] (fun wr => ∃ k n : Nat, a ≤ k ∧ Rdr wr g s k v ∧ s.size ≤ k + n ∧ Hid (runP p s.data.toList n k = T) ∧ w.grownBy wr (some g)) (fun wr => s.size - (intOf ((wr.cell? ⟨g, 1, none⟩).getD undef)).toNat)
  case atStart => exact ⟨a, s.size, Nat.le_refl _, R.out, by omega, HT, grownBy_refl _ _⟩
  case round =>
    obtain ⟨k, n, hak, hr, hn, HG, hgw⟩ := hrel
    obtain ⟨kc0, kc1, kc2, kf1, kf2⟩ := hr.cells
    have hk := hr.le
    have RR := Lib.hid hr
    have GG := Lib.hid hgw
    have hlen : s.data.toList.length = s.size := by simp
    clear hr hgw hc0 hc1 hc2 hf1 hf2
    by_cases hlt : k < s.size
    · have g1 : decide ((k : Int) < (s.size : Int)) = true := by simp; omega
      have g2 : (0 : Int) ≤ (k : Int) := by omega
      have g3 : (k : Int) < (s.size : Int) := by omega
      have AT := Lib.hid (fun w => FK.out.goes s[k] w)
      have EN := Lib.hid (fun w => FK.out.enters #[.int .u8 s[k].toNat] w)
      cases hp : p s[k] with
      | true =>
        rw [hp] at AT
        obtain ⟨n, rfl⟩ : ∃ m, n = m + 1 := ⟨n - 1, by omega⟩
        have hg := HG.out
        rw [runP, if_pos ⟨by omega, by rw [byte_at s k hlt, hp]⟩] at hg
        have HG2 := Lib.hid hg
        clear hg hp hlen
        go_wp2_with fail
        go_quiet ((rw [EN.out]; exact ⟨rfl, (AT.out _).mono fun e w2 h => ⟨h.1, _, h.2.symm⟩⟩))
        go_wp2_with fail
        go_roundw
        case rel => exact ⟨k + 1, n, by omega, (RR.out.drewN _).to (k + 1) (by omega), by omega, HG2, grownBy_trans GG.out (grownBy_trans (grownBy_drewN (grownBy_refl _ _) _) (grownBy_one _ _ _ _))⟩
        case measure =>
          have hq := ((RR.out.drewN nq).to (k + 1) (by omega)).cells.2.1
          rw [Int.natCast_succ] at hq
          rw [hq, kc1]
          simp [intOf]
          omega
      | false =>
        rw [hp] at AT
        have HK : Hid (T = k) := Lib.hid (by rw [← HG.out, runP_end _ _ _ _ (by rw [byte_at s k hlt, hp]; simp)])
        have g4 : (0 : Int) ≤ (a : Int) := by omega
        have g5 : (a : Int) ≤ (k : Int) := by omega
        have g6 : (k : Int) ≤ (s.size : Int) := by omega
        clear hp hlen
        go_wp2_with fail
        go_quiet ((rw [EN.out]; exact ⟨rfl, (AT.out _).mono fun e w2 h => ⟨h.1, _, h.2.symm⟩⟩))
        go_wp2_with fail
        go_quiet (fail)
        go_wp2_with fail
        go_ret
        rw [HK.out]
        exact ⟨rfl, (RR.out.drewN _).drewN _, grownBy_drewN (grownBy_drewN GG.out _) _⟩
    · have g1 : decide ((k : Int) < (s.size : Int)) = false := by simp; omega
      have HK : Hid (T = k) := Lib.hid (by rw [← HG.out, runP_end _ _ _ _ (by omega)])
      have g4 : (0 : Int) ≤ (a : Int) := by omega
      have g5 : (a : Int) ≤ (k : Int) := by omega
      have g6 : (k : Int) ≤ (s.size : Int) := by omega
      clear hlen
      go_wp2_with fail
      go_quiet (fail)
      go_wp2_with fail
      go_quiet (fail)
      go_wp2_with fail
      go_ret
      rw [HK.out]
      exact ⟨rfl, (RR.out.drewN _).drewN _, grownBy_drewN (grownBy_drewN GG.out _) _⟩
end Go.Proofs.YtconopkmiicjeaaDoor
