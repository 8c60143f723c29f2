/-
  Param that came in: the walk of the laws' toParamS.
-/
import Derived.Test.YtgebkpnieailbaaDoorPrT
namespace Go.Proofs.YtgebkpnieailbaaDoor
set_option linter.unusedVariables false
open Go.RowKit

def filledPr (l : List Pr) (j : Nat) : List Pr := l.take j ++ List.replicate (l.length - j) ⟨[], []⟩
theorem filledPr_len (l : List Pr) (j : Nat) (h : j ≤ l.length) : (filledPr l j).length = l.length := by
  unfold filledPr
  simp
  omega
theorem filledPr_set (l : List Pr) (j : Nat) (h : j < l.length) : (filledPr l j).set j l[j] = filledPr l (j + 1) := by
  unfold filledPr
  have hl : (l.take j).length = j := by simp; omega
  rw [List.set_append_right _ _ (by omega), hl, Nat.sub_self, show l.length - j = (l.length - (j + 1)) + 1 by omega, List.replicate_succ, List.set_cons_zero, List.take_add_one, List.getElem?_eq_getElem h]
  rw [List.append_assoc]
  rfl
theorem prCells_set : ∀ (L : List Pr) (j : Nat) (f : Pr), ((prCells L).set (j * 2) (.string (mkB f.name))).set (j * 2 + 1) (.string (mkB f.value)) = prCells (L.set j f)
  | [], _, _ => rfl
  | a :: r, 0, f => rfl
  | a :: r, j + 1, f => by
    have := prCells_set r j f
    rw [show (j + 1) * 2 = j * 2 + 1 + 1 by omega]
    show Value.string (mkB a.name) :: Value.string (mkB a.value) :: (((prCells r)).set (j * 2) (_)).set (j * 2 + 1) (_) = _
    rw [this]
    rfl
theorem madePrs (n : Nat) : (madeCells (Value.agg #[.string ⟨#[]⟩, .string ⟨#[]⟩]).cells (n * 2)).toList = prCells (List.replicate n ⟨[], []⟩) := by
  apply List.ext_getElem
  · rw [prCells_len]; simp [madeCells]
  · intro i h1 h2
    have hin : i / 2 < n := by rw [prCells_len, List.length_replicate] at h2; omega
    obtain ⟨e0, e1⟩ := prCells_at (List.replicate n ⟨[], []⟩) (i / 2) (by simpa using hin)
    have hm : i % 2 = 0 ∨ i % 2 = 1 := by omega
    rcases hm with hm | hm
    · have hi : i / 2 * 2 = i := by omega
      rw [hi, List.getElem?_eq_getElem h2] at e0
      rw [Option.some.inj e0]
      simp [madeCells, Value.cells, hm, mkB]
    · have hi : i / 2 * 2 + 1 = i := by omega
      rw [hi, List.getElem?_eq_getElem h2] at e1
      rw [Option.some.inj e1]
      simp [madeCells, Value.cells, hm, mkB]

set_option maxRecDepth 100000 in
set_option maxHeartbeats 1000000 in
theorem toParamS_any (v : Value) (l : List Pr) (w : World) (hv : PrsAt w v l) (hl : l.length ≤ 1048576) :
    Calls Tryd.prog 6 #[v] w (GivesPrs l w) := by
  obtain ⟨j0, hj, hy0, hy1, hy2⟩ := info_parts infoPr
  obtain ⟨p, cap, rfl⟩ := hv.slice
  have HV := Lib.hid hv
  clear hv
  go_enter Tryd.func6, Tryd.ntmps6
  go_wp2_with fail
  obtain ⟨w3, hrun, r1, r2⟩ := run_make_full (P := Tryd.prog) w w.heap.size 25 33 j0 (.agg #[.string ⟨#[]⟩, .string ⟨#[]⟩]) 2 Tryd.underlying25 hj hy0 hy1 .i64 .i64 l.length (by rw [hy2]; omega) (by unfold maxLen; omega) (Nat.le_refl _)
  rw [madePrs] at r1
  have hf0 : List.replicate l.length (Pr.mk [] []) = filledPr l 0 := by simp [filledPr]
  rw [hf0] at r1
  have hgr : Below w.heap.size w w3 := ⟨r2.os, r2.tape, r2.output, r2.size, fun k hk => r2.block k hk (by simp)⟩
  clear r2 hf0
  have R1 := Lib.hid r1
  clear r1
  rw [hrun]
  clear hrun
  go_wp2_with fail
  go_loopw [4] (fun i wr => ∃ j : Nat, j ≤ l.length ∧ i = .int .i64 (j : Int) ∧ Hid (wr.ownsRow w.heap.size 33 2 (.slice (some ⟨w.heap.size, 0, none⟩) l.length l.length) l.length (prCells (filledPr l j))) ∧ Hid (Below w.heap.size w wr)) (fun i _ => l.length - (intOf i).toNat)
  case atStart => exact ⟨0, Nat.zero_le _, rfl, R1, Lib.hid hgr⟩
  case round =>
    obtain ⟨j, hj2, rfl, hrow, HB⟩ := hrel
    by_cases hlt : j < l.length
    · have g2 : decide ((j : Int) < (l.length : Int)) = true := by simp; omega
      have i1 : (0 : Int) ≤ (j : Int) := by omega
      have i2 : (j : Int) < (l.length : Int) := by omega
      obtain ⟨g, off, rfl, hg, x1, x2⟩ := prs_cells HV.out rfl hlt
      rw [← HB.out.cell (p := ⟨g, off + j * 2, none⟩) hg] at x1
      rw [← HB.out.cell (p := ⟨g, off + j * 2 + 1, none⟩) hg] at x2
      have hset := prCells_set (filledPr l j) j l[j]
      rw [filledPr_set l j hlt] at hset
      generalize mkB l[j].name = s0 at x1 hset
      generalize mkB l[j].value = s1 at x2 hset
      have HSET := Lib.hid hset
      have HLEN : Hid (j * 2 + 1 < (prCells (filledPr l j)).length) := Lib.hid (by rw [prCells_len, filledPr_len l j hj2]; omega)
      have TF := Lib.hid (fun w => toPr_any s0 s1 w)
      clear hset
      go_wp2_with fail
      refine (TF.out _).mono ?_
      rintro e w1 ⟨rfl, hB1⟩
      have B1 := Lib.hid (HB.out.trans (hB1.mono HB.out.size))
      have r0 := row_lat hrow.out hB1
      have hc0 := r0.cellAt (j * 2) (by (try simp only [List.length_set]); have := HLEN.out; omega)
      rw [List.getElem?_eq_getElem (by (try simp only [List.length_set]); have := HLEN.out; omega)] at hc0
      have hf0 := r0.frozenAt (j * 2)
      have t0 := (r0.stored (j * 2) (.string s0)).1
      have hc1 := t0.cellAt (j * 2 + 1) (by (try simp only [List.length_set]); have := HLEN.out; omega)
      rw [List.getElem?_eq_getElem (by (try simp only [List.length_set]); have := HLEN.out; omega)] at hc1
      have hf1 := t0.frozenAt (j * 2 + 1)
      have t1 := (t0.stored (j * 2 + 1) (.string s1)).1
      rw [HSET.out] at t1
      have S2 := Lib.hid t1
      have B2 : Hid (Below w.heap.size w ((w1.setCell ⟨w.heap.size, j * 2, none⟩ (.string s0)).setCell ⟨w.heap.size, j * 2 + 1, none⟩ (.string s1))) := Lib.hid ((((B1.out).setCell (by simp) _)).setCell (by simp) _)
      clear hB1 r0 t0 t1 hrow
      go_wp2_with fail
      go_roundw
      case rel => exact ⟨j + 1, by omega, by go_num, S2, B2⟩
      case measure => simp [intOf]; omega
    · obtain rfl : j = l.length := by omega
      have g2 : decide ((l.length : Int) < (l.length : Int)) = false := by simp
      have hfin : filledPr l l.length = l := by unfold filledPr; simp
      rw [hfin] at hrow
      go_wp2_with fail
      go_ret
      exact ⟨_, rfl, hrow.out, HB.out⟩
end Go.Proofs.YtgebkpnieailbaaDoor
