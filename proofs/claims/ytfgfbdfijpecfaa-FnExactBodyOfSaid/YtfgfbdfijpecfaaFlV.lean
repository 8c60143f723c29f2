/-
  Fields that came in: the walk of the laws' toFieldS.
-/
import Derived.Test.YtfgfbdfijpecfaaFlT
namespace Go.Proofs.Ytfgfbdfijpecfaa
set_option linter.unusedVariables false
open Go.RowKit

def filledF (l : List Fl) (j : Nat) : List Fl := l.take j ++ List.replicate (l.length - j) ⟨[], []⟩
theorem filledF_len (l : List Fl) (j : Nat) (h : j ≤ l.length) : (filledF l j).length = l.length := by
  unfold filledF
  simp
  omega
theorem filledF_set (l : List Fl) (j : Nat) (h : j < l.length) : (filledF l j).set j l[j] = filledF l (j + 1) := by
  unfold filledF
  have hl : (l.take j).length = j := by simp; omega
  rw [List.set_append_right _ _ (by omega), hl, Nat.sub_self, show l.length - j = (l.length - (j + 1)) + 1 by omega, List.replicate_succ, List.set_cons_zero, List.take_add_one, List.getElem?_eq_getElem h]
  rw [List.append_assoc]
  rfl
theorem flCells_set : ∀ (L : List Fl) (j : Nat) (f : Fl), ((flCells L).set (j * 2) (.string (mkB f.name))).set (j * 2 + 1) (.string (mkB f.body)) = flCells (L.set j f)
  | [], _, _ => rfl
  | a :: r, 0, f => rfl
  | a :: r, j + 1, f => by
    have := flCells_set r j f
    rw [show (j + 1) * 2 = j * 2 + 1 + 1 by omega]
    show Value.string (mkB a.name) :: Value.string (mkB a.body) :: ((flCells r).set (j * 2) _).set (j * 2 + 1) _ = _
    rw [this]
    rfl
theorem madeFls (n : Nat) : (madeCells (Value.agg #[.string ⟨#[]⟩, .string ⟨#[]⟩]).cells (n * 2)).toList = flCells (List.replicate n ⟨[], []⟩) := by
  apply List.ext_getElem
  · rw [flCells_len]; simp [madeCells]
  · intro i h1 h2
    have hin : i / 2 < n := by rw [flCells_len, List.length_replicate] at h2; omega
    obtain ⟨e1, e2⟩ := flCells_at (List.replicate n ⟨[], []⟩) (i / 2) (by simpa using hin)
    have hm : i % 2 = 0 ∨ i % 2 = 1 := by omega
    rcases hm with hm | hm
    · have hi : i / 2 * 2 = i := by omega
      rw [hi, List.getElem?_eq_getElem h2] at e1
      rw [Option.some.inj e1]
      simp [madeCells, Value.cells, hm, mkB]
    · have hi : i / 2 * 2 + 1 = i := by omega
      rw [hi, List.getElem?_eq_getElem h2] at e2
      rw [Option.some.inj e2]
      simp [madeCells, Value.cells, hm, mkB]

set_option maxRecDepth 100000 in
set_option maxHeartbeats 1000000 in
theorem toFieldS_any (v : Value) (l : List Fl) (w : World) (hv : FlsAt w v l) (hl : l.length ≤ 1048576) :
    Calls Try.prog 22 #[v] w (GivesFls l w) := by
  obtain ⟨j0, hj, hy0, hy1, hy2⟩ := info_parts infoFl
  obtain ⟨p, cap, rfl⟩ := hv.slice
  have HV := Lib.hid hv
  clear hv
  go_enter Try.func22, Try.ntmps22
  go_wp2_with fail
  obtain ⟨w3, hrun, r1, r2⟩ := run_make_full (P := Try.prog) w w.heap.size 26 35 j0 (.agg #[.string ⟨#[]⟩, .string ⟨#[]⟩]) 2 Try.underlying26 hj hy0 hy1 .i64 .i64 l.length (by rw [hy2]; omega) (by unfold maxLen; omega) (Nat.le_refl _)
  rw [madeFls] at r1
  have hf0 : List.replicate l.length (Fl.mk [] []) = filledF l 0 := by simp [filledF]
  rw [hf0] at r1
  have hgr : Below w.heap.size w w3 := ⟨r2.os, r2.tape, r2.output, r2.size, fun k hk => r2.block k hk (by simp)⟩
  clear r2 hf0
  have R1 := Lib.hid r1
  clear r1
  rw [hrun]
  clear hrun
  go_wp2_with fail
  go_loopw [4] (fun i wr => ∃ j : Nat, j ≤ l.length ∧ i = .int .i64 (j : Int) ∧ Hid (wr.ownsRow w.heap.size 35 2 (.slice (some ⟨w.heap.size, 0, none⟩) l.length l.length) l.length (flCells (filledF l j))) ∧ Hid (Below w.heap.size w wr)) (fun i _ => l.length - (intOf i).toNat)
  case atStart => exact ⟨0, Nat.zero_le _, rfl, R1, Lib.hid hgr⟩
  case round =>
    obtain ⟨j, hj2, rfl, hrow, HB⟩ := hrel
    by_cases hlt : j < l.length
    · have g2 : decide ((j : Int) < (l.length : Int)) = true := by simp; omega
      have i1 : (0 : Int) ≤ (j : Int) := by omega
      have i2 : (j : Int) < (l.length : Int) := by omega
      obtain ⟨g, off, rfl, hg, x1, x2⟩ := fls_cells HV.out rfl hlt
      rw [← HB.out.cell (p := ⟨g, off + j * 2, none⟩) hg] at x1
      rw [← HB.out.cell (p := ⟨g, off + j * 2 + 1, none⟩) hg] at x2
      have hset := flCells_set (filledF l j) j l[j]
      rw [filledF_set l j hlt] at hset
      generalize mkB l[j].name = nm at x1 hset
      generalize mkB l[j].body = bd at x2 hset
      have HSET := Lib.hid hset
      have hlen : j * 2 + 1 < (flCells (filledF l j)).length := by rw [flCells_len, filledF_len l j hj2]; omega
      have HLEN := Lib.hid hlen
      have TF := Lib.hid (fun w => toField_any nm bd w)
      clear hset hlen
      go_wp2_with fail
      refine (TF.out _).mono ?_
      rintro e w1 ⟨rfl, hB1⟩
      have B1 := Lib.hid (HB.out.trans (hB1.mono HB.out.size))
      have r1 := row_lat hrow.out hB1
      have hc0 := r1.cellAt (j * 2) (by have := HLEN.out; omega)
      have hf0 := r1.frozenAt (j * 2)
      rw [List.getElem?_eq_getElem (by have := HLEN.out; omega)] at hc0
      have s1 := (r1.stored (j * 2) (.string nm)).1
      have hc1 := s1.cellAt (j * 2 + 1) (by omega)
      have hf1 := s1.frozenAt (j * 2 + 1)
      rw [List.getElem?_eq_getElem (by rw [List.length_set]; exact HLEN.out)] at hc1
      have s2 := (s1.stored (j * 2 + 1) (.string bd)).1
      rw [HSET.out] at s2
      have S2 := Lib.hid s2
      have B2 : Hid (Below w.heap.size w ((w1.setCell ⟨w.heap.size, j * 2, none⟩ (.string nm)).setCell ⟨w.heap.size, j * 2 + 1, none⟩ (.string bd))) := Lib.hid ((B1.out.setCell (by simp) _).setCell (by simp) _)
      clear hB1 r1 s1 s2 hrow
      go_wp2_with fail
      go_roundw
      case rel => exact ⟨j + 1, by omega, by go_num, S2, B2⟩
      case measure => simp [intOf]; omega
    · obtain rfl : j = l.length := by omega
      have g2 : decide ((l.length : Int) < (l.length : Int)) = false := by simp
      have hfin : filledF l l.length = l := by unfold filledF; simp
      rw [hfin] at hrow
      go_wp2_with fail
      go_ret
      exact ⟨_, rfl, hrow.out, HB.out⟩
end Go.Proofs.Ytfgfbdfijpecfaa
