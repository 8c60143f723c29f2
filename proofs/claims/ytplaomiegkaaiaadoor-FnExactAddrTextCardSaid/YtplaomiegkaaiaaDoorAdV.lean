/-
  Addr that came in: the walk of the laws' toAddrS.
-/
import Derived.Test.YtplaomiegkaaiaaDoorAdT
namespace Go.Proofs.YtplaomiegkaaiaaDoor
set_option linter.unusedVariables false
open Go.RowKit

def filledAd (l : List Ad) (j : Nat) : List Ad := l.take j ++ List.replicate (l.length - j) ⟨[], [], []⟩
theorem filledAd_len (l : List Ad) (j : Nat) (h : j ≤ l.length) : (filledAd l j).length = l.length := by
  unfold filledAd
  simp
  omega
theorem filledAd_set (l : List Ad) (j : Nat) (h : j < l.length) : (filledAd l j).set j l[j] = filledAd l (j + 1) := by
  unfold filledAd
  have hl : (l.take j).length = j := by simp; omega
  rw [List.set_append_right _ _ (by omega), hl, Nat.sub_self, show l.length - j = (l.length - (j + 1)) + 1 by omega, List.replicate_succ, List.set_cons_zero, List.take_add_one, List.getElem?_eq_getElem h]
  rw [List.append_assoc]
  rfl
theorem adCells_set : ∀ (L : List Ad) (j : Nat) (f : Ad), (((adCells L).set (j * 3) (.string (mkB f.name))).set (j * 3 + 1) (.string (mkB f.box))).set (j * 3 + 2) (.string (mkB f.host)) = adCells (L.set j f)
  | [], _, _ => rfl
  | a :: r, 0, f => rfl
  | a :: r, j + 1, f => by
    have := adCells_set r j f
    rw [show (j + 1) * 3 = j * 3 + 1 + 1 + 1 by omega]
    show Value.string (mkB a.name) :: Value.string (mkB a.box) :: Value.string (mkB a.host) :: ((((adCells r)).set (j * 3) (_)).set (j * 3 + 1) (_)).set (j * 3 + 2) (_) = _
    rw [this]
    rfl
theorem madeAds (n : Nat) : (madeCells (Value.agg #[.string ⟨#[]⟩, .string ⟨#[]⟩, .string ⟨#[]⟩]).cells (n * 3)).toList = adCells (List.replicate n ⟨[], [], []⟩) := by
  apply List.ext_getElem
  · rw [adCells_len]; simp [madeCells]
  · intro i h1 h2
    have hin : i / 3 < n := by rw [adCells_len, List.length_replicate] at h2; omega
    obtain ⟨e0, e1, e2⟩ := adCells_at (List.replicate n ⟨[], [], []⟩) (i / 3) (by simpa using hin)
    have hm : i % 3 = 0 ∨ i % 3 = 1 ∨ i % 3 = 2 := by omega
    rcases hm with hm | hm | hm
    · have hi : i / 3 * 3 = i := by omega
      rw [hi, List.getElem?_eq_getElem h2] at e0
      rw [Option.some.inj e0]
      simp [madeCells, Value.cells, hm, mkB]
    · have hi : i / 3 * 3 + 1 = i := by omega
      rw [hi, List.getElem?_eq_getElem h2] at e1
      rw [Option.some.inj e1]
      simp [madeCells, Value.cells, hm, mkB]
    · have hi : i / 3 * 3 + 2 = i := by omega
      rw [hi, List.getElem?_eq_getElem h2] at e2
      rw [Option.some.inj e2]
      simp [madeCells, Value.cells, hm, mkB]

set_option maxRecDepth 100000 in
set_option maxHeartbeats 1000000 in
theorem toAddrS_any (v : Value) (l : List Ad) (w : World) (hv : AdsAt w v l) (hl : l.length ≤ 1048576) :
    Calls Tryd.prog 35 #[v] w (GivesAds l w) := by
  obtain ⟨j0, hj, hy0, hy1, hy2⟩ := info_parts infoAd
  obtain ⟨p, cap, rfl⟩ := hv.slice
  have HV := Lib.hid hv
  clear hv
  go_enter Tryd.func35, Tryd.ntmps35
  go_wp2_with fail
  obtain ⟨w3, hrun, r1, r2⟩ := run_make_full (P := Tryd.prog) w w.heap.size 25 29 j0 (.agg #[.string ⟨#[]⟩, .string ⟨#[]⟩, .string ⟨#[]⟩]) 3 Tryd.underlying25 hj hy0 hy1 .i64 .i64 l.length (by rw [hy2]; omega) (by unfold maxLen; omega) (Nat.le_refl _)
  rw [madeAds] at r1
  have hf0 : List.replicate l.length (Ad.mk [] [] []) = filledAd l 0 := by simp [filledAd]
  rw [hf0] at r1
  have hgr : Below w.heap.size w w3 := ⟨r2.os, r2.tape, r2.output, r2.size, fun k hk => r2.block k hk (by simp)⟩
  clear r2 hf0
  have R1 := Lib.hid r1
  clear r1
  rw [hrun]
  clear hrun
  go_wp2_with fail
  go_loopw [4] (fun i wr => ∃ j : Nat, j ≤ l.length ∧ i = .int .i64 (j : Int) ∧ Hid (wr.ownsRow w.heap.size 29 3 (.slice (some ⟨w.heap.size, 0, none⟩) l.length l.length) l.length (adCells (filledAd l j))) ∧ Hid (Below w.heap.size w wr)) (fun i _ => l.length - (intOf i).toNat)
  case atStart => exact ⟨0, Nat.zero_le _, rfl, R1, Lib.hid hgr⟩
  case round =>
    obtain ⟨j, hj2, rfl, hrow, HB⟩ := hrel
    by_cases hlt : j < l.length
    · have g2 : decide ((j : Int) < (l.length : Int)) = true := by simp; omega
      have i1 : (0 : Int) ≤ (j : Int) := by omega
      have i2 : (j : Int) < (l.length : Int) := by omega
      obtain ⟨g, off, rfl, hg, x1, x2, x3⟩ := ads_cells HV.out rfl hlt
      rw [← HB.out.cell (p := ⟨g, off + j * 3, none⟩) hg] at x1
      rw [← HB.out.cell (p := ⟨g, off + j * 3 + 1, none⟩) hg] at x2
      rw [← HB.out.cell (p := ⟨g, off + j * 3 + 2, none⟩) hg] at x3
      have hset := adCells_set (filledAd l j) j l[j]
      rw [filledAd_set l j hlt] at hset
      generalize mkB l[j].name = s0 at x1 hset
      generalize mkB l[j].box = s1 at x2 hset
      generalize mkB l[j].host = s2 at x3 hset
      have HSET := Lib.hid hset
      have HLEN : Hid (j * 3 + 2 < (adCells (filledAd l j)).length) := Lib.hid (by rw [adCells_len, filledAd_len l j hj2]; omega)
      have TF := Lib.hid (fun w => toAd_any s0 s1 s2 w)
      clear hset
      go_wp2_with fail
      refine (TF.out _).mono ?_
      rintro e w1 ⟨rfl, hB1⟩
      have B1 := Lib.hid (HB.out.trans (hB1.mono HB.out.size))
      have r0 := row_lat hrow.out hB1
      have hc0 := r0.cellAt (j * 3) (by (try simp only [List.length_set]); have := HLEN.out; omega)
      rw [List.getElem?_eq_getElem (by (try simp only [List.length_set]); have := HLEN.out; omega)] at hc0
      have hf0 := r0.frozenAt (j * 3)
      have t0 := (r0.stored (j * 3) (.string s0)).1
      have hc1 := t0.cellAt (j * 3 + 1) (by (try simp only [List.length_set]); have := HLEN.out; omega)
      rw [List.getElem?_eq_getElem (by (try simp only [List.length_set]); have := HLEN.out; omega)] at hc1
      have hf1 := t0.frozenAt (j * 3 + 1)
      have t1 := (t0.stored (j * 3 + 1) (.string s1)).1
      have hc2 := t1.cellAt (j * 3 + 2) (by (try simp only [List.length_set]); have := HLEN.out; omega)
      rw [List.getElem?_eq_getElem (by (try simp only [List.length_set]); have := HLEN.out; omega)] at hc2
      have hf2 := t1.frozenAt (j * 3 + 2)
      have t2 := (t1.stored (j * 3 + 2) (.string s2)).1
      rw [HSET.out] at t2
      have S2 := Lib.hid t2
      have B2 : Hid (Below w.heap.size w (((w1.setCell ⟨w.heap.size, j * 3, none⟩ (.string s0)).setCell ⟨w.heap.size, j * 3 + 1, none⟩ (.string s1)).setCell ⟨w.heap.size, j * 3 + 2, none⟩ (.string s2))) := Lib.hid ((((((B1.out).setCell (by simp) _)).setCell (by simp) _)).setCell (by simp) _)
      clear hB1 r0 t0 t1 t2 hrow
      go_wp2_with fail
      go_roundw
      case rel => exact ⟨j + 1, by omega, by go_num, S2, B2⟩
      case measure => simp [intOf]; omega
    · obtain rfl : j = l.length := by omega
      have g2 : decide ((l.length : Int) < (l.length : Int)) = false := by simp
      have hfin : filledAd l l.length = l := by unfold filledAd; simp
      rw [hfin] at hrow
      go_wp2_with fail
      go_ret
      exact ⟨_, rfl, hrow.out, HB.out⟩
end Go.Proofs.YtplaomiegkaaiaaDoor
