/-
  Parts that came in: the walks of the laws' toPartS, toPart.
-/
import Derived.Test.YtjleadlecdcdeaaPtU
import Derived.Test.YtjleadlecdcdeaaPtS
namespace Go.Proofs.Ytjleadlecdcdeaa
set_option linter.unusedVariables false
open Go.RowKit

/-- The zero part. -/
def zeroLt : Lt := .mk ⟨[], [], []⟩ (.slice none 0 0) 0 0 0 (.slice none 0 0) []
/-- n parts, the first of which are l. -/
def partsIn (l : List Lt) (n : Nat) : List Lt := l ++ List.replicate (n - l.length) zeroLt
theorem partsIn_len (l : List Lt) (n : Nat) (h : l.length ≤ n) : (partsIn l n).length = n := by
  unfold partsIn
  simp
  omega
theorem partsIn_set (l : List Lt) (n : Nat) (t : Lt) (h : l.length < n) : (partsIn l n).set l.length t = partsIn (l ++ [t]) n := by
  unfold partsIn
  rw [List.set_append_right _ _ (Nat.le_refl _), Nat.sub_self, show n - l.length = (n - (l ++ [t]).length) + 1 by simp; omega, List.replicate_succ, List.set_cons_zero, List.append_assoc]
  rfl
theorem partsIn_full (l : List Lt) : partsIn l l.length = l := by
  unfold partsIn
  simp
theorem ltCells_set : ∀ (L : List Lt) (j : Nat) (t : Lt), ((((((((ltCells L).set (j * 7) (.string (mkB t.kind.type))).set (j * 7 + 1) (.string (mkB t.kind.sub))).set (j * 7 + 2) t.pv).set (j * 7 + 3) (.int .i64 t.head)).set (j * 7 + 4) (.int .i64 t.body)).set (j * 7 + 5) (.int .i64 t.fin)).set (j * 7 + 6) t.kv) = ltCells (L.set j t)
  | [], _, _ => rfl
  | a :: r, 0, t => rfl
  | a :: r, j + 1, t => by
    have h := ltCells_set r j t
    rw [show (j + 1) * 7 = j * 7 + 1 + 1 + 1 + 1 + 1 + 1 + 1 by omega]
    have e : ltCells (a :: r) = .string (mkB a.kind.type) :: .string (mkB a.kind.sub) :: a.pv :: .int .i64 a.head :: .int .i64 a.body :: .int .i64 a.fin :: a.kv :: ltCells r := rfl
    have e2 : ltCells ((a :: r).set (j + 1) t) = .string (mkB a.kind.type) :: .string (mkB a.kind.sub) :: a.pv :: .int .i64 a.head :: .int .i64 a.body :: .int .i64 a.fin :: a.kv :: ltCells (r.set j t) := rfl
    rw [e, e2, ← h]
    rfl
theorem madePts (n : Nat) : (madeCells (Value.agg #[.string ⟨#[]⟩, .string ⟨#[]⟩, .slice none 0 0, .int .i64 0, .int .i64 0, .int .i64 0, .slice none 0 0]).cells (n * 7)).toList = ltCells (List.replicate n zeroLt) := by
  apply List.ext_getElem
  · rw [ltCells_len]; simp [madeCells]
  · intro i h1 h2
    have hin : i / 7 < n := by rw [ltCells_len, List.length_replicate] at h2; omega
    have hm : i % 7 = 0 ∨ i % 7 = 1 ∨ i % 7 = 2 ∨ i % 7 = 3 ∨ i % 7 = 4 ∨ i % 7 = 5 ∨ i % 7 = 6 := by omega
    rcases hm with hm | hm | hm | hm | hm | hm | hm
    · have hi : i / 7 * 7 + 0 = i := by omega
      have e := ltCells_at (List.replicate n zeroLt) (i / 7) (by simpa using hin) 0 (by omega)
      rw [hi, List.getElem?_eq_getElem h2] at e
      simp only [List.getElem_replicate] at e
      rw [Option.some.inj (e.trans (show zeroLt.cells[0]? = some (.string ⟨#[]⟩) from rfl))]
      simp [madeCells, Value.cells, hm]
    · have hi : i / 7 * 7 + 1 = i := by omega
      have e := ltCells_at (List.replicate n zeroLt) (i / 7) (by simpa using hin) 1 (by omega)
      rw [hi, List.getElem?_eq_getElem h2] at e
      simp only [List.getElem_replicate] at e
      rw [Option.some.inj (e.trans (show zeroLt.cells[1]? = some (.string ⟨#[]⟩) from rfl))]
      simp [madeCells, Value.cells, hm]
    · have hi : i / 7 * 7 + 2 = i := by omega
      have e := ltCells_at (List.replicate n zeroLt) (i / 7) (by simpa using hin) 2 (by omega)
      rw [hi, List.getElem?_eq_getElem h2] at e
      simp only [List.getElem_replicate] at e
      rw [Option.some.inj (e.trans (show zeroLt.cells[2]? = some (.slice none 0 0) from rfl))]
      simp [madeCells, Value.cells, hm]
    · have hi : i / 7 * 7 + 3 = i := by omega
      have e := ltCells_at (List.replicate n zeroLt) (i / 7) (by simpa using hin) 3 (by omega)
      rw [hi, List.getElem?_eq_getElem h2] at e
      simp only [List.getElem_replicate] at e
      rw [Option.some.inj (e.trans (show zeroLt.cells[3]? = some (.int .i64 0) from rfl))]
      simp [madeCells, Value.cells, hm]
    · have hi : i / 7 * 7 + 4 = i := by omega
      have e := ltCells_at (List.replicate n zeroLt) (i / 7) (by simpa using hin) 4 (by omega)
      rw [hi, List.getElem?_eq_getElem h2] at e
      simp only [List.getElem_replicate] at e
      rw [Option.some.inj (e.trans (show zeroLt.cells[4]? = some (.int .i64 0) from rfl))]
      simp [madeCells, Value.cells, hm]
    · have hi : i / 7 * 7 + 5 = i := by omega
      have e := ltCells_at (List.replicate n zeroLt) (i / 7) (by simpa using hin) 5 (by omega)
      rw [hi, List.getElem?_eq_getElem h2] at e
      simp only [List.getElem_replicate] at e
      rw [Option.some.inj (e.trans (show zeroLt.cells[5]? = some (.int .i64 0) from rfl))]
      simp [madeCells, Value.cells, hm]
    · have hi : i / 7 * 7 + 6 = i := by omega
      have e := ltCells_at (List.replicate n zeroLt) (i / 7) (by simpa using hin) 6 (by omega)
      rw [hi, List.getElem?_eq_getElem h2] at e
      simp only [List.getElem_replicate] at e
      rw [Option.some.inj (e.trans (show zeroLt.cells[6]? = some (.slice none 0 0) from rfl))]
      simp [madeCells, Value.cells, hm]
theorem infoPtZ : (Try.prog.info? 29).map (fun i => (i.zero, i.size, i.bytes)) = some (some (.agg #[.string ⟨#[]⟩, .string ⟨#[]⟩, .slice none 0 0, .int .i64 0, .int .i64 0, .int .i64 0, .slice none 0 0]), 7, 104) := by kernel_rfl

set_option maxRecDepth 100000 in
set_option maxHeartbeats 2000000 in
theorem toPts_any (n : Nat) (v : Value) (l : List Lt) (w : World) (hv : LtsAt w v l) (hl : l.length ≤ 1048576)
    (TP : ∀ k, (h : k < l.length) → ∀ W, Below w.heap.size w W → Calls Try.prog 26 #[ptV l[k]] W (GivesPt n l[k].tree W)) :
    Calls Try.prog 59 #[v] w (GivesPts n (l.map Lt.tree) w) := by
  obtain ⟨j0, hj, hy0, hy1, hy2⟩ := info_parts infoPtZ
  obtain ⟨p, cap, rfl⟩ := hv.slice
  have HV := Lib.hid hv
  have HT := Lib.hid TP
  clear hv TP
  obtain ⟨LL, hLL⟩ : ∃ x, l.map Lt.tree = x := ⟨_, rfl⟩
  rw [hLL]
  have HLL := Lib.hid hLL
  clear hLL
  go_enter Try.func59, Try.ntmps59
  go_wp2_with fail
  obtain ⟨w3, hrun, r1, r2⟩ := run_make_full (P := Try.prog) w w.heap.size 27 29 j0 (.agg #[.string ⟨#[]⟩, .string ⟨#[]⟩, .slice none 0 0, .int .i64 0, .int .i64 0, .int .i64 0, .slice none 0 0]) 7 Try.underlying27 hj hy0 hy1 .i64 .i64 l.length (by rw [hy2]; omega) (by unfold maxLen; omega) (Nat.le_refl _)
  rw [madePts] at r1
  have hf0 : List.replicate l.length zeroLt = partsIn [] l.length := by simp [partsIn]
  rw [hf0] at r1
  have hgr : Below w.heap.size w w3 := ⟨r2.os, r2.tape, r2.output, r2.size, fun k hk => r2.block k hk (by simp)⟩
  clear r2 hf0
  have R1 := Lib.hid r1
  clear r1
  rw [hrun]
  clear hrun
  go_wp2_with fail
  go_loopw [4] (fun i wr => ∃ (j : Nat) (l' : List Lt), j ≤ l.length ∧ i = .int .i64 (j : Int) ∧ l'.length = j ∧ Hid (wr.ownsRow w.heap.size 29 7 (.slice (some ⟨w.heap.size, 0, none⟩) l.length l.length) l.length (ltCells (partsIn l' l.length))) ∧ Hid (Below w.heap.size w wr) ∧ Hid (l'.map Lt.tree = (l.take j).map Lt.tree ∧ (∀ x ∈ l', Holds wr (w.heap.size + 1) n x) ∧ (blocksL l').Nodup)) (fun i _ => l.length - (intOf i).toNat)
  case atStart => exact ⟨0, [], Nat.zero_le _, rfl, rfl, R1, Lib.hid hgr, Lib.hid ⟨rfl, fun x hx => absurd hx (by simp), by simp [blocksL]⟩⟩
  case round =>
    obtain ⟨j, l', hj2, rfl, hlj, hrow, HB, HK⟩ := hrel
    have HLJ := Lib.hid hlj
    clear hlj
    by_cases hlt : j < l.length
    · have g2 : decide ((j : Int) < (l.length : Int)) = true := by simp; omega
      have j1 : (0 : Int) ≤ (j : Int) := by omega
      have j2 : (j : Int) < (l.length : Int) := by omega
      rcases HV.out with ⟨h, _⟩ | ⟨g, off, cap', hv, hg, hcs⟩
      · rw [h] at hlt
        exact absurd hlt (by simp)
      injection hv with hv1 hv2 hv3
      subst hv1 hv3
      obtain ⟨d0, d1, d2, d3, d4, d5, d6⟩ := kid_cells hcs j hlt
      rw [← HB.out.cell (p := ⟨g, _, none⟩) hg] at d0 d1 d2 d3 d4 d5 d6
      have CX := HT.out j hlt wr HB.out
      have htk : (l.take (j + 1)).map Lt.tree = (l.take j).map Lt.tree ++ [l[j].tree] := by rw [List.take_add_one, List.getElem?_eq_getElem hlt, Option.toList_some, List.map_append]; rfl
      have HTK := Lib.hid htk
      clear htk hcs
      unfold ptV at CX
      generalize l[j] = x at d0 d1 d2 d3 d4 d5 d6 CX HTK
      generalize mkB x.kind.type = U1 at d0 CX
      generalize mkB x.kind.sub = U2 at d1 CX
      generalize x.pv = pv2 at d2 CX
      generalize x.head = k1 at d3 CX
      generalize x.body = k2 at d4 CX
      generalize x.fin = k3 at d5 CX
      generalize x.kv = kv2 at d6 CX
      have CXH := Lib.hid CX
      clear CX
      have HLEN : Hid (j * 7 + 6 < (ltCells (partsIn l' l.length)).length) := Lib.hid (by rw [ltCells_len, partsIn_len _ _ (by have := HLJ.out; omega)]; omega)
      go_wp2_with fail
      refine CXH.out.mono ?_
      rintro e w1 ⟨t', rfl, htr, hh, hnd, hB1⟩
      have hsz := HB.out.size
      have hrl := hrow.out.lt w.heap.size rfl
      have B1 := Lib.hid (HB.out.trans (hB1.mono HB.out.size))
      have r0 := row_lat hrow.out hB1
      have hset := ltCells_set (partsIn l' l.length) j t'
      have hps := partsIn_set l' l.length t' (by rw [HLJ.out]; exact hlt)
      rw [HLJ.out] at hps
      rw [hps] at hset
      have NK : Hid ((l' ++ [t']).map Lt.tree = (l.take (j + 1)).map Lt.tree ∧ (∀ x ∈ l' ++ [t'], Holds w1 (w.heap.size + 1) n x) ∧ (blocksL (l' ++ [t'])).Nodup) := Lib.hid (by
        obtain ⟨k1, k2, k3⟩ := HK.out
        refine ⟨?_, ?_, ?_⟩
        · rw [HTK.out, ← k1, ← htr]
          simp
        · intro y hy
          rcases List.mem_append.1 hy with hy | hy
          · exact Holds.kept n y (k2 y hy) (fun q hq => hB1.block q ((Holds.lt n y (k2 y hy) q hq).2))
          · obtain rfl := List.mem_singleton.1 hy
            exact Holds.base (by omega) n y hh
        · rw [blocksL_append, List.nodup_append]
          refine ⟨k3, by simpa [blocksL] using hnd, fun a ha b hb e => ?_⟩
          subst e
          have hb2 : a ∈ t'.blocks := by simpa [blocksL] using hb
          have q1 := (Holds.lt n t' hh a hb2).1
          unfold blocksL at ha
          rw [List.mem_flatten] at ha
          obtain ⟨bs, hbs, h3⟩ := ha
          obtain ⟨z, hz, rfl⟩ := List.mem_map.1 hbs
          have := (Holds.lt n z (k2 z hz) a h3).2
          omega)
      have HLT : Hid ((l' ++ [t']).length = j + 1) := Lib.hid (by rw [List.length_append, HLJ.out]; rfl)
      unfold ptV
      generalize l' ++ [t'] = l2 at hset NK HLT
      have hpx : ∃ a b c, t'.pv = .slice a b c := by
        cases n with
        | zero => exact hh.elim
        | succ n => obtain ⟨a, c, e⟩ := row_slice hh.2.1; exact ⟨a, _, c, e⟩
      have hkx : ∃ a b c, t'.kv = .slice a b c := by
        cases n with
        | zero => exact hh.elim
        | succ n => obtain ⟨a, c, e⟩ := row_slice hh.2.2.1; exact ⟨a, _, c, e⟩
      obtain ⟨q0, q1, q2, hpv⟩ := hpx
      obtain ⟨q3, q4, q5, hkv⟩ := hkx
      rw [hpv, hkv] at hset ⊢
      generalize mkB t'.kind.type = s0 at hset ⊢
      generalize mkB t'.kind.sub = s1 at hset ⊢
      generalize t'.head = i1 at hset ⊢
      generalize t'.body = i2 at hset ⊢
      generalize t'.fin = i3 at hset ⊢
      have HSET := Lib.hid hset
      clear hset hps hpv hkv hh hnd htr
      have hc0 := r0.cellAt (j * 7) (by (try simp only [List.length_set]); have := HLEN.out; omega)
      rw [List.getElem?_eq_getElem (by (try simp only [List.length_set]); have := HLEN.out; omega)] at hc0
      have hf0 := r0.frozenAt (j * 7)
      have t0 := (r0.stored (j * 7) (.string s0)).1
      have hc1 := t0.cellAt (j * 7 + 1) (by (try simp only [List.length_set]); have := HLEN.out; omega)
      rw [List.getElem?_eq_getElem (by (try simp only [List.length_set]); have := HLEN.out; omega)] at hc1
      have hf1 := t0.frozenAt (j * 7 + 1)
      have t1 := (t0.stored (j * 7 + 1) (.string s1)).1
      have hc2 := t1.cellAt (j * 7 + 2) (by (try simp only [List.length_set]); have := HLEN.out; omega)
      rw [List.getElem?_eq_getElem (by (try simp only [List.length_set]); have := HLEN.out; omega)] at hc2
      have hf2 := t1.frozenAt (j * 7 + 2)
      have t2 := (t1.stored (j * 7 + 2) (.slice q0 q1 q2)).1
      have hc3 := t2.cellAt (j * 7 + 3) (by (try simp only [List.length_set]); have := HLEN.out; omega)
      rw [List.getElem?_eq_getElem (by (try simp only [List.length_set]); have := HLEN.out; omega)] at hc3
      have hf3 := t2.frozenAt (j * 7 + 3)
      have t3 := (t2.stored (j * 7 + 3) (.int .i64 i1)).1
      have hc4 := t3.cellAt (j * 7 + 4) (by (try simp only [List.length_set]); have := HLEN.out; omega)
      rw [List.getElem?_eq_getElem (by (try simp only [List.length_set]); have := HLEN.out; omega)] at hc4
      have hf4 := t3.frozenAt (j * 7 + 4)
      have t4 := (t3.stored (j * 7 + 4) (.int .i64 i2)).1
      have hc5 := t4.cellAt (j * 7 + 5) (by (try simp only [List.length_set]); have := HLEN.out; omega)
      rw [List.getElem?_eq_getElem (by (try simp only [List.length_set]); have := HLEN.out; omega)] at hc5
      have hf5 := t4.frozenAt (j * 7 + 5)
      have t5 := (t4.stored (j * 7 + 5) (.int .i64 i3)).1
      have hc6 := t5.cellAt (j * 7 + 6) (by (try simp only [List.length_set]); have := HLEN.out; omega)
      rw [List.getElem?_eq_getElem (by (try simp only [List.length_set]); have := HLEN.out; omega)] at hc6
      have hf6 := t5.frozenAt (j * 7 + 6)
      have t6 := (t5.stored (j * 7 + 6) (.slice q3 q4 q5)).1
      rw [HSET.out] at t6
      have S2 := Lib.hid t6
      have B2 : Hid (Below w.heap.size w (((((((w1.setCell ⟨w.heap.size, j * 7, none⟩ (.string s0)).setCell ⟨w.heap.size, j * 7 + 1, none⟩ (.string s1)).setCell ⟨w.heap.size, j * 7 + 2, none⟩ (.slice q0 q1 q2)).setCell ⟨w.heap.size, j * 7 + 3, none⟩ (.int .i64 i1)).setCell ⟨w.heap.size, j * 7 + 4, none⟩ (.int .i64 i2)).setCell ⟨w.heap.size, j * 7 + 5, none⟩ (.int .i64 i3)).setCell ⟨w.heap.size, j * 7 + 6, none⟩ (.slice q3 q4 q5))) := Lib.hid (((((((B1.out.setCell (by simp) _).setCell (by simp) _).setCell (by simp) _).setCell (by simp) _).setCell (by simp) _).setCell (by simp) _).setCell (by simp) _)
      have B3 : Hid (Below (w.heap.size) w1 (((((((w1.setCell ⟨w.heap.size, j * 7, none⟩ (.string s0)).setCell ⟨w.heap.size, j * 7 + 1, none⟩ (.string s1)).setCell ⟨w.heap.size, j * 7 + 2, none⟩ (.slice q0 q1 q2)).setCell ⟨w.heap.size, j * 7 + 3, none⟩ (.int .i64 i1)).setCell ⟨w.heap.size, j * 7 + 4, none⟩ (.int .i64 i2)).setCell ⟨w.heap.size, j * 7 + 5, none⟩ (.int .i64 i3)).setCell ⟨w.heap.size, j * 7 + 6, none⟩ (.slice q3 q4 q5))) := Lib.hid ((((((((Below.refl w.heap.size w1).setCell (by simp) _).setCell (by simp) _).setCell (by simp) _).setCell (by simp) _).setCell (by simp) _).setCell (by simp) _).setCell (by simp) _)
      have NH : Hid (∀ q, w.heap.size + 1 ≤ q → (((((((w1.setCell ⟨w.heap.size, j * 7, none⟩ (.string s0)).setCell ⟨w.heap.size, j * 7 + 1, none⟩ (.string s1)).setCell ⟨w.heap.size, j * 7 + 2, none⟩ (.slice q0 q1 q2)).setCell ⟨w.heap.size, j * 7 + 3, none⟩ (.int .i64 i1)).setCell ⟨w.heap.size, j * 7 + 4, none⟩ (.int .i64 i2)).setCell ⟨w.heap.size, j * 7 + 5, none⟩ (.int .i64 i3)).setCell ⟨w.heap.size, j * 7 + 6, none⟩ (.slice q3 q4 q5)).heap[q]? = w1.heap[q]?) := Lib.hid (fun q hq => by
        have hne : q ≠ w.heap.size := by omega
        rw [heap_setCell_other _ _ _ _ hne, heap_setCell_other _ _ _ _ hne, heap_setCell_other _ _ _ _ hne, heap_setCell_other _ _ _ _ hne, heap_setCell_other _ _ _ _ hne, heap_setCell_other _ _ _ _ hne, heap_setCell_other _ _ _ _ hne])
      clear hB1 r0 t0 t1 t2 t3 t4 t5 t6 hrow
      go_wp2_with fail
      go_roundw
      case rel => exact ⟨j + 1, l2, by omega, by go_num, HLT.out, S2, B2, Lib.hid ⟨NK.out.1, fun x hx => Holds.kept n x (NK.out.2.1 x hx) (fun q hq => NH.out q (Holds.lt n x (NK.out.2.1 x hx) q hq).1), NK.out.2.2⟩⟩
      case measure => simp [intOf]; omega
    · obtain rfl : j = l.length := by omega
      have g2 : decide ((l.length : Int) < (l.length : Int)) = false := by simp
      have hfin : ltCells (partsIn l' l.length) = ltCells l' := by rw [← HLJ.out, partsIn_full]
      rw [hfin] at hrow
      go_wp2_with fail
      go_ret
      obtain ⟨k1, k2, k3⟩ := HK.out
      have hrl := hrow.out.lt w.heap.size rfl
      refine ⟨_, l', rfl, by rw [k1, List.take_length, HLL.out], by rw [HLJ.out]; exact hrow.out, fun x hx => Holds.base (Nat.le_succ _) n x (k2 x hx), ?_, HB.out⟩
      show (w.heap.size :: blocksL l').Nodup
      rw [List.nodup_cons]
      refine ⟨fun h => ?_, k3⟩
      unfold blocksL at h
      rw [List.mem_flatten] at h
      obtain ⟨bs, hbs, h3⟩ := h
      obtain ⟨z, hz, rfl⟩ := List.mem_map.1 hbs
      have := (Holds.lt n z (k2 z hz) _ h3).1
      omega

theorem toPt_any : ∀ (n : Nat) (t : Lt) (w : World), Lies w n t → Small t →
    Calls Try.prog 26 #[ptV t] w (GivesPt n t.tree w)
  | 0, t, w, h, _ => h.elim
  | n + 1, t, w, h, hs => by
    obtain ⟨_, hpv, hkv, hk⟩ := h
    cases hs with
    | mk _ h1 h2 h3 =>
      exact toPt_one n t w hpv h1 h2 (fun W hW => toPts_any n t.kv t.kids W (hkv.later hW (Nat.le_refl _)) h2 (fun k hk2 W2 hW2 =>
        toPt_any n t.kids[k] W2 (((hk _ (List.getElem_mem hk2)).later hW (Nat.le_refl _)).later hW2 (Nat.le_refl _)) (h3 _ (List.getElem_mem hk2))))
end Go.Proofs.Ytjleadlecdcdeaa
