/-
  Names: the walk of impl.PutName.
-/
import Derived.Test.YtdgdflbhjbgmdaaDoorPnV
import Derived.Test.YtdgdflbhjbgmdaaDoorPnW
import Derived.Lib.OthersKept
import Derived.Lib.AppendStr
namespace Go.Proofs.YtdgdflbhjbgmdaaDoor
set_option linter.unusedVariables false
open Go.RowKit

theorem row_of_heap {w w' : World} {B : Nat} {e : TypeId} {v : Value} {n : Nat} {xs : List Value} (h : w.ownsRow B e 1 v n xs) (hk : ∀ g, v.ownBlock = some g → w'.heap[g]? = w.heap[g]?) : w'.ownsRow B e 1 v n xs := by
  refine ⟨h.1, ?_⟩
  rcases h.2 with hn | ⟨g, cap, cur, rfl, hb, hgg, rest⟩
  · exact .inl hn
  · exact .inr ⟨g, cap, cur, rfl, hb, (hk g rfl).trans hgg, rest⟩
theorem row_below {w w' : World} {B Bs : Nat} {e : TypeId} {v : Value} {n : Nat} {xs : List Value} (h : w.ownsRow B e 1 v n xs) (hb : Below Bs w w') (hlt : ∀ g, v.ownBlock = some g → g < Bs) : w'.ownsRow B e 1 v n xs :=
  row_of_heap h (fun g hg => hb.block g (hlt g hg))
theorem row_iter {w : World} {B k : Nat} {e : TypeId} {v : Value} {n : Nat} {xs : List Value} (h : w.ownsRow B e 1 v n xs) (s : ByteArray) (pos : Nat) (hk : k < B) : (w.iterAt k s pos).ownsRow B e 1 v n xs :=
  row_of_heap h (fun g hg => Lib.iterAt_other w k g s pos (by have := (h.lt g hg).1; omega))

/-- Behind an append to a row that lies above block K. -/
theorem grow_step {wi w w' : World} {K n : Nat} {e : TypeId} {v : Value} {xs : List Value} {s : ByteArray} {pos B : Nat} (hg : w.grownBy w' v.ownBlock) (hr : w.ownsRow (K + 1) e 1 v n xs) (hb : Below B wi w) (hit : w.heap[K]? = some (.stringIter s pos)) (hB : B ≤ K) (hsz : K + 1 ≤ w.heap.size) : Below B wi w' ∧ w'.heap[K]? = some (.stringIter s pos) ∧ K + 1 ≤ w'.heap.size :=
  ⟨hb.grown hg (by omega) (fun k h => by have := (hr.lt k h).1; omega), (hg.block K (by omega) (fun h => by have := (hr.lt K h.symm).1; omega)).trans hit, Nat.le_trans hsz hg.size⟩
theorem grow_lit {w : World} {K n : Nat} {e : TypeId} {v : Value} {xs : List Value} {s : ByteArray} {pos B : Nat} {wi : World} (o : Obj) (hr : w.ownsRow (K + 1) e 1 v n xs) (hb : Below B wi w) (hit : w.heap[K]? = some (.stringIter s pos)) (hB : B ≤ K) (hsz : K + 1 ≤ w.heap.size) : (w.alloc o).ownsRow (K + 1) e 1 v n xs ∧ Below B wi (w.alloc o) ∧ (w.alloc o).heap[K]? = some (.stringIter s pos) ∧ K + 1 ≤ (w.alloc o).heap.size :=
  ⟨hr.alloc o, hb.alloc (by omega) o, (Below.heap_alloc w o K (by omega)).trans hit, by simp; omega⟩

set_option maxRecDepth 100000 in
set_option maxHeartbeats 2000000 in
theorem implPutName_any (s : ByteArray) (w : World) (hs : s.size ≤ 4194304) (hT : Tabs8 w) (hM : MaxLenAt w) :
    Calls Tryd.prog 12 #[.string s] w (PutsName s.data.toList w) := by
  obtain ⟨i0, hi, hz0, hz1, hz2⟩ := info_parts infoByteJ
  have SG := Lib.hid (implSignsOk_any s w (by omega) hT)
  have HM := Lib.hid hM
  clear hT hM
  cases hv : Lib.validD s.data.toList with
  | false =>
    have HNO := Lib.hid (nameOf_none _ hv)
    rw [hv] at SG
    have HVD := Lib.hid hv
    clear hv
    go_enter Tryd.func12, Tryd.ntmps12
    go_wp2_with fail
    refine SG.out.mono ?_
    rintro e w1 ⟨rfl, hB1⟩
    go_wp2_with fail
    go_ret2
    exact ⟨.inr ⟨HNO.out, HVD.out, rfl⟩, hB1⟩
  | true =>
    obtain ⟨cs, hcs, hl⟩ := (valid_iff _).1 hv
    rw [hv] at SG
    have HVD := Lib.hid hv
    obtain ⟨T, hT⟩ : ∃ T, T = putNm cs [] := ⟨_, rfl⟩
    have HT : Hid (nameOf s.data.toList = some T) := Lib.hid (by rw [hl, nameOf_bytes cs hcs, hT])
    have HL := Lib.hid hl
    have HTT := Lib.hid hT
    clear hv hl hT
    go_enter Tryd.func12, Tryd.ntmps12
    go_wp2_with fail
    refine SG.out.mono ?_
    rintro e w1 ⟨rfl, hB1⟩
    have HM1 := Lib.hid (HM.out.after hB1)
    go_wp2_with fail
    have hKw : w.heap.size ≤ w1.heap.size := hB1.size
    go_loopw [4, 5] (fun o h wr => ∃ (pos : Nat) (todo : List Nat) (L H : List UInt8) (Bs : Nat), AllScalar todo ∧ pos ≤ s.size ∧ wr.heap[w1.heap.size]? = some (.stringIter s pos) ∧ Hid (s.data.toList.drop pos = bytesOf todo) ∧ Hid (L ++ putNm todo H = T) ∧ L.length + 2 * H.length ≤ 12 * pos ∧ w1.heap.size + 1 ≤ Bs ∧ Bs ≤ wr.heap.size ∧ Hid (∀ g, o.ownBlock = some g → g < Bs) ∧ wr.ownsRow (w1.heap.size + 1) 5 1 o L.length (L.map bv) ∧ wr.ownsRow Bs 5 1 h H.length (H.map bv) ∧ Below w.heap.size w wr) (fun _ _ wr => s.size - wr.iterPos w1.heap.size)
    case atStart =>
      refine ⟨0, cs, [], [], w1.heap.size + 1, hcs, by omega, ?_, Lib.hid (by rw [List.drop_zero]; exact HL.out), Lib.hid (by rw [HTT.out]; rfl), by simp, Nat.le_refl _, ?_, Lib.hid (fun g h => nomatch h), World.ownsRow_nil _ _ _ _, World.ownsRow_nil _ _ _ _, ?_⟩
      · have := World.iter_heap w1 s 0
        exact this
      · simp [World.iter]
      · exact hB1.alloc (by omega) _
    case round =>
      obtain ⟨pos, todo, L, H, Bs, htodo, hpos, hit, HD, HP, hsize, hKB, hBs, HLT, hOut, hSh, hB⟩ := hrel
      have hlen : s.data.toList.length = s.size := by simp
      have hKlt : w1.heap.size < wr.heap.size := by omega
      by_cases hp : pos < s.size
      · have hnx : ∀ ty, (Instr.next (.pointer (some ⟨w1.heap.size, 0, none⟩)) true ty).run Tryd.prog wr = _ := fun ty => Lib.run_next_any_at wr w1.heap.size s pos ty hit hp
        have hit2 := Lib.iterAt_heap wr w1.heap.size s pos (pos + (Utf8.decode s pos).2) hit
        have hB2 := Lib.below_iterAt hB (k := w1.heap.size) hKw s (pos + (Utf8.decode s pos).2)
        have hsz2 : (wr.iterAt w1.heap.size s (pos + (Utf8.decode s pos).2)).heap.size = wr.heap.size := Lib.iterAt_size _ _ _ _
        have hOut2 := row_iter (k := w1.heap.size) hOut s (pos + (Utf8.decode s pos).2) (by omega)
        have hSh2 := row_iter (k := w1.heap.size) hSh s (pos + (Utf8.decode s pos).2) (by omega)
        rw [← Lib.decodeL_drop] at hnx hit2 hB2 hsz2 hOut2 hSh2
        cases todo with
        | nil =>
          exfalso
          have := congrArg List.length HD.out
          rw [List.length_drop] at this
          simp [bytesOf] at this
          omega
        | cons r rs =>
          have hr := htodo r (List.mem_cons_self ..)
          have hrs : AllScalar rs := fun x hx => htodo x (List.mem_cons_of_mem _ hx)
          obtain ⟨n1, n2, n3, n4, n5⟩ := next_head s.data.toList pos r rs hr HD.out
          have hdec : Lib.decodeL (s.data.toList.drop pos) = (r, (putL r).length) := by rw [HD.out, bytesOf_cons, dec_put r _ hr]
          rw [hdec] at hnx hit2 hB2 hsz2 hOut2 hSh2
          simp only at hnx hit2 hB2 hsz2 hOut2 hSh2
          have hr2 : r ≤ 1114111 := hr.1
          have hput : r < 128 → putL r = [UInt8.ofNat r] := put_one r
          have hp4 := HP.out
          generalize hn : (putL r).length = n at n1 n3 n5 hnx hit2 hB2 hsz2 hOut2 hSh2
          have HNN := Lib.hid hn
          have HD3 := Lib.hid n3
          have HRS := Lib.hid hrs
          clear n2 n3 n4 hn htodo hdec hr hrs
          rw [hlen] at n1
          rw [putNm] at hp4
          generalize hwi : wr.iterAt w1.heap.size s (pos + n) = wi at hnx hit2 hB2 hsz2 hOut2 hSh2
          have HIT := Lib.hid hit
          clear hwi hit hOut hSh hB
          have hMi : MaxLenAt wi := HM.out.after hB2
          have HMi := Lib.hid hMi
          clear hMi
          by_cases hpl : 32 ≤ r ∧ r ≤ 126
          · rw [if_pos hpl] at hp4
            obtain ⟨p1, p2⟩ := hpl
            have hn1 : n = 1 := by rw [← HNN.out, hput (by omega)]; rfl
            subst hn1
            have p3 : decide ((r : Int) < 32) = false := by simp; omega
            have p4 : decide ((126 : Int) < (r : Int)) = false := by simp; omega
            have hFl := (flushL_len H).1
            have hvl : (⟨(flushL H).toArray⟩ : ByteArray).size ≤ 2 * H.length + 3 := by show (flushL H).toArray.size ≤ _; rw [List.size_toArray]; omega
            have hvl0 : (⟨(flushL H).toArray⟩ : ByteArray).data.toList = flushL H := rfl
            have hS := shiftText_any _ H Bs wi HMi.out (by omega) hSh2
            generalize hV : (⟨(flushL H).toArray⟩ : ByteArray) = V at hS hvl hvl0
            rw [← hvl0] at hp4
            have HS := Lib.hid hS
            have HP4 := Lib.hid hp4
            clear hS hV hvl0 hp4 hput hFl hSh2
            have hsz3' : w1.heap.size + 1 ≤ wi.heap.size := by omega
            have PREP : ∀ w3, Below wi.heap.size wi w3 → w3.ownsRow (w1.heap.size + 1) 5 1 _ L.length (L.map bv) ∧ Below w.heap.size w w3 ∧ w3.heap[w1.heap.size]? = some (.stringIter s (pos + 1)) ∧ w1.heap.size + 1 ≤ w3.heap.size := fun w3 hB3 => ⟨row_below hOut2 hB3 (fun g hg => (hOut2.lt g hg).2), hB2.trans (hB3.mono (by omega)), (hB3.block w1.heap.size (by omega)).trans hit2, by have := hB3.size; omega⟩
            have HPREP := Lib.hid PREP
            clear PREP
            by_cases h38 : r = 38
            · subst h38
              clear hr2 p1 p2
              go_wp2_with fail
              refine HS.out.mono ?_
              rintro e w3 ⟨rfl, hB3⟩
              obtain ⟨hOut3, hB3', hit3, hsz3⟩ := HPREP.out w3 hB3
              clear hB3
              go_wp2_with (first | (at_builtin; refine Lib.wpList_append_own_string _ rfl _ _ 22 9 rfl (w1.heap.size + 1) 5 i0 Tryd.underlying22 Tryd.underlying9 hi hz0 hz1 hz2 _ _ _ rfl hOut3 V rfl (by unfold maxLen; omega) (by omega) (by omega) ?_; intro v4 w4 hOut4 hg4 _; have hk4 := grow_step hg4 hOut3 hB3' hit3 hKw hsz3; have hsz4 := hk4.2.2) | (at_builtin; refine wpList_append_own _ rfl _ _ 22 rfl (w1.heap.size + 1) 5 i0 (.int .u8 0) 1 1 Tryd.underlying22 hi hz0 hz1 hz2 rfl (by decide) _ _ _ rfl (hOut4.alloc _) ⟨w4.heap.size, 0, none⟩ 1 1 [.int .u8 38] rfl rfl (cell_one_new _ _ _) (by simp [Value.oneCell']) (by unfold maxLen; omega) (by omega) (by simp; omega) ?_; intro v5 w5 hOut5 hg5 _; have hk5 := grow_step hg5 (hOut4.alloc _) (hk4.1.alloc (by omega) _) ((Below.heap_alloc w4 _ w1.heap.size (by omega)).trans hk4.2.1) hKw (by simp; omega); have hsz5 := hk5.2.2) | (at_builtin; refine wpList_append_own _ rfl _ _ 22 rfl (w1.heap.size + 1) 5 i0 (.int .u8 0) 1 1 Tryd.underlying22 hi hz0 hz1 hz2 rfl (by decide) _ _ _ rfl (hOut5.alloc _) ⟨w5.heap.size, 0, none⟩ 1 1 [.int .u8 45] rfl rfl (cell_one_new _ _ _) (by simp [Value.oneCell']) (by unfold maxLen; omega) (by omega) (by simp; omega) ?_; intro v6 w6 hOut6 hg6 _; have hk6 := grow_step hg6 (hOut5.alloc _) (hk5.1.alloc (by omega) _) ((Below.heap_alloc w5 _ w1.heap.size (by omega)).trans hk5.2.1) hKw (by simp; omega); have hsz6 := hk6.2.2))
              have hsz6' := hsz6
              have hrow : w6.ownsRow (w1.heap.size + 1) 5 1 v6 (L ++ V.data.toList ++ plainL 38).length ((L ++ V.data.toList ++ plainL 38).map bv) := by
                have h6 := hOut6
                rw [strCells_bv] at h6
                simpa [plainL, bv, Nat.add_assoc] using h6
              have hlt6 : ∀ g, v6.ownBlock = some g → g < w6.heap.size := fun g hg => (hrow.lt g hg).2
              go_roundw
              case rel =>
                refine ⟨pos + 1, rs, L ++ V.data.toList ++ plainL 38, [], w6.heap.size, HRS.out, n1, hk6.2.1, HD3, Lib.hid (by rw [← HP4.out]; simp), ?_, hsz6', Nat.le_refl _, Lib.hid hlt6, hrow, World.ownsRow_nil _ _ _ _, hk6.1⟩
                have : V.data.toList.length = V.size := by simp
                simp [plainL]
                omega
              case measure =>
                simp only [World.iterPos, hk6.2.1, HIT.out]
                omega
            · have t38 : ((r : Int) == 38) = false := by rw [beq_eq_false_iff_ne]; omega
              have H38 := Lib.hid h38
              clear h38
              go_wp2_with fail
              refine HS.out.mono ?_
              rintro e w3 ⟨rfl, hB3⟩
              obtain ⟨hOut3, hB3', hit3, hsz3⟩ := HPREP.out w3 hB3
              clear hB3
              go_wp2_with (first | (at_builtin; refine Lib.wpList_append_own_string _ rfl _ _ 22 9 rfl (w1.heap.size + 1) 5 i0 Tryd.underlying22 Tryd.underlying9 hi hz0 hz1 hz2 _ _ _ rfl hOut3 V rfl (by unfold maxLen; omega) (by omega) (by omega) ?_; intro v4 w4 hOut4 hg4 _; have hk4 := grow_step hg4 hOut3 hB3' hit3 hKw hsz3; have hsz4 := hk4.2.2) | (at_builtin; refine wpList_append_own _ rfl _ _ 22 rfl (w1.heap.size + 1) 5 i0 (.int .u8 0) 1 1 Tryd.underlying22 hi hz0 hz1 hz2 rfl (by decide) _ _ _ rfl (hOut4.alloc _) ⟨w4.heap.size, 0, none⟩ 1 1 [.int .u8 (r : Int)] rfl rfl (cell_one_new _ _ _) (by simp [Value.oneCell']) (by unfold maxLen; omega) (by omega) (by simp; omega) ?_; intro v5 w5 hOut5 hg5 _; have hk5 := grow_step hg5 (hOut4.alloc _) (hk4.1.alloc (by omega) _) ((Below.heap_alloc w4 _ w1.heap.size (by omega)).trans hk4.2.1) hKw (by simp; omega); have hsz5 := hk5.2.2))
              have hsz5' := hsz5
              have hrow : w5.ownsRow (w1.heap.size + 1) 5 1 v5 (L ++ V.data.toList ++ plainL r).length ((L ++ V.data.toList ++ plainL r).map bv) := by
                have h6 := hOut5
                rw [strCells_bv, ← bv_nat r (by omega)] at h6
                simpa [plainL, H38.out, Nat.add_assoc] using h6
              have hlt6 : ∀ g, v5.ownBlock = some g → g < w5.heap.size := fun g hg => (hrow.lt g hg).2
              go_roundw
              case rel =>
                refine ⟨pos + 1, rs, L ++ V.data.toList ++ plainL r, [], w5.heap.size, HRS.out, n1, hk5.2.1, HD3, Lib.hid (by rw [← HP4.out]; simp), ?_, hsz5', Nat.le_refl _, Lib.hid hlt6, hrow, World.ownsRow_nil _ _ _ _, hk5.1⟩
                have : V.data.toList.length = V.size := by simp
                simp [plainL, H38.out]
                omega
              case measure =>
                simp only [World.iterPos, hk5.2.1, HIT.out]
                omega
          · rw [if_neg hpl] at hp4
            have HP4 := Lib.hid hp4
            have hhl := (halvesL_len r).2
            have HA := Lib.hid (addUnits_any _ H.length (H.map bv) Bs r wi hr2 (by omega) (by omega) hSh2)
            clear hp4 hput hSh2
            by_cases hq : r < 32
            · have p3 : decide ((r : Int) < 32) = true := by simp; omega
              clear hpl
              go_wp2_with fail
              refine HA.out.mono ?_
              rintro e w3 ⟨v3, rfl, hSh3, hB3⟩
              have hOut3 := row_below hOut2 hB3 HLT.out
              have hit3 := (hB3.block w1.heap.size (by omega)).trans hit2
              have hsz3 := hB3.size
              have hrow : w3.ownsRow Bs 5 1 v3 (H ++ halvesL r).length ((H ++ halvesL r).map bv) := by
                rw [List.length_append, List.map_append]
                exact hSh3
              have hB3' := hB2.trans (hB3.mono (by omega))
              clear hB3 hSh3
              go_wp2_with fail
              go_roundw
              case rel =>
                refine ⟨pos + n, rs, L, H ++ halvesL r, Bs, HRS.out, n1, hit3, HD3, HP4, ?_, hKB, by omega, HLT, hOut3, hrow, hB3'⟩
                rw [List.length_append]
                omega
              case measure =>
                simp only [World.iterPos, hit3, HIT.out]
                omega
            · have p3 : decide ((r : Int) < 32) = false := by simp; omega
              have p4 : decide ((126 : Int) < (r : Int)) = true := by simp; omega
              clear hpl
              go_wp2_with fail
              refine HA.out.mono ?_
              rintro e w3 ⟨v3, rfl, hSh3, hB3⟩
              have hOut3 := row_below hOut2 hB3 HLT.out
              have hit3 := (hB3.block w1.heap.size (by omega)).trans hit2
              have hsz3 := hB3.size
              have hrow : w3.ownsRow Bs 5 1 v3 (H ++ halvesL r).length ((H ++ halvesL r).map bv) := by
                rw [List.length_append, List.map_append]
                exact hSh3
              have hB3' := hB2.trans (hB3.mono (by omega))
              clear hB3 hSh3
              go_wp2_with fail
              go_roundw
              case rel =>
                refine ⟨pos + n, rs, L, H ++ halvesL r, Bs, HRS.out, n1, hit3, HD3, HP4, ?_, hKB, by omega, HLT, hOut3, hrow, hB3'⟩
                rw [List.length_append]
                omega
              case measure =>
                simp only [World.iterPos, hit3, HIT.out]
                omega
      · obtain rfl : pos = s.size := by omega
        have hnx : ∀ ty, (Instr.next (.pointer (some ⟨w1.heap.size, 0, none⟩)) true ty).run Tryd.prog wr = _ := fun ty => Lib.run_next_end_at wr w1.heap.size s s.size ty hit hp
        have HT0 : Hid (L ++ flushL H = T) := Lib.hid (by
          have h1 := HD.out
          rw [List.drop_eq_nil_of_le (by omega)] at h1
          cases todo with
          | nil => exact HP.out
          | cons r rs =>
            exfalso
            rw [bytesOf_cons] at h1
            exact put_ne r (htodo r (List.mem_cons_self ..)) (List.append_eq_nil_iff.1 h1.symm).1)
        have hFl := (flushL_len H).1
        have hvl : (⟨(flushL H).toArray⟩ : ByteArray).size ≤ 2 * H.length + 3 := by show (flushL H).toArray.size ≤ _; rw [List.size_toArray]; omega
        have hvl0 : (⟨(flushL H).toArray⟩ : ByteArray).data.toList = flushL H := rfl
        rw [← hvl0] at HT0
        have hS := shiftText_any _ H Bs wr (HM.out.after hB) (by omega) hSh
        generalize hV : (⟨(flushL H).toArray⟩ : ByteArray) = V at hS hvl HT0
        have HS := Lib.hid hS
        clear hS hV hvl0 hFl hSh htodo hit
        have PREP : ∀ w3, Below wr.heap.size wr w3 → w3.ownsRow (w1.heap.size + 1) 5 1 _ L.length (L.map bv) ∧ Below w.heap.size w w3 ∧ w1.heap.size + 1 ≤ w3.heap.size := fun w3 hB3 => ⟨row_below hOut hB3 (fun g hg => (hOut.lt g hg).2), hB.trans (hB3.mono (by omega)), by have := hB3.size; omega⟩
        have HPREP := Lib.hid PREP
        clear PREP
        go_wp2_with fail
        refine HS.out.mono ?_
        rintro e w3 ⟨rfl, hB3⟩
        obtain ⟨hOut3, hB3', hsz3⟩ := HPREP.out w3 hB3
        clear hB3
        go_wp2_with (at_builtin; refine Lib.wpList_append_own_string _ rfl _ _ 22 9 rfl (w1.heap.size + 1) 5 i0 Tryd.underlying22 Tryd.underlying9 hi hz0 hz1 hz2 _ _ _ rfl hOut3 V rfl (by unfold maxLen; omega) (by omega) (by omega) ?_; intro v4 w4 hOut4 hg4 _)
        have hB4 := hB3'.grown hg4 (by omega) (fun k h => by have := (hOut3.lt k h).1; omega)
        have hrow := row_app hOut4
        have hback := rowJ_back (P := Tryd.prog) hrow 22 9 5 Tryd.underlying22 Tryd.underlying5 Tryd.underlying9
        rw [hback]
        go_wp2_with fail
        go_ret2
        exact ⟨.inl ⟨_, by rw [HT.out, ← HT0.out], HVD.out, rfl⟩, hB4⟩
end Go.Proofs.YtdgdflbhjbgmdaaDoor
