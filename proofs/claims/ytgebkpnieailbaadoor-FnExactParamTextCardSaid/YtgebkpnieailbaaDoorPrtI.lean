/-
  Parameters: the walk of impl's ParamText.
-/
import Derived.Test.YtgebkpnieailbaaDoorPrtS
import Derived.Test.YtgebkpnieailbaaDoorPsI
import Derived.Test.YtgebkpnieailbaaDoorLstI
import Derived.Test.YtgebkpnieailbaaDoorStrs
import Derived.Test.YtgebkpnieailbaaDoorAppB
import Derived.Test.YtgebkpnieailbaaDoorRowG
import Derived.Test.YtgebkpnieailbaaDoorReg
namespace Go.Proofs.YtgebkpnieailbaaDoor
set_option linter.unusedVariables false
open Go.RowKit

def wordsS (l : List Pr) : List Value := (wordsP l).map fun x => .string (mkB x)
theorem wordsS_take (l : List Pr) (k : Nat) (h : k < l.length) : wordsS (l.take (k + 1)) = wordsS (l.take k) ++ [.string (mkB (putStr l[k].name)), .string (mkB (putStr l[k].value))] := by
  unfold wordsS
  rw [words_take l k h, List.map_append]
  rfl
theorem wordsS_len (l : List Pr) : (wordsS l).length = 2 * l.length := by rw [wordsS, List.length_map, words_len]
theorem words_vals (l : List Pr) : wordsS l = ((wordsP l).map mkB).map Value.string := by simp [wordsS]
theorem words_bytes (l : List Pr) : bytesL ((wordsP l).map mkB) = wordsP l := by
  unfold bytesL
  rw [List.map_map]
  conv => rhs; rw [← List.map_id (wordsP l)]
  rfl

/-- The operation 'append(s, x...)' where its run is known by an equation. -/
theorem wp_append_eq {P : Program} {w : World} {o : Oper} {a : Act} {K : Act → World → Prop} {Q : Exit → Act → World → Prop} (s x : Operand) (t : TypeId)
    (ho : o.op = .call { callee := .builtin .append, args := #[s, x], argTypes := #[t, t] }) {v u : Value} (hs : a.eval s = v) (hx : a.eval x = u) {v' : Value} {w' : World}
    (hr : (Builtin.append_ #[t, t] o.type #[v, u]).run P w = .ok v' w') (h : K (a.put o.dst v') w') : o.wp P a w K Q := by
  unfold Oper.wp execOp
  simp only [ho, resolve, invoke, builtin, Sem.run_bind, Sem.run_pure, Result.andThen_ok, List.map_toArray, List.map_cons, List.map_nil, hs, hx, hr]
  exact h

/-- Between two rounds, and within one: the words so far lie in v, a parameter in block xb. -/
structure PtW (w wr : World) (T : TypeId) (xb : Nat) (nm vl : ByteArray) (v : Value) (n : Nat) (xs : List Value) : Prop where
  row : wr.ownsRow w.heap.size 9 1 v n xs
  below : Below w.heap.size w wr
  rec' : wr.heap[xb]? = some (.cells #[.string nm, .string vl] T (0, 0))
theorem PtW.call {w wr w' : World} {T : TypeId} {xb n : Nat} {nm vl : ByteArray} {v : Value} {xs : List Value} (h : PtW w wr T xb nm vl v n xs) (hB : Below wr.heap.size wr w') : PtW w w' T xb nm vl v n xs :=
  ⟨row_lat h.row hB, h.below.trans (hB.mono h.below.size), (hB.block _ (heap_lt h.rec')).trans h.rec'⟩
theorem PtW.drew {w wr : World} {T : TypeId} {xb n : Nat} {nm vl : ByteArray} {v : Value} {xs : List Value} (h : PtW w wr T xb nm vl v n xs) : PtW w wr.drew T xb nm vl v n xs :=
  ⟨h.row.drew, h.below.drew, h.rec'⟩
theorem PtW.more {w wr : World} {T : TypeId} {xb n : Nat} {nm vl : ByteArray} {v : Value} {xs : List Value} (h : PtW w wr T xb nm vl v n xs) (hT : T ≠ 9) (i0 : TypeInfo) (hi : Tryd.prog.info? 9 = some i0) (hz0 : i0.zero = some (.string ⟨#[]⟩)) (hz1 : i0.size = 1) (hz2 : i0.bytes = 16)
    (a b : ByteArray) (hn : n ≤ 2097152) :
    ∃ v3 w3, (Builtin.append_ #[35, 35] 35 #[v, .slice (some ⟨wr.heap.size, 0, none⟩) 2 2]).run Tryd.prog (wr.alloc (.cells #[.string a, .string b] 9)) = .ok v3 w3 ∧ PtW w w3 T xb nm vl v3 (n + 2) (xs ++ [.string a, .string b]) ∧ (wr.alloc (.cells #[.string a, .string b] 9)).heap[xb]? = some (.cells #[.string nm, .string vl] T (0, 0)) := by
  have hd := (Below.heap_alloc wr (.cells #[.string a, .string b] 9) xb (heap_lt h.rec')).trans h.rec'
  have hb1 := h.below.alloc h.below.size (.cells #[.string a, .string b] 9)
  obtain ⟨v3, w3, hr, h2, h3, _⟩ := run_append_own (P := Tryd.prog) (wr.alloc (.cells #[.string a, .string b] 9)) w.heap.size 35 35 9 i0 (.string ⟨#[]⟩) 1 16 Tryd.underlying35 hi hz0 hz1 hz2 rfl (by decide) v n xs (h.row.alloc _) ⟨wr.heap.size, 0, none⟩ 2 2 [.string a, .string b] rfl (cell_two_new _ _ _ _ _ rfl) (by simp [Value.oneCell']) (by unfold maxLen; omega) (by omega) (by have := h.below.size; simp; omega)
  exact ⟨v3, w3, hr, ⟨h2, app_below hb1 (h.row.alloc _) h3, two_kept (h.row.alloc _) h3 hd hT⟩, hd⟩

set_option maxRecDepth 100000 in
set_option maxHeartbeats 2000000 in
theorem implParamText_any (v : Value) (l : List Pr) (w : World) (hv : PrsAt w v l) (hm : totPrL l ≤ 1048576) (hl : l.length ≤ 1048576) (ht : Tens w) :
    Calls Tryd.prog 7 #[v] w fun e w' => e = .returned (.string (mkB (prT l))) ∧ Below w.heap.size w w' := by
  obtain ⟨i0, hi, hz0, hz1, hz2⟩ := info_parts infoStr
  obtain ⟨p, cap, rfl⟩ := hv.slice
  have HV := Lib.hid hv
  have hwt := words_total l (by omega)
  have HFL : Hid (total (wordsP l) ≤ 70000000) := Lib.hid (by omega)
  have HM := Lib.hid hm
  have TE := Lib.hid (fun W (h : Below w.heap.size w W) => ht.later h)
  clear hv hm hwt ht
  by_cases h0 : l.length = 0
  · obtain rfl : l = [] := List.eq_nil_of_length_eq_zero h0
    clear h0
    go_enter Tryd.func7, Tryd.ntmps7
    go_wp2
    go_ret
    exact ⟨rfl, Below.refl _ _⟩
  · have g0 : ((l.length : Int) == 0) = false := by rw [beq_eq_false_iff_ne]; omega
    have hA : prT l = listT (wordsP l) := by unfold prT; rw [if_neg (by intro h; rw [h] at h0; simp at h0)]
    rw [hA]
    have hpos : 0 < l.length := Nat.pos_of_ne_zero h0
    obtain ⟨g, off, c2, hgv, hg, hc⟩ : ∃ g off c2, Value.slice p l.length cap = .slice (some ⟨g, off, none⟩) l.length c2 ∧ g < w.heap.size ∧ ∀ k, (h : k < l.length) → w.cell? ⟨g, off + k * 2, none⟩ = some (.string (mkB l[k].name)) ∧ w.cell? ⟨g, off + k * 2 + 1, none⟩ = some (.string (mkB l[k].value)) := by
      rcases HV.out with ⟨h, _⟩ | h
      · rw [h] at hpos; simp at hpos
      · exact h
    injection hgv with hgv1 hgv2 hgv3
    subst hgv1 hgv3
    have HC := Lib.hid hc
    clear hc h0 hA HV
    go_enter Tryd.func7, Tryd.ntmps7
    go_wp2
    go_loopw [3, 11] (fun o i wr => ∃ k : Nat, k ≤ l.length ∧ i = .int .i64 (k : Int) ∧ Hid (wr.ownsRow w.heap.size 9 1 o (2 * k) (wordsS (l.take k))) ∧ Below w.heap.size w wr) (fun _ i _ => l.length - (intOf i).toNat)
    case atStart => exact ⟨0, Nat.zero_le _, rfl, Lib.hid (World.ownsRow_nil _ _ _ _), Below.refl _ _⟩
    case round =>
      obtain ⟨k, hk, rfl, HR, hB⟩ := hrel
      have hsz := hB.size
      by_cases hlt : k < l.length
      · have g1 : decide ((k : Int) < (l.length : Int)) = true := by simp; omega
        have i1 : (0 : Int) ≤ (k : Int) := by omega
        have i2 : (k : Int) < (l.length : Int) := by omega
        obtain ⟨x1, x2⟩ := HC.out k hlt
        have hws := wordsS_take l k hlt
        have hM := HM.out
        have hsm := totPr_mem (List.getElem_mem hlt)
        generalize l[k] = a at x1 x2 hws hsm
        unfold totPr at hsm
        have PN := Lib.hid (fun w ht => implPutString_any (mkB a.name) w (by rw [mkB_size]; omega) ht)
        have PV := Lib.hid (fun w ht => implPutString_any (mkB a.value) w (by rw [mkB_size]; omega) ht)
        rw [mkB_list] at PN PV
        rw [show ∀ l : List UInt8, (⟨l.toArray⟩ : ByteArray) = mkB l from fun _ => rfl] at PN PV
        have z1 : wr.cell? ⟨g, off + k * 2, none⟩ = some (.string (mkB a.name)) := (hB.cell (p := ⟨g, off + k * 2, none⟩) hg).trans x1
        have z2 : wr.cell? ⟨g, off + k * 2 + 1, none⟩ = some (.string (mkB a.value)) := (hB.cell (p := ⟨g, off + k * 2 + 1, none⟩) hg).trans x2
        have HWS := Lib.hid hws
        clear hws hM hsm x1 x2
        generalize mkB (putStr a.name) = S1 at PN HWS
        generalize mkB (putStr a.value) = S2 at PV HWS
        generalize mkB a.name = nm at PN z1
        generalize mkB a.value = vl at PV z2
        have A0 := Lib.hid (PtW.mk (w := w) (T := 33) (wr := wr.alloc (.cells #[.string nm, .string vl] 33)) (xb := wr.heap.size) (nm := nm) (vl := vl) (HR.out.alloc _) (hB.alloc hsz _) (alloc_new wr _ _))
        have hk2 : 2 * k ≤ 2097152 := by omega
        clear hB HR
        go_wp2_with fail
        clear z1 z2
        obtain ⟨W0, hW0⟩ : ∃ W, wr.alloc (.cells #[.string nm, .string vl] 33) = W := ⟨_, rfl⟩
        obtain ⟨xb, hxb⟩ : ∃ x, wr.heap.size = x := ⟨_, rfl⟩
        rw [hxb, hW0] at A0
        rw [hxb, hW0]
        clear hW0 hxb hsz
        have A0d := Lib.hid A0.out.drew
        refine wp_region_noPanic (wp_region_held_drew (S := fun w' => w'.cell? ⟨xb, 0, none⟩ = some (.string nm) ∧ w'.cell? ⟨xb, 1, none⟩ = some (.string vl)) (by kernel_rfl) (cell_of_two A0d.out.rec') (fun hHeld => ?_))
        refine take_on (i := 0) (some 15) ?_ rfl rfl (by kernel_rfl) (by kernel_rfl) (by kernel_rfl) (fun _ _ _ h => h) (by rfl) (by assumption) ?_ ?_
        rotate_left 2
        · intro wx hSx
          (try dsimp only at hSx)
          (try obtain ⟨_, _⟩ := hSx)
          go_simp
          try with_reducible rfl
        rotate_left
        simp only [Act.put, List.setIfInBounds_toArray, List.set_cons_zero, List.set_cons_succ]
        refine take_on (i := 1) (some 16) ?_ rfl rfl (by kernel_rfl) (by kernel_rfl) (by kernel_rfl) (fun _ _ _ h => h) (by rfl) (by assumption) ?_ ?_
        rotate_left 2
        · intro wx hSx
          (try dsimp only at hSx)
          (try obtain ⟨_, _⟩ := hSx)
          go_simp
          try with_reducible rfl
        rotate_left
        simp only [Act.put, List.setIfInBounds_toArray, List.set_cons_zero, List.set_cons_succ]
        refine take_on (i := 2) (some 17) ?_ rfl rfl (by kernel_rfl) (by kernel_rfl) (by kernel_rfl) (fun _ _ _ h => h) (by rfl) (by assumption) ?_ ?_
        rotate_left 2
        · intro wx hSx
          (try dsimp only at hSx)
          (try obtain ⟨_, _⟩ := hSx)
          go_simp
          try with_reducible rfl
        rotate_left
        simp only [Act.put, List.setIfInBounds_toArray, List.set_cons_zero, List.set_cons_succ]
        refine take_on (i := 4) (some 19) ?_ rfl rfl (by kernel_rfl) (by kernel_rfl) (by kernel_rfl) (fun _ _ _ h => h) (by rfl) (by assumption) ?_ ?_
        rotate_left 2
        · intro wx hSx
          (try dsimp only at hSx)
          (try obtain ⟨_, _⟩ := hSx)
          go_simp
          try with_reducible rfl
        rotate_left
        simp only [Act.put, List.setIfInBounds_toArray, List.set_cons_zero, List.set_cons_succ]
        refine take_on (i := 5) (some 20) ?_ rfl rfl (by kernel_rfl) (by kernel_rfl) (by kernel_rfl) (fun _ _ _ h => h) (by rfl) (by assumption) ?_ ?_
        rotate_left 2
        · intro wx hSx
          (try dsimp only at hSx)
          (try obtain ⟨_, _⟩ := hSx)
          go_simp
          try with_reducible rfl
        rotate_left
        simp only [Act.put, List.setIfInBounds_toArray, List.set_cons_zero, List.set_cons_succ]
        refine wpAnyH_ready (rs := [3]) (by kernel_rfl) (by simp) (AllReadyH.cons rfl (fun K hK => ?_) AllReadyH.nil)
        rw [if_pos (by rfl)]
        go_simp
        refine (PN.out _ (TE.out _ A0d.out.below)).mono ?_
        rintro e w1 ⟨rfl, hB1⟩
        have A1 := Lib.hid (A0d.out.call hB1)
        have hH1 := cell_of_two A1.out.rec'
        refine hK.out _ _ hH1 (fun _ => ?_)
        clear hK hB1 PN A0d hHeld
        refine wpAnyH_ready (rs := [6]) (by kernel_rfl) (by simp) (AllReadyH.cons rfl (fun K hK => ?_) AllReadyH.nil)
        rw [if_pos (by rfl)]
        go_simp
        refine (PV.out _ (TE.out _ A1.out.below)).mono ?_
        rintro e w2 ⟨rfl, hB2⟩
        have A2 := Lib.hid (A1.out.call hB2)
        have hH2 := cell_of_two A2.out.rec'
        refine hK.out _ _ hH2 (fun _ => ?_)
        obtain ⟨v3, w3, hr3, A3', hd⟩ := A2.out.more (by decide) i0 hi hz0 hz1 hz2 S1 S2 hk2
        have A3 := Lib.hid A3'
        have HR3 := Lib.hid hr3
        clear hK hB2 PV A1 hH1 A3' hr3
        refine wpAnyH_ready (rs := [7]) (by kernel_rfl) (by simp) (AllReadyH.cons rfl (fun K hK => ?_) AllReadyH.nil)
        rw [if_pos (by rfl)]
        go_simp
        refine hK.out _ _ (cell_of_two hd) (fun _ => ?_)
        clear hK hd
        refine wpAnyH_ready (rs := [8]) (by kernel_rfl) (by simp) (AllReadyH.cons rfl (fun K hK => ?_) AllReadyH.nil)
        rw [if_pos (by rfl)]
        refine wp_append_eq (.tmp 15) (.tmp 22) 35 rfl rfl rfl HR3.out ?_
        refine hK.out _ _ (cell_of_two A3.out.rec') (fun _ => ?_)
        clear hK
        dsimp only [Act.put]
        refine take_on (i := 9) (some 3) ?_ rfl rfl (by kernel_rfl) (by kernel_rfl) (by kernel_rfl) (fun _ _ _ h => h) (by rfl) (by assumption) ?_ ?_
        rotate_left 2
        · intro wx hSx
          (try dsimp only at hSx)
          (try obtain ⟨_, _⟩ := hSx)
          go_simp
          try with_reducible rfl
        rotate_left
        dsimp only [Act.put]
        refine wpAnyH_done (by kernel_rfl) ?_ _
        refine NoPanic.normal ?_
        go_wp2_with fail
        go_roundw
        case rel => exact ⟨k + 1, by omega, by go_num, Lib.hid (by rw [HWS.out, show 2 * (k + 1) = 2 * k + 2 by omega]; exact A3.out.row), A3.out.below⟩
        case measure => simp [intOf]; omega
      · obtain rfl : k = l.length := by omega
        have g1 : decide ((l.length : Int) < (l.length : Int)) = false := by simp
        have hr := HR.out
        rw [List.take_length] at hr
        have hn : 2 * l.length = ((wordsP l).map mkB).length := by rw [List.length_map, words_len]
        rw [words_vals, hn] at hr
        have hva := valsAt_of_row hr
        have hvs := row_slice hr
        have LT := Lib.hid (fun w v hv => listText_any v ((wordsP l).map mkB) w hv (by rw [List.length_map, words_len]; omega) (by rw [words_bytes]; have := HFL.out; omega))
        rw [words_bytes] at LT
        have hBx := Lib.hid hB
        clear hr hn hB HR
        go_wp2_with fail
        refine (LT.out _ _ hva).mono ?_
        rintro e w2 ⟨rfl, hB2⟩
        have hB3 := Lib.hid (hBx.out.trans (hB2.mono hBx.out.size))
        clear hB2
        go_wp2_with fail
        go_ret
        exact ⟨rfl, hB3.out⟩
end Go.Proofs.YtgebkpnieailbaaDoor
