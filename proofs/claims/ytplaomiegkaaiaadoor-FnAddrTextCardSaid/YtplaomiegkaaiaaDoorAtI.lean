/-
  Addresses: the walk of impl's AddrText.
-/
import Derived.Test.YtplaomiegkaaiaaDoorAtS
import Derived.Test.YtplaomiegkaaiaaDoorPsI
import Derived.Test.YtplaomiegkaaiaaDoorAppB
namespace Go.Proofs.YtplaomiegkaaiaaDoor
set_option linter.unusedVariables false
open Go.RowKit

/-- What a round keeps: the row, what was there ahead, and the round's own address. -/
structure AtW (w : World) (xb : Nat) (nm bx ho : ByteArray) (W : World) (v : Value) (L : List UInt8) (M : Nat) : Prop where
  row : W.ownsRow w.heap.size 5 1 v L.length (L.map bv)
  below : Below w.heap.size w W
  rec' : W.heap[xb]? = some (.cells #[.string nm, .string bx, .string ho] 29 (0, 0))
  len : L.length ≤ M
theorem AtW.byte {w : World} {xb : Nat} {nm bx ho : ByteArray} {W w1 : World} {v v' : Value} {L : List UInt8} {M : Nat} {tmp : Obj} (h : AtW w xb nm bx ho W v L M) (b : UInt8)
    (hown : w1.ownsRow w.heap.size 5 1 v' (L.length + 1) (L.map bv ++ [.int .u8 (b.toNat : Int)])) (hg : (W.alloc tmp).grownBy w1 v.ownBlock) : AtW w xb nm bx ho w1 v' (L ++ [b]) (M + 1) := by
  have hs := h.below.size
  refine ⟨by simpa [bv] using hown, app_below (h.below.alloc hs tmp) (h.row.alloc tmp) hg, two_kept (h.row.alloc tmp) hg ((Below.heap_alloc W tmp xb (heap_lt h.rec')).trans h.rec') (by decide), ?_⟩
  have := h.len
  simp
  omega
theorem AtW.str {w : World} {xb : Nat} {nm bx ho : ByteArray} {W w1 : World} {v v' : Value} {L : List UInt8} {M : Nat} (h : AtW w xb nm bx ho W v L M) (s : ByteArray) (K : Nat) (hK : s.size ≤ K)
    (hrow : w1.ownsRow w.heap.size 5 1 v' (L ++ s.data.toList).length ((L ++ s.data.toList).map bv)) (hg : W.grownBy w1 v.ownBlock) : AtW w xb nm bx ho w1 v' (L ++ s.data.toList) (M + K) := by
  refine ⟨hrow, app_below h.below h.row hg, two_kept h.row hg h.rec' (by decide), ?_⟩
  have := h.len
  rw [List.length_append, show s.data.toList.length = s.size by simp]
  omega
theorem AtW.call {w : World} {xb : Nat} {nm bx ho : ByteArray} {W w1 : World} {v : Value} {L : List UInt8} {M : Nat} (h : AtW w xb nm bx ho W v L M) (hB : Below W.heap.size W w1) : AtW w xb nm bx ho w1 v L M :=
  ⟨row_below h.row hB, h.below.trans (hB.mono h.below.size), (hB.block _ (heap_lt h.rec')).trans h.rec', h.len⟩
theorem cell_one_at (w : World) (v : Value) (T : TypeId) (g : Nat) (hg : g = w.heap.size) : ∀ j u, [v][j]? = some u → (w.alloc (.cells #[v] T)).cell? ((⟨g, 0, none⟩ : Addr).add j) = some u := by
  subst hg
  exact cell_one_new w v T
theorem nil5 : (⟨#[32, 78, 73, 76, 32]⟩ : ByteArray).size ≤ 5 := by decide
theorem addr_list (L : List UInt8) (a : Ad) (S1 S2 S3 : ByteArray) (h1 : S1 = mkB (nstr (!a.name.isEmpty) a.name)) (h2 : S2 = mkB (putStr a.box)) (h3 : S3 = mkB (putStr a.host)) :
    L ++ [40] ++ S1.data.toList ++ (⟨#[32, 78, 73, 76, 32]⟩ : ByteArray).data.toList ++ S2.data.toList ++ [32] ++ S3.data.toList ++ [41] = L ++ addrT a := by
  subst h1 h2 h3
  simp [addrT, mkB]

set_option maxRecDepth 100000 in
set_option maxHeartbeats 4000000 in
theorem implAddrText_any (v : Value) (l : List Ad) (w : World) (hv : AdsAt w v l) (hm : adSizes l ≤ 1048576) (hl : l.length ≤ 1048576) (ht : Tens w) :
    Calls Tryd.prog 26 #[v] w fun e w' => e = .returned (.string (mkB (addrTs l))) ∧ Below w.heap.size w w' := by
  obtain ⟨i0, hi, hz0, hz1, hz2⟩ := info_parts infoByteJ
  obtain ⟨p, cap, rfl⟩ := hv.slice
  have HV := Lib.hid hv
  have hfl := flat_len l (by omega)
  have HFL : Hid ((l.flatMap addrT).length ≤ 110000000) := Lib.hid (by omega)
  have HM := Lib.hid hm
  have TE := Lib.hid (fun W (h : Below w.heap.size w W) => ht.later h)
  clear hv hm hfl ht
  by_cases h0 : l.length = 0
  · obtain rfl : l = [] := List.eq_nil_of_length_eq_zero h0
    clear h0
    go_enter Tryd.func26, Tryd.ntmps26
    go_wp2
    go_ret
    exact ⟨rfl, Below.refl _ _⟩
  · have g0 : ((l.length : Int) == 0) = false := by rw [beq_eq_false_iff_ne]; omega
    have hA : addrTs l = 40 :: l.flatMap addrT ++ [41] := by unfold addrTs; rw [if_neg (by intro h; rw [h] at h0; simp at h0)]
    rw [hA]
    have hpos : 0 < l.length := Nat.pos_of_ne_zero h0
    obtain ⟨g, off, c2, hgv, hg, hc⟩ : ∃ g off c2, Value.slice p l.length cap = .slice (some ⟨g, off, none⟩) l.length c2 ∧ g < w.heap.size ∧ ∀ k, (h : k < l.length) → w.cell? ⟨g, off + k * 3, none⟩ = some (.string (mkB l[k].name)) ∧ w.cell? ⟨g, off + k * 3 + 1, none⟩ = some (.string (mkB l[k].box)) ∧ w.cell? ⟨g, off + k * 3 + 2, none⟩ = some (.string (mkB l[k].host)) := by
      rcases HV.out with ⟨h, _⟩ | h
      · rw [h] at hpos; simp at hpos
      · exact h
    injection hgv with hgv1 hgv2 hgv3
    subst hgv1 hgv3
    have HC := Lib.hid hc
    clear hc h0 hA HV
    go_enter Tryd.func26, Tryd.ntmps26
    go_wp2
    go_loopw [3, 12] (fun o i wr => ∃ (k : Nat) (L : List UInt8), k ≤ l.length ∧ i = .int .i64 (k : Int) ∧ Hid (L = 40 :: (l.take k).flatMap addrT) ∧ wr.ownsRow w.heap.size 5 1 o L.length (L.map bv) ∧ Below w.heap.size w wr) (fun _ i _ => l.length - (intOf i).toNat)
    case atStart => exact ⟨0, [40], Nat.zero_le _, rfl, Lib.hid (by simp), World.ownsRow_lit w #[.int .u8 40] 1 (Nat.le_refl _) (by decide) rfl, (Below.refl _ _).alloc (Nat.le_refl _) _⟩
    case round =>
      obtain ⟨k, L, hk, rfl, HL, hown, hB⟩ := hrel
      have hsz := hB.size
      by_cases hlt : k < l.length
      · have g1 : decide ((k : Int) < (l.length : Int)) = true := by simp; omega
        have i1 : (0 : Int) ≤ (k : Int) := by omega
        have i2 : (k : Int) < (l.length : Int) := by omega
        obtain ⟨x1, x2, x3⟩ := HC.out k hlt
        have htk := flat_take l k hlt
        have hle := flat_take_le l (k + 1)
        have hsm := adSizes_mem (List.getElem_mem hlt)
        have hM := HM.out
        have hF := HFL.out
        have hos : L.length = ((l.take k).flatMap addrT).length + 1 := by rw [HL.out]; simp
        generalize l[k] = a at x1 x2 x3 htk hsm
        rw [htk, List.length_append] at hle
        have HN : Hid (L ++ addrT a = 40 :: (l.take (k + 1)).flatMap addrT) := Lib.hid (by rw [HL.out, htk]; rfl)
        have n1 := nstr_len (!a.name.isEmpty) a.name (by unfold adSize at hsm; omega)
        have n2 := putStr_len a.box (by unfold adSize at hsm; omega)
        have n3 := putStr_len a.host (by unfold adSize at hsm; omega)
        have NE := fun w ht => implNString_any (mkB a.name) (!a.name.isEmpty) w (by rw [mkB_size]; unfold adSize at hsm; omega) ht
        have PB := Lib.hid (fun w ht => implPutString_any (mkB a.box) w (by rw [mkB_size]; unfold adSize at hsm; omega) ht)
        have PH := Lib.hid (fun w ht => implPutString_any (mkB a.host) w (by rw [mkB_size]; unfold adSize at hsm; omega) ht)
        rw [mkB_list] at PB PH
        have NEH := Lib.hid NE
        rw [mkB_list] at NEH
        rw [show ∀ l : List UInt8, (⟨l.toArray⟩ : ByteArray) = mkB l from fun _ => rfl] at PB PH NEH
        have hne : (!(mkB a.name).toList.isEmpty) = !a.name.isEmpty := by rw [Lib.toList_data, mkB_list]
        have m1 : (mkB (nstr (!a.name.isEmpty) a.name)).size ≤ 2097182 := by rw [mkB_size]; unfold adSize at hsm; omega
        have m2 : (mkB (putStr a.box)).size ≤ 2097182 := by rw [mkB_size]; unfold adSize at hsm; omega
        have m3 : (mkB (putStr a.host)).size ≤ 2097182 := by rw [mkB_size]; unfold adSize at hsm; omega
        have hL0 : L.length ≤ 110000001 := by omega
        obtain ⟨S1, h1⟩ : ∃ S, S = mkB (nstr (!a.name.isEmpty) a.name) := ⟨_, rfl⟩
        obtain ⟨S2, h2⟩ : ∃ S, S = mkB (putStr a.box) := ⟨_, rfl⟩
        obtain ⟨S3, h3⟩ : ∃ S, S = mkB (putStr a.host) := ⟨_, rfl⟩
        have hj := addr_list L a S1 S2 S3 h1 h2 h3
        rw [← h1] at NEH m1
        rw [← h2] at PB m2
        rw [← h3] at PH m3
        have HJ := Lib.hid hj
        have z1 : wr.cell? ⟨g, off + k * 3, none⟩ = some (.string (mkB a.name)) := (hB.cell (p := ⟨g, off + k * 3, none⟩) hg).trans x1
        have z2 : wr.cell? ⟨g, off + k * 3 + 1, none⟩ = some (.string (mkB a.box)) := (hB.cell (p := ⟨g, off + k * 3 + 1, none⟩) hg).trans x2
        have z3 : wr.cell? ⟨g, off + k * 3 + 2, none⟩ = some (.string (mkB a.host)) := (hB.cell (p := ⟨g, off + k * 3 + 2, none⟩) hg).trans x3
        rw [← hne] at NEH
        clear hj h1 h2 h3 NE hne x1 x2 x3 htk hle hsm hM hF hos n1 n2 n3
        generalize mkB a.name = nm at NEH z1
        generalize mkB a.box = bx at PB z2
        generalize mkB a.host = ho at PH z3
        have A0 := Lib.hid (AtW.mk (w := w) (xb := wr.heap.size) (nm := nm) (bx := bx) (ho := ho) (M := 110000001) (hown.alloc (.cells #[.string nm, .string bx, .string ho] 29)) (hB.alloc hsz _) (new_three wr _ _ _ _) hL0)
        clear hown hB HL
        go_wp2_with (first | (at_builtin; refine wpList_append_own _ rfl _ _ 22 rfl w.heap.size 5 i0 (.int .u8 0) 1 1 Tryd.underlying22 hi hz0 hz1 hz2 rfl (by decide) _ _ _ rfl (A0.out.row.alloc _) ⟨wr.heap.size + 1, 0, none⟩ 1 1 [.int .u8 40] rfl rfl (cell_one_at _ _ _ _ (by simp)) (by simp [Value.oneCell']) (by have := A0.out.len; unfold maxLen; omega) (by have := A0.out.len; omega) (by have := A0.out.below.size; simp; omega) ?_; intro v1 w1 hown hg _; have A1 := Lib.hid (A0.out.byte 40 hown hg); clear A0 hown hg; have c1 := (three_cells A1.out.rec').1) | (go_at_call 51; refine (NEH.out _ (TE.out _ A1.out.below)).mono ?_; rintro e w2 ⟨rfl, hBc⟩; have A2 := Lib.hid (A1.out.call hBc); clear A1 hBc NEH c1) | (at_builtin; refine Lib.wpList_append_own_string _ rfl _ _ 22 9 rfl w.heap.size 5 i0 Tryd.underlying22 Tryd.underlying9 hi hz0 hz1 hz2 _ _ _ rfl A2.out.row S1 rfl (by have := A2.out.len; have := m1; unfold maxLen; omega) (by have := A2.out.len; have := m1; omega) A2.out.below.size ?_; intro v3 w3 hown hg _; have A3 := Lib.hid (A2.out.str S1 2097182 m1 (row_app hown) hg); clear A2 hown hg) | (at_builtin; refine Lib.wpList_append_own_string _ rfl _ _ 22 9 rfl w.heap.size 5 i0 Tryd.underlying22 Tryd.underlying9 hi hz0 hz1 hz2 _ _ _ rfl A3.out.row (⟨#[32, 78, 73, 76, 32]⟩ : ByteArray) rfl (by have := A3.out.len; have := nil5; unfold maxLen; omega) (by have := A3.out.len; have := nil5; omega) A3.out.below.size ?_; intro v4 w4 hown hg _; have A4 := Lib.hid (A3.out.str (⟨#[32, 78, 73, 76, 32]⟩ : ByteArray) 5 nil5 (row_app hown) hg); clear A3 hown hg; have c4 := (three_cells A4.out.rec').2.1) | (go_at_call 52; refine (PB.out _ (TE.out _ A4.out.below)).mono ?_; rintro e w5 ⟨rfl, hBc⟩; have A5 := Lib.hid (A4.out.call hBc); clear A4 hBc PB c4) | (at_builtin; refine Lib.wpList_append_own_string _ rfl _ _ 22 9 rfl w.heap.size 5 i0 Tryd.underlying22 Tryd.underlying9 hi hz0 hz1 hz2 _ _ _ rfl A5.out.row S2 rfl (by have := A5.out.len; have := m2; unfold maxLen; omega) (by have := A5.out.len; have := m2; omega) A5.out.below.size ?_; intro v6 w6 hown hg _; have A6 := Lib.hid (A5.out.str S2 2097182 m2 (row_app hown) hg); clear A5 hown hg) | (at_builtin; refine wpList_append_own _ rfl _ _ 22 rfl w.heap.size 5 i0 (.int .u8 0) 1 1 Tryd.underlying22 hi hz0 hz1 hz2 rfl (by decide) _ _ _ rfl (A6.out.row.alloc _) ⟨w6.heap.size, 0, none⟩ 1 1 [.int .u8 32] rfl rfl (cell_one_at _ _ _ _ (by simp)) (by simp [Value.oneCell']) (by have := A6.out.len; unfold maxLen; omega) (by have := A6.out.len; omega) (by have := A6.out.below.size; simp; omega) ?_; intro v7 w7 hown hg _; have A7 := Lib.hid (A6.out.byte 32 hown hg); clear A6 hown hg; have c7 := (three_cells A7.out.rec').2.2) | (go_at_call 52; refine (PH.out _ (TE.out _ A7.out.below)).mono ?_; rintro e w8 ⟨rfl, hBc⟩; have A8 := Lib.hid (A7.out.call hBc); clear A7 hBc PH c7) | (at_builtin; refine Lib.wpList_append_own_string _ rfl _ _ 22 9 rfl w.heap.size 5 i0 Tryd.underlying22 Tryd.underlying9 hi hz0 hz1 hz2 _ _ _ rfl A8.out.row S3 rfl (by have := A8.out.len; have := m3; unfold maxLen; omega) (by have := A8.out.len; have := m3; omega) A8.out.below.size ?_; intro v9 w9 hown hg _; have A9 := Lib.hid (A8.out.str S3 2097182 m3 (row_app hown) hg); clear A8 hown hg) | (at_builtin; refine wpList_append_own _ rfl _ _ 22 rfl w.heap.size 5 i0 (.int .u8 0) 1 1 Tryd.underlying22 hi hz0 hz1 hz2 rfl (by decide) _ _ _ rfl (A9.out.row.alloc _) ⟨w9.heap.size, 0, none⟩ 1 1 [.int .u8 41] rfl rfl (cell_one_at _ _ _ _ (by simp)) (by simp [Value.oneCell']) (by have := A9.out.len; unfold maxLen; omega) (by have := A9.out.len; omega) (by have := A9.out.below.size; simp; omega) ?_; intro v10 w10 hown hg _; have A10 := Lib.hid (A9.out.byte 41 hown hg); clear A9 hown hg))
        go_wp2_with fail
        go_roundw
        case rel => exact ⟨k + 1, L ++ addrT a, by omega, by go_num, HN, by rw [← HJ.out]; exact A10.out.row, A10.out.below⟩
        case measure => simp [intOf]; omega
      · obtain rfl : k = l.length := by omega
        have g1 : decide ((l.length : Int) < (l.length : Int)) = false := by simp
        have hos : L.length ≤ 110000001 := by
          have h := HFL.out
          rw [HL.out, List.take_length, List.length_cons]
          omega
        have HF : Hid (L ++ [41] = 40 :: (l.flatMap addrT ++ [41])) := Lib.hid (by rw [HL.out, List.take_length]; rfl)
        clear HL
        go_wp2_with (first | (at_builtin; refine wpList_append_own _ rfl _ _ 22 rfl w.heap.size 5 i0 (.int .u8 0) 1 1 Tryd.underlying22 hi hz0 hz1 hz2 rfl (by decide) _ _ _ rfl (hown.alloc _) ⟨wr.heap.size, 0, none⟩ 1 1 [.int .u8 41] rfl rfl (cell_one_new _ _ _) (by simp [Value.oneCell']) (by unfold maxLen; omega) (by omega) (by simp; omega) ?_; intro v3 w3 hO3 hg3 _; have hB3 : Below w.heap.size w w3 := (hB.alloc hsz _).grown hg3 (by simp; omega) (fun k e => (hown.lt k e).1); have hrow : w3.ownsRow w.heap.size 5 1 v3 (L ++ [41]).length ((L ++ [41]).map bv) := (by simpa [bv] using hO3); have hback := rowJ_back (P := Tryd.prog) hrow 22 9 5 Tryd.underlying22 Tryd.underlying5 Tryd.underlying9))
        go_ret
        exact ⟨by rw [← HF.out]; rfl, hB3⟩
end Go.Proofs.YtplaomiegkaaiaaDoor
