/-
  Slices of numbers: the walks of the laws' toIntS, eqIntS (where they are equal), markIntS.
-/
import Derived.Test.YtilljhmkjlnnbaaIsRow
import Derived.Test.YtilljhmkjlnnbaaGrown
import Derived.Test.YtilljhmkjlnnbaaVals
import Derived.Maps.AppendAt
namespace Go.Proofs.Ytilljhmkjlnnbaa
set_option linter.unusedVariables false
open Go.RowKit

def iv (n : Int) : Value := .int .i64 n
theorem IsRow.ints {w : World} {a : Option Addr} {len cap : Nat} {zs : List Int} (h : IsRow .i64 w a len cap zs) (j : Nat) (hj : j < len) :
    ∃ b off, a = some ⟨b, off, none⟩ ∧ w.cell? ⟨b, off + j, none⟩ = some (.int .i64 (zs.getD j 0)) ∧ -9223372036854775808 ≤ zs.getD j 0 ∧ zs.getD j 0 ≤ 9223372036854775807 ∧ b < w.heap.size := by
  rcases h with ⟨_, h, _⟩ | ⟨x, rfl, h1, _, h3, h4, h5⟩
  · omega
  · obtain ⟨b, off, spot⟩ := x
    have hc := h4 j (by omega)
    have hspot : spot = none := by
      have := h4 0 (by omega)
      cases spot with
      | none => rfl
      | some s => simp [World.cell?, Addr.add] at this; split at this <;> simp at this
    subst hspot
    have hm : zs.getD j 0 ∈ zs := by
      rw [List.getD_eq_getElem?_getD, List.getElem?_eq_getElem (by omega)]
      exact List.getElem_mem _
    have hw := h5 _ hm
    generalize zs.getD j 0 = q at hw hc hm
    have hb : -9223372036854775808 ≤ q ∧ q ≤ 9223372036854775807 := by simpa [Lit.wf, IntKind.min, IntKind.max, IntKind.signed, IntKind.bits] using hw
    have hc' : w.cell? ⟨b, off + j, none⟩ = some (.int .i64 q) := by
      have e : (⟨b, off, none⟩ : Addr).add j = ⟨b, off + j, none⟩ := by unfold Addr.add; split <;> simp_all
      rw [← e]; exact hc
    exact ⟨b, off, rfl, hc', hb.1, hb.2, block_lt_of_cell hc'⟩

theorem IsRow.ints_below {w w' : World} {a : Option Addr} {len cap : Nat} {zs : List Int} {B : Nat} (h : IsRow .i64 w a len cap zs) (hb : Below B w w') (hB : w.heap.size ≤ B) : IsRow .i64 w' a len cap zs := by
  rcases h with h | ⟨x, rfl, h1, h2, h3, h4, h5⟩
  · exact .inl h
  · refine .inr ⟨x, rfl, h1, h2, h3, fun i hi => ?_, h5⟩
    have := block_lt_of_cell (h4 i hi)
    rw [hb.cell (by omega)]
    exact h4 i hi

/-- The call hands back a slice that owns the numbers l; nothing that was there has turned. -/
def GivesInts (l : List Int) (w : World) (e : Ending) (w' : World) : Prop :=
  ∃ v, e = .returned v ∧ w'.ownsRow w.heap.size 3 1 v l.length (l.map iv) ∧ Below w.heap.size w w'
theorem infoInt : (Try.prog.info? 3).map (fun i => (i.zero, i.size, i.bytes)) = some (some (.int .i64 0), 1, 8) := by kernel_rfl

def filled (zs : List Int) (n j : Nat) : List Int := zs.take j ++ List.replicate (n - j) 0
theorem filled_len (zs : List Int) (n j : Nat) (h : j ≤ n) (hz : n ≤ zs.length) : (filled zs n j).length = n := by
  unfold filled
  simp
  omega
theorem filled_set (zs : List Int) (n j : Nat) (h : j < n) (hz : n ≤ zs.length) : (filled zs n j).set j (zs.getD j 0) = filled zs n (j + 1) := by
  unfold filled
  have hl : (zs.take j).length = j := by simp; omega
  rw [List.set_append_right _ _ (by omega), hl, Nat.sub_self, show n - j = (n - (j + 1)) + 1 by omega, List.replicate_succ, List.set_cons_zero, List.take_add_one, List.getD_eq_getElem?_getD, List.getElem?_eq_getElem (by omega)]
  rw [List.append_assoc]
  rfl

set_option maxRecDepth 100000 in
set_option maxHeartbeats 1000000 in
theorem toIntS_any (a : Option Addr) (len cap : Nat) (zs : List Int) (w0 w : World) (hr : IsRow .i64 w0 a len cap zs) (hb : Below w0.heap.size w0 w) (hl : len ≤ 1048576) :
    Calls Try.prog 16 #[.slice a len cap] w (GivesInts (zs.take len) w) := by
  obtain ⟨i0, hi, hz0, hz1, hz2⟩ := info_parts infoInt
  have hzl : len ≤ zs.length := by
    rcases hr with ⟨_, h1, _, _⟩ | ⟨_, _, h1, _, h3, _⟩ <;> omega
  have HR := Lib.hid hr
  have HB := Lib.hid hb
  clear hr hb
  go_enter Try.func16, Try.ntmps16
  go_wp2_with fail
  obtain ⟨w3, hrun, r1, r2⟩ := run_make_full (P := Try.prog) w w.heap.size 24 3 i0 (.int .i64 0) 1 Try.underlying24 hi hz0 hz1 .i64 .i64 len (by rw [hz2]; omega) (by unfold maxLen; omega) (Nat.le_refl _)
  have hmc : (madeCells (Value.int .i64 0).cells (len * 1)).toList = (filled zs len 0).map iv := by
    unfold filled
    apply List.ext_getElem
    · simp [madeCells]
    · intro i h1 h2
      simp [madeCells, iv, Value.cells, Nat.mod_one]
  rw [hmc] at r1
  have hgr : Below w.heap.size w w3 := ⟨r2.os, r2.tape, r2.output, r2.size, fun k hk => r2.block k hk (by simp)⟩
  clear r2 hmc
  have R1 := Lib.hid r1
  clear r1
  rw [hrun]
  clear hrun
  go_wp2_with fail
  go_loopw [4] (fun i wr => ∃ j : Nat, j ≤ len ∧ i = .int .i64 (j : Int) ∧ Hid (wr.ownsRow w.heap.size 3 1 (.slice (some ⟨w.heap.size, 0, none⟩) len len) len ((filled zs len j).map iv)) ∧ Below w.heap.size w wr) (fun i _ => len - (intOf i).toNat)
  case atStart => exact ⟨0, Nat.zero_le _, rfl, R1, hgr⟩
  case round =>
    obtain ⟨j, hj, rfl, hrow, hB⟩ := hrel
    by_cases hlt : j < len
    · obtain ⟨b, off, ha, hcn0, hn0, hn1, hbl⟩ := HR.out.ints j hlt
      have hsz0 := HB.out.size
      have hcn : wr.cell? ⟨b, off + j, none⟩ = some (.int .i64 (zs.getD j 0)) := ((hB.cell (p := ⟨b, off + j, none⟩) (by show b < _; omega)).trans (HB.out.cell (p := ⟨b, off + j, none⟩) hbl)).trans hcn0
      have hc1 := hrow.out.cellAt j (by omega)
      rw [List.getElem?_eq_getElem (by rw [List.length_map, filled_len _ _ _ hj hzl]; exact hlt)] at hc1
      have hf1 := hrow.out.frozenAt j
      have h1 := (hrow.out.stored j (iv (zs.getD j 0))).1
      rw [← List.map_set, filled_set zs len j hlt hzl] at h1
      have H1 := Lib.hid h1
      have hBB : Below w.heap.size w (wr.setCell ⟨w.heap.size, j, none⟩ (iv (zs.getD j 0))) := hB.setCell (by simp) _
      have HBB := Lib.hid hBB
      unfold iv at H1 HBB
      rw [ha]
      clear hcn0 h1 hBB
      generalize zs.getD j 0 = q at hcn hn0 hn1 H1 HBB
      have i1 : (0 : Int) ≤ (j : Int) := by omega
      have i2 : (j : Int) < (len : Int) := by omega
      go_wp2_with fail
      go_roundw
      case rel => exact ⟨j + 1, by omega, by go_num, H1, HBB.out⟩
      case measure => simp [intOf]; omega
    · obtain rfl : j = len := by omega
      have hfin : filled zs j j = zs.take j := by unfold filled; simp
      rw [hfin] at hrow
      go_wp2_with fail
      go_ret
      have hl2 : (zs.take j).length = j := by simp; omega
      exact ⟨_, rfl, by rw [hl2]; exact hrow.out, hB⟩

set_option maxRecDepth 100000 in
set_option maxHeartbeats 1000000 in
theorem eqIntS_yes (va vb : Value) (l : List Int) (w : World) (ha : ValsAt w va (l.map iv)) (hb : ValsAt w vb (l.map iv)) (hl : l.length ≤ 4294967296) :
    Calls Try.prog 18 #[va, vb] w fun e w' => e = .returned (.bool true) ∧ Quietly w w' := by
  by_cases h0 : l.length = 0
  · obtain rfl : l = [] := List.eq_nil_of_length_eq_zero h0
    obtain ⟨p, cap, rfl⟩ : ∃ p cap, va = .slice p 0 cap := by
      rcases ha with ⟨_, h⟩ | ⟨g, cap, h, _⟩
      · exact h
      · exact ⟨_, _, h⟩
    obtain ⟨q, cbp, rfl⟩ : ∃ p cap, vb = .slice p 0 cap := by
      rcases hb with ⟨_, h⟩ | ⟨g, cap, h, _⟩
      · exact h
      · exact ⟨_, _, h⟩
    clear ha hb h0
    go_enter Try.func18, Try.ntmps18
    go_wp2
    go_loop [5] (fun i => i = .int .i64 0) (fun _ => 0)
    case atStart => rfl
    case round =>
      obtain rfl := hrel
      go_wp2
      go_ret
      exact ⟨rfl, Quietly.refl _⟩
  · rcases ha with ⟨h, _⟩ | ⟨ga, ca, rfl, _, hca⟩
    · exact absurd (by simpa using h) (fun e : l = [] => h0 (by rw [e]; rfl))
    rcases hb with ⟨h, _⟩ | ⟨gb, cb, rfl, _, hcb⟩
    · exact absurd (by simpa using h) (fun e : l = [] => h0 (by rw [e]; rfl))
    simp only [List.length_map] at hca hcb ⊢
    have HCA := Lib.hid hca
    have HCB := Lib.hid hcb
    clear hca hcb
    go_enter Try.func18, Try.ntmps18
    go_wp2
    go_loopw [5] (fun i wr => ∃ k : Nat, k ≤ l.length ∧ i = .int .i64 k ∧ Quietly w wr) (fun i _ => l.length - (intOf i).toNat)
    case atStart => exact ⟨0, Nat.zero_le _, rfl, Quietly.refl _⟩
    case round =>
      obtain ⟨k, hk, rfl, hq⟩ := hrel
      have HQ := Lib.hid hq
      clear hq
      by_cases hlt : k < l.length
      · have hka : (l.map iv)[k]? = some (iv l[k]) := by rw [List.getElem?_map, List.getElem?_eq_getElem hlt]; rfl
        have hc1 : wr.cell? ⟨ga, k, none⟩ = some (.int .i64 l[k]) := by
          have := (HCA.out k hlt).1
          rw [hka] at this
          simp only [World.cell?, HQ.out.1] at this ⊢
          exact this
        have hc2 : wr.cell? ⟨gb, k, none⟩ = some (.int .i64 l[k]) := by
          have := (HCB.out k hlt).1
          rw [hka] at this
          simp only [World.cell?, HQ.out.1] at this ⊢
          exact this
        have i1 : (0 : Int) ≤ (k : Int) := by omega
        have i2 : (k : Int) < (l.length : Int) := by omega
        generalize l[k] = q at hc1 hc2
        clear hka
        go_wp2_with fail
        go_quiet (fail)
        go_wp2_with fail
        go_roundw
        case rel => exact ⟨k + 1, by omega, by go_num, HQ.out.drewN _⟩
        case measure => simp [intOf]; omega
      · obtain rfl : k = l.length := by omega
        go_wp2_with fail
        go_ret
        exact ⟨rfl, HQ.out⟩

def nums (k : Nat) : Nat → List Int
  | 0 => []
  | n + 1 => (k : Int) :: nums (k + 1) n
/-- Numbers are marked: those that were there are gone. -/
def MarksInts (v : Value) (n k B : Nat) (w : World) (e : Ending) (w' : World) : Prop :=
  e = .returned (.int .i64 ((k + n : Nat) : Int)) ∧ (∃ l : List Int, w'.ownsRow B 3 1 v n (l.map iv)) ∧ w.grownBy w' v.ownBlock
set_option maxRecDepth 100000 in
set_option maxHeartbeats 1000000 in
theorem markIntS_any (v : Value) (l : List Int) (k B : Nat) (w : World) (hrow : w.ownsRow B 3 1 v l.length (l.map iv)) (hl : l.length ≤ 100000000) (hk : k ≤ 100000000) :
    Calls Try.prog 19 #[v, .int .i64 k] w (MarksInts v l.length k B w) := by
  by_cases h0 : l.length = 0
  · obtain rfl : l = [] := List.eq_nil_of_length_eq_zero h0
    obtain ⟨p, cap, rfl⟩ : ∃ p cap, v = .slice p 0 cap := by
      rcases valsAt_of_row hrow with ⟨_, h⟩ | ⟨g, cap, h, _⟩
      · exact h
      · exact ⟨_, _, h⟩
    have HROW := Lib.hid hrow
    clear hrow h0
    go_enter Try.func19, Try.ntmps19
    go_wp2
    go_loop [1, 5] (fun m i => i = .int .i64 0 ∧ m = .int .i64 k) (fun _ _ => 0)
    case atStart => exact ⟨rfl, rfl⟩
    case round =>
      obtain ⟨rfl, rfl⟩ := hrel
      go_wp2
      go_ret
      exact ⟨rfl, ⟨[], HROW.out⟩, grownBy_refl _ _⟩
  · obtain ⟨g, cap, rfl⟩ : ∃ g cap, v = .slice (some ⟨g, 0, none⟩) l.length cap := by
      rcases valsAt_of_row hrow with ⟨h, _⟩ | ⟨g, cap, h, _⟩
      · exact absurd (by simpa using h) (fun e : l = [] => h0 (by rw [e]; rfl))
      · exact ⟨g, cap, by simpa using h⟩
    have HROW := Lib.hid hrow
    clear hrow h0
    go_enter Try.func19, Try.ntmps19
    go_wp2
    go_loopw [1, 5] (fun m i wr => ∃ (j : Nat) (l2 : List Int), l2.length = l.length ∧ j ≤ l.length ∧ i = .int .i64 j ∧ m = .int .i64 (k + j : Nat) ∧ Hid (wr.ownsRow B 3 1 (.slice (some ⟨g, 0, none⟩) l.length cap) l.length (l2.map iv)) ∧ w.grownBy wr (some g)) (fun _ i _ => l.length - (intOf i).toNat)
    case atStart => exact ⟨0, l, rfl, Nat.zero_le _, rfl, rfl, HROW, grownBy_refl _ _⟩
    case round =>
      obtain ⟨j, l2, hl2, hj, rfl, rfl, hr, hgr⟩ := hrel
      have HL2 := Lib.hid hl2
      by_cases hlt : j < l.length
      · have hc0 := hr.out.cellAt j (by omega)
        obtain ⟨u, hc1⟩ : ∃ u, wr.cell? ⟨g, j, none⟩ = some u := ⟨_, hc0.trans (List.getElem?_eq_getElem (by rw [List.length_map, hl2]; exact hlt))⟩
        have hf1 := hr.out.frozenAt j
        have h1 := (hr.out.stored j (iv ((k + j : Nat) : Int))).1
        rw [← List.map_set] at h1
        have H1 := Lib.hid h1
        have i1 : (0 : Int) ≤ (j : Int) := by omega
        have i2 : (j : Int) < (l.length : Int) := by omega
        clear h1 hl2 hc0
        go_wp2_with fail
        go_roundw
        case rel => exact ⟨j + 1, _, by rw [List.length_set]; exact HL2.out, by omega, by go_num, by go_num, H1, grownBy_set hgr _ _⟩
        case measure => simp [intOf]; omega
      · obtain rfl : j = l.length := by omega
        clear hl2
        go_wp2_with fail
        go_ret
        exact ⟨rfl, ⟨l2, hr.out⟩, hgr⟩
end Go.Proofs.Ytilljhmkjlnnbaa
