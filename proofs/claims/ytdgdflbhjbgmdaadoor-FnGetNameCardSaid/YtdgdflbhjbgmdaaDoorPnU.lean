/-
  Names: the walks of impl's unitsOf and addUnits.
-/
import Derived.Test.YtdgdflbhjbgmdaaDoorPnP
import Derived.Test.YtdgdflbhjbgmdaaDoorRow
namespace Go.Proofs.YtdgdflbhjbgmdaaDoor
set_option linter.unusedVariables false
open Go.RowKit

theorem i32_and10 (n : Nat) (hn : n < 2147483648) : bits .and .i32 (n : Int) 1023 = ((n % 1024 : Nat) : Int) := by
  have key : (BitVec.ofInt 32 (n : Int) &&& BitVec.ofInt 32 1023) = BitVec.ofNat 32 (n % 1024) := by
    apply BitVec.eq_of_toNat_eq
    have h1 : (BitVec.ofInt 32 (1023 : Int)).toNat = 2 ^ 10 - 1 := by decide
    rw [BitVec.toNat_and, h1, Nat.and_two_pow_sub_one_eq_mod, BitVec.ofInt_natCast, BitVec.toNat_ofNat, BitVec.toNat_ofNat]
    omega
  show IntKind.i32.wrap ((BitVec.ofInt 32 (n : Int) &&& BitVec.ofInt 32 1023).toNat : Nat) = _
  rw [key, BitVec.toNat_ofNat, IntKind.wrap_i32]
  omega

theorem cell_new (w : World) (T : TypeId) (cs : Array Value) (j : Nat) : (w.alloc (Obj.cells cs T)).cell? ⟨w.heap.size, j, none⟩ = cs[j]? := by
  have hg : (w.alloc (Obj.cells cs T)).heap[w.heap.size]? = some (.cells cs T (0, 0)) := heap_alloc_new _ _
  simp only [World.cell?, hg]
  simp

/-- The halves of a sign, in an array of two. -/
def unitA (r : Nat) : Nat := if r < 65536 then r else 55296 + (r - 65536) / 1024
def unitB (r : Nat) : Nat := if r < 65536 then 0 else 56320 + (r - 65536) % 1024
def unitC (r : Nat) : Nat := if r < 65536 then 1 else 2

set_option maxRecDepth 100000 in
set_option maxHeartbeats 400000 in
theorem unitsOf_any (r : Nat) (w : World) (hr : r ≤ 1114111) :
    Calls Tryd.prog 39 #[.int .i32 r] w fun e w' => e = .returned (.tuple #[.agg #[.int .i32 (unitA r : Int), .int .i32 (unitB r : Int)], .int .i64 (unitC r : Int)]) ∧ Below w.heap.size w w' := by
  by_cases h1 : r < 65536
  · have h1' : (r : Int) < 65536 := by omega
    have e1 : unitA r = r := by unfold unitA; rw [if_pos h1]
    have e2 : unitB r = 0 := by unfold unitB; rw [if_pos h1]
    have e3 : unitC r = 1 := by unfold unitC; rw [if_pos h1]
    rw [e1, e2, e3]
    clear e1 e2 e3
    go_enter Tryd.func39, Tryd.ntmps39
    go_wp2_with fail
    have q0 : (w.alloc (Obj.cells #[Value.int IntKind.i32 (r : Int), Value.int IntKind.i32 0] 47)).cell? ⟨w.heap.size, 0, none⟩ = some (.int .i32 (r : Int)) := (cell_new _ _ _ 0)
    have q1 : (w.alloc (Obj.cells #[Value.int IntKind.i32 (r : Int), Value.int IntKind.i32 0] 47)).cell? ⟨w.heap.size, 1, none⟩ = some (.int .i32 0) := (cell_new _ _ _ 1)
    refine bodyPost_ret (v := .tuple #[.agg #[.int .i32 (r : Int), .int .i32 0], .int .i64 1]) (by simp [results, Tryd.results39, go_sem, q0, q1]) rfl ⟨rfl, (Below.refl _ _).alloc (Nat.le_refl _) _⟩
  · have h1' : decide ((r : Int) < 65536) = false := by simp; omega
    have e1 : unitA r = 55296 + (r - 65536) / 1024 := by unfold unitA; rw [if_neg h1]
    have e2 : unitB r = 56320 + (r - 65536) % 1024 := by unfold unitB; rw [if_neg h1]
    have e3 : unitC r = 2 := by unfold unitC; rw [if_neg h1]
    have h2' : (65536 : Int) ≤ (r : Int) := by omega
    have h3' : (r : Int) ≤ 1114111 := by omega
    have e4 : ((unitA r : Nat) : Int) = 55296 + ((r : Int) - 65536) / 1024 := by rw [e1]; omega
    have e5 : bits .and .i32 ((r : Int) - 65536) 1023 = ((r : Int) - 65536) % 1024 := by
      have := i32_and10 (r - 65536) (by omega)
      rw [show ((r - 65536 : Nat) : Int) = (r : Int) - 65536 by omega] at this
      rw [this]
      omega
    have e6 : ((unitB r : Nat) : Int) = 56320 + ((r : Int) - 65536) % 1024 := by rw [e2]; omega
    rw [e4, e6, e3]
    clear e1 e2 e3 e4 e6 h1
    go_enter Tryd.func39, Tryd.ntmps39
    go_wp2_with fail
    have q0 : (w.alloc (Obj.cells #[Value.int IntKind.i32 (55296 + ((r : Int) - 65536) / 1024), Value.int IntKind.i32 (56320 + ((r : Int) - 65536) % 1024)] 47)).cell? ⟨w.heap.size, 0, none⟩ = some (.int .i32 (55296 + ((r : Int) - 65536) / 1024)) := (cell_new _ _ _ 0)
    have q1 : (w.alloc (Obj.cells #[Value.int IntKind.i32 (55296 + ((r : Int) - 65536) / 1024), Value.int IntKind.i32 (56320 + ((r : Int) - 65536) % 1024)] 47)).cell? ⟨w.heap.size, 1, none⟩ = some (.int .i32 (56320 + ((r : Int) - 65536) % 1024)) := (cell_new _ _ _ 1)
    refine bodyPost_ret (v := .tuple #[.agg #[.int .i32 (55296 + ((r : Int) - 65536) / 1024), .int .i32 (56320 + ((r : Int) - 65536) % 1024)], .int .i64 2]) (by simp [results, Tryd.results39, go_sem, q0, q1]) rfl ⟨rfl, (Below.refl _ _).alloc (Nat.le_refl _) _⟩

/-- The halves of a sign are appended to a row of the call's own. -/
def AddsUnits (r : Nat) (B n : Nat) (xs : List Value) (w : World) (e : Ending) (w' : World) : Prop :=
  ∃ v', e = .returned v' ∧ w'.ownsRow B 5 1 v' (n + (halvesL r).length) (xs ++ (halvesL r).map bv) ∧ Below B w w'

theorem cells_new (w : World) (T : TypeId) (cs : Array Value) : ∀ j u, cs.toList[j]? = some u → (w.alloc (Obj.cells cs T)).cell? ((⟨w.heap.size, 0, none⟩ : Addr).add j) = some u := by
  intro j u h
  have hadd : (⟨w.heap.size, 0, none⟩ : Addr).add j = ⟨w.heap.size, j, none⟩ := by unfold Addr.add; split <;> simp_all
  rw [hadd, cell_new, ← h]
  simp
theorem cell_kept {w : World} {a : Addr} {v : Value} (h : w.cell? a = some v) (o : Obj) : (w.alloc o).cell? a = some v := by
  have hl := World.block_lt_of_cell? w a h
  rw [← h]
  apply World.cell?_of_block
  exact Below.heap_alloc w o _ hl
def prefU (a b j : Nat) : List UInt8 := if j = 0 then [] else if j = 1 then unit2 a else unit2 a ++ unit2 b
theorem unit_cells (a : Nat) (ha : a < 65536) : (unit2 a).map bv = [.int .u8 ((a : Int) / 256), .int .u8 ((a : Int) % 256)] := by
  have e1 : bv (UInt8.ofNat (a / 256)) = .int .u8 ((a : Int) / 256) := by
    rw [bv_nat _ (by omega)]
    congr 1
  have e2 : bv (UInt8.ofNat a) = .int .u8 ((a : Int) % 256) := by
    unfold bv
    rw [UInt8.toNat_ofNat']
    congr 1
  unfold unit2
  rw [List.map_cons, List.map_cons, List.map_nil, e1, e2]
theorem unit_cases (r : Nat) (hr : r ≤ 1114111) : unitA r < 65536 ∧ unitB r < 65536 ∧ ((unitC r = 1 ∧ halvesL r = unit2 (unitA r)) ∨ (unitC r = 2 ∧ halvesL r = unit2 (unitA r) ++ unit2 (unitB r))) := by
  unfold unitA unitB unitC halvesL
  by_cases h : r < 65536
  · simp only [if_pos h]
    exact ⟨h, by omega, .inl ⟨trivial, trivial⟩⟩
  · simp only [if_neg h]
    exact ⟨by omega, by omega, .inr ⟨trivial, trivial⟩⟩

set_option maxRecDepth 100000 in
set_option maxHeartbeats 1000000 in
theorem addUnits_any (v : Value) (n : Nat) (xs : List Value) (B r : Nat) (w : World) (hr : r ≤ 1114111) (hB : B ≤ w.heap.size) (hn : n ≤ 100000000) (hown : w.ownsRow B 5 1 v n xs) :
    Calls Tryd.prog 24 #[v, .int .i32 r] w (AddsUnits r B n xs w) := by
  obtain ⟨i0, hi, hz0, hz1, hz2⟩ := info_parts infoByteJ
  have hU := fun w => unitsOf_any r w hr
  obtain ⟨ha, hb, hcase⟩ := unit_cases r hr
  generalize unitA r = a at hU ha hcase
  generalize unitB r = b at hU hb hcase
  generalize unitC r = c at hU hcase
  unfold AddsUnits
  generalize halvesL r = HL at hcase
  have U := Lib.hid hU
  have OWN := Lib.hid hown
  have hca := unit_cells a ha
  have hcb := unit_cells b hb
  have HCA := Lib.hid hca
  have HCB := Lib.hid hcb
  clear hU hown hca hcb
  rcases hcase with ⟨rfl, rfl⟩ | ⟨rfl, rfl⟩
  · go_enter Tryd.func24, Tryd.ntmps24
    go_wp2_with fail
    refine (U.out _).mono ?_
    rintro e w1 ⟨rfl, hB1⟩
    go_wp2_with fail
    have hsz1 := hB1.size
    have B1 : Hid (Below B w w1) := Lib.hid (hB1.mono hB)
    have OWN1 : Hid ((w1.alloc (Obj.cells #[Value.int IntKind.i32 (a : Int), Value.int IntKind.i32 (b : Int)] 47)).ownsRow B 5 1 v n xs) := Lib.hid ((OWN.out.kept (row := none) ⟨hB1.os, hB1.tape, hB1.output, hB1.size, fun k hk _ => hB1.block k hk⟩ (by cases Value.ownBlock v <;> simp)).alloc _)
    have NEV : Hid (v.ownBlock ≠ some w1.heap.size) := Lib.hid (fun e => by have := (OWN.out.lt _ e).2; omega)
    have hc0 : (w1.alloc (Obj.cells #[Value.int IntKind.i32 (a : Int), Value.int IntKind.i32 (b : Int)] 47)).cell? ⟨w1.heap.size, 0, none⟩ = some (.int .i32 (a : Int)) := cell_new _ _ _ 0
    have hc1 : (w1.alloc (Obj.cells #[Value.int IntKind.i32 (a : Int), Value.int IntKind.i32 (b : Int)] 47)).cell? ⟨w1.heap.size, 1, none⟩ = some (.int .i32 (b : Int)) := cell_new _ _ _ 1
    have HC0 := Lib.hid hc0
    have HC1 := Lib.hid hc1
    have hww : B ≤ (w1.alloc (Obj.cells #[Value.int IntKind.i32 (a : Int), Value.int IntKind.i32 (b : Int)] 47)).heap.size := by simp; omega
    have BW : Hid (Below B w (w1.alloc (Obj.cells #[Value.int IntKind.i32 (a : Int), Value.int IntKind.i32 (b : Int)] 47))) := Lib.hid (B1.out.alloc (by omega) _)
    clear hc0 hc1 hB1
    go_loopw [0, 17] (fun l i wr => ∃ (j : Nat), j ≤ 1 ∧ i = .int .i64 (j : Int) ∧ Hid (wr.ownsRow B 5 1 l (n + 2 * j) (xs ++ (prefU a b j).map bv)) ∧ Hid (j = 0 → wr.cell? ⟨w1.heap.size, 0, none⟩ = some (.int .i32 (a : Int)) ∧ l.ownBlock ≠ some w1.heap.size) ∧ Hid (j ≤ 1 → wr.cell? ⟨w1.heap.size, 1, none⟩ = some (.int .i32 (b : Int))) ∧ Hid (Below B w wr) ∧ B ≤ wr.heap.size) (fun _ i _ => 1 - (intOf i).toNat)
    case atStart => exact ⟨0, by omega, rfl, Lib.hid (by simpa [prefU] using OWN1.out), Lib.hid (fun _ => ⟨HC0.out, NEV.out⟩), Lib.hid (fun _ => HC1.out), BW, hww⟩
    case round =>
      obtain ⟨j, hj, rfl, HO, HJ0, HJ1, BB, hwr⟩ := hrel
      obtain rfl | rfl : j = 0 ∨ j = 1 := by omega
      · have hown' := HO.out
        have hcell := (HJ0.out rfl).1
        have hne := (HJ0.out rfl).2
        simp only [Nat.mul_zero, Nat.add_zero] at hown'
        go_wp2_with (at_builtin; refine wpList_append_own _ rfl _ _ 22 rfl B 5 i0 (.int .u8 0) 1 1 Tryd.underlying22 hi hz0 hz1 hz2 rfl (by decide) _ _ _ rfl (hown'.alloc _) ⟨wr.heap.size, 0, none⟩ 2 2 [.int .u8 ((a : Int) / 256), .int .u8 ((a : Int) % 256)] rfl rfl (cells_new _ _ _) (by simp [Value.oneCell']) (by unfold maxLen; omega) (by omega) (by simp; omega) ?_; intro v' w2 hown2 hgrow _)
        have hB2 : Below B w w2 := (BB.out.alloc hwr _).grown hgrow (by simp; omega) (fun k e => (hown'.lt k e).1)
        have hsz2 := hgrow.size
        rw [World.size_alloc] at hsz2
        go_roundw
        case rel =>
          refine ⟨1, by omega, by go_num, Lib.hid ?_, Lib.hid (fun h => by omega), Lib.hid (fun h => ?_), Lib.hid hB2, by omega⟩
          · have h3 := hown2
            rw [← HCA.out] at h3
            simpa [prefU] using h3
          · have hcb := HJ1.out (by omega)
            exact hgrow.cell (cell_kept hcb _) (fun e => hne e.symm)
        case measure => simp [intOf]
      · go_wp2_with fail
        go_ret
        exact ⟨_, rfl, by simpa [prefU, unit2] using HO.out, BB.out⟩
  · go_enter Tryd.func24, Tryd.ntmps24
    go_wp2_with fail
    refine (U.out _).mono ?_
    rintro e w1 ⟨rfl, hB1⟩
    go_wp2_with fail
    have hsz1 := hB1.size
    have B1 : Hid (Below B w w1) := Lib.hid (hB1.mono hB)
    have OWN1 : Hid ((w1.alloc (Obj.cells #[Value.int IntKind.i32 (a : Int), Value.int IntKind.i32 (b : Int)] 47)).ownsRow B 5 1 v n xs) := Lib.hid ((OWN.out.kept (row := none) ⟨hB1.os, hB1.tape, hB1.output, hB1.size, fun k hk _ => hB1.block k hk⟩ (by cases Value.ownBlock v <;> simp)).alloc _)
    have NEV : Hid (v.ownBlock ≠ some w1.heap.size) := Lib.hid (fun e => by have := (OWN.out.lt _ e).2; omega)
    have hc0 : (w1.alloc (Obj.cells #[Value.int IntKind.i32 (a : Int), Value.int IntKind.i32 (b : Int)] 47)).cell? ⟨w1.heap.size, 0, none⟩ = some (.int .i32 (a : Int)) := cell_new _ _ _ 0
    have hc1 : (w1.alloc (Obj.cells #[Value.int IntKind.i32 (a : Int), Value.int IntKind.i32 (b : Int)] 47)).cell? ⟨w1.heap.size, 1, none⟩ = some (.int .i32 (b : Int)) := cell_new _ _ _ 1
    have HC0 := Lib.hid hc0
    have HC1 := Lib.hid hc1
    have hww : B ≤ (w1.alloc (Obj.cells #[Value.int IntKind.i32 (a : Int), Value.int IntKind.i32 (b : Int)] 47)).heap.size := by simp; omega
    have BW : Hid (Below B w (w1.alloc (Obj.cells #[Value.int IntKind.i32 (a : Int), Value.int IntKind.i32 (b : Int)] 47))) := Lib.hid (B1.out.alloc (by omega) _)
    clear hc0 hc1 hB1
    go_loopw [0, 17] (fun l i wr => ∃ (j : Nat), j ≤ 2 ∧ i = .int .i64 (j : Int) ∧ Hid (wr.ownsRow B 5 1 l (n + 2 * j) (xs ++ (prefU a b j).map bv)) ∧ Hid (j = 0 → wr.cell? ⟨w1.heap.size, 0, none⟩ = some (.int .i32 (a : Int)) ∧ l.ownBlock ≠ some w1.heap.size) ∧ Hid (j ≤ 1 → wr.cell? ⟨w1.heap.size, 1, none⟩ = some (.int .i32 (b : Int))) ∧ Hid (Below B w wr) ∧ B ≤ wr.heap.size) (fun _ i _ => 2 - (intOf i).toNat)
    case atStart => exact ⟨0, by omega, rfl, Lib.hid (by simpa [prefU] using OWN1.out), Lib.hid (fun _ => ⟨HC0.out, NEV.out⟩), Lib.hid (fun _ => HC1.out), BW, hww⟩
    case round =>
      obtain ⟨j, hj, rfl, HO, HJ0, HJ1, BB, hwr⟩ := hrel
      obtain rfl | rfl | rfl : j = 0 ∨ j = 1 ∨ j = 2 := by omega
      · have hown' := HO.out
        have hcell := (HJ0.out rfl).1
        have hne := (HJ0.out rfl).2
        simp only [Nat.mul_zero, Nat.add_zero] at hown'
        go_wp2_with (at_builtin; refine wpList_append_own _ rfl _ _ 22 rfl B 5 i0 (.int .u8 0) 1 1 Tryd.underlying22 hi hz0 hz1 hz2 rfl (by decide) _ _ _ rfl (hown'.alloc _) ⟨wr.heap.size, 0, none⟩ 2 2 [.int .u8 ((a : Int) / 256), .int .u8 ((a : Int) % 256)] rfl rfl (cells_new _ _ _) (by simp [Value.oneCell']) (by unfold maxLen; omega) (by omega) (by simp; omega) ?_; intro v' w2 hown2 hgrow _)
        have hB2 : Below B w w2 := (BB.out.alloc hwr _).grown hgrow (by simp; omega) (fun k e => (hown'.lt k e).1)
        have hsz2 := hgrow.size
        rw [World.size_alloc] at hsz2
        go_roundw
        case rel =>
          refine ⟨1, by omega, by go_num, Lib.hid ?_, Lib.hid (fun h => by omega), Lib.hid (fun h => ?_), Lib.hid hB2, by omega⟩
          · have h3 := hown2
            rw [← HCA.out] at h3
            simpa [prefU] using h3
          · have hcb := HJ1.out (by omega)
            exact hgrow.cell (cell_kept hcb _) (fun e => hne e.symm)
        case measure => simp [intOf]
      · have hown' := HO.out
        have hcell := HJ1.out (by omega)
        simp only [Nat.mul_one] at hown'
        go_wp2_with (at_builtin; refine wpList_append_own _ rfl _ _ 22 rfl B 5 i0 (.int .u8 0) 1 1 Tryd.underlying22 hi hz0 hz1 hz2 rfl (by decide) _ _ _ rfl (hown'.alloc _) ⟨wr.heap.size, 0, none⟩ 2 2 [.int .u8 ((b : Int) / 256), .int .u8 ((b : Int) % 256)] rfl rfl (cells_new _ _ _) (by simp [Value.oneCell']) (by unfold maxLen; omega) (by omega) (by simp; omega) ?_; intro v' w2 hown2 hgrow _)
        have hB2 : Below B w w2 := (BB.out.alloc hwr _).grown hgrow (by simp; omega) (fun k e => (hown'.lt k e).1)
        have hsz2 := hgrow.size
        rw [World.size_alloc] at hsz2
        go_roundw
        case rel =>
          refine ⟨2, by omega, by go_num, Lib.hid ?_, Lib.hid (fun h => by omega), Lib.hid (fun h => by omega), Lib.hid hB2, by omega⟩
          have h3 := hown2
          rw [← HCB.out] at h3
          simpa [prefU, Nat.add_assoc] using h3
        case measure => simp [intOf]
      · go_wp2_with fail
        go_ret
        exact ⟨_, rfl, by simpa [prefU, unit2] using HO.out, BB.out⟩
end Go.Proofs.YtdgdflbhjbgmdaaDoor
