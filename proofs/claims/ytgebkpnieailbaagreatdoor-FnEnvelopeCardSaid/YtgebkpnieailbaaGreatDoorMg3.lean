import Derived.Test.YtgebkpnieailbaaGreatDoorRows
import Derived.WalkKit
import Derived.WalkSpells
import Derived.Lib.Hide
import Derived.Deep.QuietTactic
import Derived.BigQuiet
import Derived.Test.YtgebkpnieailbaaGreatDoorMg2
/-
  Envelopes: fields behind the others; plain.
-/
namespace Go.Proofs.YtgebkpnieailbaaGreatDoor
set_option linter.unusedVariables false
open Go.RowKit

def moreU : List UInt8 := [88, 45, 77, 111, 114, 101, 58, 32, 49]
def moreT : List UInt8 := moreU ++ 13 :: 10 :: [83, 117, 98, 106, 101, 99, 116, 58, 32, 116, 111, 111, 32, 108, 97, 116, 101, 13, 10]
def moreL : List Fl := [⟨[88, 45, 77, 111, 114, 101], [49]⟩, ⟨[83, 117, 98, 106, 101, 99, 116], [116, 111, 111, 32, 108, 97, 116, 101]⟩]
theorem moreU_noMark : noMark moreU := by
  intro i ⟨h1, _⟩
  have h2 : (13 : UInt8) ∈ moreU := List.mem_of_getElem? h1
  revert h2
  decide
theorem more_fields : fieldsL moreT = moreL := by kernel_rfl
theorem fields_behind (l : List Fl) (h : ∀ f ∈ l, Good f) : fieldsL (putL l ++ moreT) = l ++ moreL := by
  rw [← more_fields]
  exact fields_two l moreU _ h (by decide) moreU_noMark
theorem bodyOf_append (n : List UInt8) : ∀ (a b : List Fl), bodyOf n (a ++ b) = match bodyOf n a with | some s => some s | none => bodyOf n b
  | [], b => rfl
  | f :: r, b => by
    rw [List.cons_append, bodyOf, bodyOf, bodyOf_append n r b]
    split <;> rfl
theorem bodyOf_other (n : List UInt8) (l : List Fl) (h : bodyOf n moreL = none) : bodyOf n (l ++ moreL) = bodyOf n l := by
  rw [bodyOf_append, h]
  cases bodyOf n l <;> rfl
theorem env_same (l : List Fl) (s : List UInt8) (h : bodyOf [83, 85, 66, 74, 69, 67, 84] l = some s) : envT (l ++ moreL) = envT l := by
  have h0 : bodyOf [83, 85, 66, 74, 69, 67, 84] (l ++ moreL) = bodyOf [83, 85, 66, 74, 69, 67, 84] l := by rw [bodyOf_append, h]
  unfold envT
  rw [h0, bodyOf_other _ l (by kernel_rfl), bodyOf_other [70, 82, 79, 77] l (by kernel_rfl), bodyOf_other [83, 69, 78, 68, 69, 82] l (by kernel_rfl), bodyOf_other [82, 69, 80, 76, 89, 45, 84, 79] l (by kernel_rfl),
    bodyOf_other [84, 79] l (by kernel_rfl), bodyOf_other [67, 67] l (by kernel_rfl), bodyOf_other [66, 67, 67] l (by kernel_rfl), bodyOf_other [73, 78, 45, 82, 69, 80, 76, 89, 45, 84, 79] l (by kernel_rfl), bodyOf_other [77, 69, 83, 83, 65, 71, 69, 45, 73, 68] l (by kernel_rfl)]
theorem listT_second {a x y : List UInt8} {r : List (List UInt8)} (h : listT (a :: x :: r) = listT (a :: y :: r)) : x = y := by
  simp only [listT, joinB, glueT, List.cons_append, List.append_assoc, List.cons.injEq, true_and, List.append_cancel_left_eq] at h
  exact List.append_cancel_right h
theorem late_body : bodyT (bodyOf [83, 85, 66, 74, 69, 67, 84] moreL) = [34, 116, 111, 111, 32, 108, 97, 116, 101, 34] := by kernel_rfl
theorem env_other (l : List Fl) (h : bodyOf [83, 85, 66, 74, 69, 67, 84] l = none) : envT (l ++ moreL) ≠ envT l := by
  have h0 : bodyOf [83, 85, 66, 74, 69, 67, 84] (l ++ moreL) = bodyOf [83, 85, 66, 74, 69, 67, 84] moreL := by rw [bodyOf_append, h]
  intro he
  unfold envT at he
  rw [h0, bodyOf_other _ l (by kernel_rfl), bodyOf_other [70, 82, 79, 77] l (by kernel_rfl), bodyOf_other [83, 69, 78, 68, 69, 82] l (by kernel_rfl), bodyOf_other [82, 69, 80, 76, 89, 45, 84, 79] l (by kernel_rfl),
    bodyOf_other [84, 79] l (by kernel_rfl), bodyOf_other [67, 67] l (by kernel_rfl), bodyOf_other [66, 67, 67] l (by kernel_rfl), bodyOf_other [73, 78, 45, 82, 69, 80, 76, 89, 45, 84, 79] l (by kernel_rfl), bodyOf_other [77, 69, 83, 83, 65, 71, 69, 45, 73, 68] l (by kernel_rfl), h] at he
  have := listT_second he
  rw [late_body] at this
  exact absurd this (by decide)
theorem env_long (l : List Fl) : 12 ≤ (envT l).length := by
  unfold envT
  have h1 : 2 ≤ (adT (bodyOf [84, 79] l)).length := by
    unfold adT addrTs
    split
    · decide
    · simp only [List.length_cons, List.length_append, List.length_nil]; omega
  simp only [listT, joinB, glueT, List.length_cons, List.length_append, List.length_nil]
  omega
theorem env_closed (l : List Fl) : (envT l).head? = some 40 ∧ (envT l).getLast? = some 41 := by
  unfold envT
  constructor
  · rfl
  · simp only [listT]
    rw [List.getLast?_append]
    rfl
end Go.Proofs.YtgebkpnieailbaaGreatDoor

/-
  What is asked of impl's PutFields.
-/
namespace Go.Proofs.YtgebkpnieailbaaGreatDoor
set_option linter.unusedVariables false
open Go.RowKit

/-- What is asked of impl's PutFields. -/
def PutIs : Prop := ∀ (v : Value) (l : List Fl) (w : World), FlsAt w v l → (putL l).length ≤ 8388608 → l.length ≤ 1048576 →
  Calls Tryz.prog 27 #[v] w fun e w' => e = .returned (.string (mkB (putL l))) ∧ Below w.heap.size w w'
end Go.Proofs.YtgebkpnieailbaaGreatDoor

/-
  Fields: the walk of impl's PutFields.
-/
namespace Go.Proofs.YtgebkpnieailbaaGreatDoor
set_option linter.unusedVariables false
open Go.RowKit

theorem put_join (L : List UInt8) (f : Fl) : L ++ (mkB f.name).data.toList ++ (⟨#[58, 32]⟩ : ByteArray).data.toList ++ (mkB f.body).data.toList ++ (⟨#[13, 10]⟩ : ByteArray).data.toList = L ++ putF f := by
  simp [putF, mkB]
theorem two_len (a b : UInt8) : [a, b].length = 2 := rfl
theorem lit2 (a b : UInt8) : (⟨#[a, b]⟩ : ByteArray).size = 2 := rfl
set_option maxRecDepth 100000 in
set_option maxHeartbeats 1000000 in
theorem implPut_is : PutIs := by
  intro v l w hv hm hl
  obtain ⟨i0, hi, hz0, hz1, hz2⟩ := info_parts infoByteJ
  obtain ⟨p, cap, rfl⟩ := hv.slice
  have HV := Lib.hid hv
  have HM := Lib.hid hm
  clear hv hm
  go_enter Tryz.func27, Tryz.ntmps27
  go_wp2
  go_loopw [3, 8] (fun o i wr => ∃ (k : Nat) (L : List UInt8), k ≤ l.length ∧ i = .int .i64 k ∧ Hid (L = putL (l.take k)) ∧ wr.ownsRow w.heap.size 5 1 o L.length (L.map bv) ∧ Below w.heap.size w wr) (fun _ i _ => l.length - (intOf i).toNat)
  case atStart => exact ⟨0, [], Nat.zero_le _, rfl, Lib.hid (by simp [putL]), World.ownsRow_nil _ _ _ _, Below.refl _ _⟩
  case round =>
    obtain ⟨k, L, hk, rfl, HL, hown, hB⟩ := hrel
    have hsz := hB.size
    by_cases hlt : k < l.length
    · have g1 : decide ((k : Int) < (l.length : Int)) = true := by simp; omega
      have i1 : (0 : Int) ≤ (k : Int) := by omega
      have i2 : (k : Int) < (l.length : Int) := by omega
      obtain ⟨g, off, c2, hgv, hg, hc⟩ : ∃ g off c2, Value.slice p l.length cap = .slice (some ⟨g, off, none⟩) l.length c2 ∧ g < w.heap.size ∧ ∀ k, (h : k < l.length) → w.cell? ⟨g, off + k * 2, none⟩ = some (.string (mkB l[k].name)) ∧ w.cell? ⟨g, off + k * 2 + 1, none⟩ = some (.string (mkB l[k].body)) := by
        rcases HV.out with ⟨h, _⟩ | h
        · rw [h] at hlt; simp at hlt
        · exact h
      injection hgv with hgv1 hgv2 hgv3
      subst hgv1 hgv3
      obtain ⟨x1, x2⟩ := hc k hlt
      have htk := putL_take l k hlt
      have hle := putL_take_le l (k + 1)
      generalize l[k] = f at x1 x2 htk
      rw [htk, List.length_append, ← HL.out, putF_len] at hle
      have hpl := putF_len f
      have HN : Hid (L ++ putF f = putL (l.take (k + 1))) := Lib.hid (by rw [htk, ← HL.out])
      have n1 : (mkB f.name).size = f.name.length := mkB_size _
      have n2 : (mkB f.body).size = f.body.length := mkB_size _
      have hM := HM.out
      have HSZ : Hid (L.length + f.name.length + f.body.length + 4 ≤ 8388608) := Lib.hid (by omega)
      have z1 : wr.cell? ⟨g, off + k * 2, none⟩ = some (.string (mkB f.name)) := (hB.cell (p := ⟨g, off + k * 2, none⟩) hg).trans x1
      have z2 : wr.cell? ⟨g, off + k * 2 + 1, none⟩ = some (.string (mkB f.body)) := (hB.cell (p := ⟨g, off + k * 2 + 1, none⟩) hg).trans x2
      have B0 := Lib.hid (hB.alloc hsz (.cells #[.string (mkB f.name), .string (mkB f.body)] 113))
      have HOWN := Lib.hid (hown.alloc (.cells #[.string (mkB f.name), .string (mkB f.body)] 113))
      have F0 := Lib.hid (alloc_new wr #[.string (mkB f.name), .string (mkB f.body)] 113)
      have N1 := Lib.hid n1
      have N2 := Lib.hid n2
      clear hc x1 x2 htk hle hpl n1 n2 hM HL hB hown
      go_wp2_with (first
        | (at_builtin; (refine Lib.wpList_append_own_string _ rfl _ _ 22 9 rfl w.heap.size 5 i0 Tryz.underlying22 Tryz.underlying9 hi hz0 hz1 hz2 _ _ _ rfl HOWN.out (mkB f.name) rfl (by have := HSZ.out; simp only [N1.out]; unfold maxLen; omega) (by have := HSZ.out; simp only [N1.out]; omega) B0.out.size ?_; intro v1 w1 hown1 hgrow1 _; have F1 := Lib.hid (two_kept HOWN.out hgrow1 F0.out (by decide)); have B1 := Lib.hid (app_below B0.out HOWN.out hgrow1); have HO1 := Lib.hid (row_app hown1); clear hown1 hgrow1))
        | (at_builtin; (refine Lib.wpList_append_own_string _ rfl _ _ 22 9 rfl w.heap.size 5 i0 Tryz.underlying22 Tryz.underlying9 hi hz0 hz1 hz2 _ _ _ rfl HO1.out ⟨#[58, 32]⟩ rfl (by have := HSZ.out; simp only [List.length_append, lit2, mkB_list]; unfold maxLen; omega) (by have := HSZ.out; simp only [List.length_append, lit2, mkB_list]; omega) B1.out.size ?_; intro v2 w2 hown2 hgrow2 _; have F2 := Lib.hid (two_kept HO1.out hgrow2 F1.out (by decide)); have B2 := Lib.hid (app_below B1.out HO1.out hgrow2); have HO2 := Lib.hid (row_app hown2); have c1 := (cell_of_two F2.out).2; clear hown2 hgrow2))
        | (at_builtin; (refine Lib.wpList_append_own_string _ rfl _ _ 22 9 rfl w.heap.size 5 i0 Tryz.underlying22 Tryz.underlying9 hi hz0 hz1 hz2 _ _ _ rfl HO2.out (mkB f.body) rfl (by have := HSZ.out; simp only [List.length_append, N2.out, mkB_list, two_len]; unfold maxLen; omega) (by have := HSZ.out; simp only [List.length_append, N2.out, mkB_list, two_len]; omega) B2.out.size ?_; intro v3 w3 hown3 hgrow3 _; have B3 := Lib.hid (app_below B2.out HO2.out hgrow3); have HO3 := Lib.hid (row_app hown3); clear hown3 hgrow3 c1))
        | (at_builtin; (refine Lib.wpList_append_own_string _ rfl _ _ 22 9 rfl w.heap.size 5 i0 Tryz.underlying22 Tryz.underlying9 hi hz0 hz1 hz2 _ _ _ rfl HO3.out ⟨#[13, 10]⟩ rfl (by have := HSZ.out; simp only [List.length_append, lit2, mkB_list, two_len]; unfold maxLen; omega) (by have := HSZ.out; simp only [List.length_append, lit2, mkB_list, two_len]; omega) B3.out.size ?_; intro v4 w4 hown4 hgrow4 _; have B4 := Lib.hid (app_below B3.out HO3.out hgrow4); have HO4 := Lib.hid (row_app hown4); clear hown4 hgrow4)))
      go_roundw
      case rel => exact ⟨k + 1, L ++ putF f, by omega, by go_num, HN, by rw [← put_join]; exact HO4.out, B4.out⟩
      case measure => simp [intOf]; omega
    · obtain rfl : k = l.length := by omega
      have hback := rowJ_back (P := Tryz.prog) hown 22 9 5 Tryz.underlying22 Tryz.underlying5 Tryz.underlying9
      go_wp2
      go_ret
      exact ⟨by rw [HL.out, List.take_length]; rfl, hB⟩
end Go.Proofs.YtgebkpnieailbaaGreatDoor

/-
  A slice of integers that came in.
-/
namespace Go.Proofs.YtgebkpnieailbaaGreatDoor
set_option linter.unusedVariables false
open Go.RowKit

/-- A slice of integers that came in. -/
def IsRow (k : IntKind) (w : World) (a : Option Addr) (len cap : Nat) (zs : List Int) : Prop :=
  (a = none ∧ len = 0 ∧ cap = 0 ∧ zs = []) ∨
  ∃ x, a = some x ∧ len ≤ cap ∧ cap ≤ maxLen ∧ zs.length = cap ∧ (∀ i, i < zs.length → w.cell? (x.add i) = some (.int k (zs.getD i 0))) ∧ ∀ n ∈ zs, (Lit.int k n).wf = true

theorem IsRow.at {w : World} {a : Option Addr} {len cap : Nat} {zs : List Int} (h : IsRow .u8 w a len cap zs) (j : Nat) (hj : j < len) :
    ∃ b off n, a = some ⟨b, off, none⟩ ∧ w.cell? ⟨b, off + j, none⟩ = some (.int .u8 n) ∧ 0 ≤ n ∧ n ≤ 255 ∧ b < w.heap.size := by
  rcases h with ⟨_, h, _⟩ | ⟨x, rfl, h1, _, h3, h4, h5⟩
  · omega
  · obtain ⟨b, off, spot⟩ := x
    have hc := h4 j (by omega)
    have hspot : spot = none := by
      have := h4 0 (by omega)
      cases spot with
      | none => rfl
      | some s => simp [World.cell?, Addr.add] at this; split at this <;> simp at this
    subst hspot
    have hm : zs.getD j 0 ∈ zs := by
      rw [List.getD_eq_getElem?_getD, List.getElem?_eq_getElem (by omega)]
      exact List.getElem_mem _
    have hw := h5 _ hm
    generalize zs.getD j 0 = q at hw hc hm
    have hb : 0 ≤ q ∧ q ≤ 255 := by simpa [Lit.wf, IntKind.min, IntKind.max, IntKind.signed, IntKind.bits] using hw
    have hc' : w.cell? ⟨b, off + j, none⟩ = some (.int .u8 q) := by
      have e : (⟨b, off, none⟩ : Addr).add j = ⟨b, off + j, none⟩ := by unfold Addr.add; split <;> simp_all
      rw [← e]; exact hc
    exact ⟨b, off, _, rfl, hc', hb.1, hb.2, block_lt_of_cell hc'⟩
theorem IsRow.below {w w' : World} {a : Option Addr} {len cap : Nat} {zs : List Int} {B : Nat} (h : IsRow .u8 w a len cap zs) (hb : Below B w w') (hB : w.heap.size ≤ B) : IsRow .u8 w' a len cap zs := by
  rcases h with h | ⟨x, rfl, h1, h2, h3, h4, h5⟩
  · exact .inl h
  · refine .inr ⟨x, rfl, h1, h2, h3, fun i hi => ?_, h5⟩
    have := block_lt_of_cell (h4 i hi)
    rw [hb.cell (by omega)]
    exact h4 i hi
end Go.Proofs.YtgebkpnieailbaaGreatDoor

/-
  The draws: a cursor over the code's bytes, and what one byte drawn is.
-/
namespace Go.Proofs.YtgebkpnieailbaaGreatDoor
set_option linter.unusedVariables false
open Go.RowKit

/-- The code that a law was called with. -/
structure Code where
  a : Option Addr
  len : Nat
  cap : Nat
  zs : List Int

/-- A cursor over the code, in block g, at place i with the number h; w0 is the world in which the law began. -/
structure Cur (K : Code) (w0 w : World) (g i : Nat) (h : Int) : Prop where
  row : IsRow .u8 w0 K.a K.len K.cap K.zs
  few : K.len ≤ 1048576
  base : w0.heap.size ≤ g
  below : Below w0.heap.size w0 w
  cell : w.heap[g]? = some (.cells #[.slice K.a K.len K.cap, .int .i64 i, .int .i64 h] 132 (0, 0))
  le : i ≤ K.len

theorem Cur.lt {K : Code} {w0 w : World} {g i : Nat} {h : Int} (c : Cur K w0 w g i h) : g < w.heap.size := (Array.getElem?_eq_some_iff.1 c.cell).1
theorem Cur.later {K : Code} {w0 w w' : World} {g i : Nat} {h : Int} (c : Cur K w0 w g i h) (hb : Below w.heap.size w w') : Cur K w0 w' g i h :=
  ⟨c.row, c.few, c.base, c.below.trans (hb.mono c.below.size), (hb.block g c.lt).trans c.cell, c.le⟩

def nextH (h : Int) : Int := wrap64 (wrap64 (h * 6364136223846793005) + 1442695040888963407)
def rawX (h : Int) : Int := bits .and .i64 (bits .xor .i64 (h / 8589934592) (h / 35184372088832)) 255

theorem and255 (x : Int) : 0 ≤ bits .and .i64 x 255 ∧ bits .and .i64 x 255 ≤ 255 := by
  have h : (BitVec.ofInt IntKind.i64.bits x &&& BitVec.ofInt IntKind.i64.bits 255).toNat ≤ 255 := by
    rw [BitVec.toNat_and]
    exact Nat.le_trans Nat.and_le_right (by decide)
  have e : bits .and .i64 x 255 = IntKind.i64.wrap ((BitVec.ofInt IntKind.i64.bits x &&& BitVec.ofInt IntKind.i64.bits 255).toNat : Int) := rfl
  rw [e]
  generalize (BitVec.ofInt IntKind.i64.bits x &&& BitVec.ofInt IntKind.i64.bits 255).toNat = n at h
  have : IntKind.i64.wrap (n : Int) = n := IntWalk.i64_in _ (by omega)
  rw [this]
  omega

/-- One byte is drawn: the cursor goes on. -/
def DrawnByte (K : Code) (w0 : World) (g i : Nat) (h : Int) (w : World) (e : Ending) (w' : World) : Prop :=
  ∃ (x : Int) (i' : Nat) (h' : Int), e = .returned (.int .i64 x) ∧ 0 ≤ x ∧ x ≤ 255 ∧ Cur K w0 w' g i' h' ∧ w.grownBy w' (some g) ∧ h' = nextH h ∧
    ((i < K.len ∧ i' = i + 1) ∨ (i = K.len ∧ i' = i ∧ x = rawX h'))

theorem cur_cells {K : Code} {w0 w : World} {g i : Nat} {h : Int} (c : Cur K w0 w g i h) :
    w.cell? ⟨g, 0, none⟩ = some (.slice K.a K.len K.cap) ∧ w.cell? ⟨g, 1, none⟩ = some (.int .i64 i) ∧ w.cell? ⟨g, 2, none⟩ = some (.int .i64 h) ∧ w.frozen? ⟨g, 1, none⟩ = false ∧ w.frozen? ⟨g, 2, none⟩ = false := by
  have hg := c.cell
  refine ⟨by simp [World.cell?, hg], by simp [World.cell?, hg], by simp [World.cell?, hg], by simp [World.frozen?, hg], by simp [World.frozen?, hg]⟩


theorem Cur.step {K : Code} {w0 w w' : World} {g i : Nat} {h : Int} (c : Cur K w0 w g i h) (hg : w.grownBy w' (some g)) (i' : Nat) (h' : Int) (hi : i' ≤ K.len)
    (hc : w'.heap[g]? = some (.cells #[.slice K.a K.len K.cap, .int .i64 i', .int .i64 h'] 132 (0, 0))) : Cur K w0 w' g i' h' :=
  ⟨c.row, c.few, c.base, c.below.grown hg c.below.size (fun k e => by cases e; exact c.base), hc, hi⟩

set_option maxRecDepth 100000 in
set_option maxHeartbeats 400000 in
theorem byte_end {K : Code} {w0 w : World} {g i : Nat} {h : Int} (c : Cur K w0 w g i h) (hi : K.len ≤ i) :
    Calls Tryz.prog 101 #[.pointer (some ⟨g, 0, none⟩)] w (DrawnByte K w0 g i h w) := by
  obtain ⟨hc0, hc1, hc2, hf1, hf2⟩ := cur_cells c
  have hl := c.few
  have hle := c.le
  have C := Lib.hid c
  clear c
  go_enter Tryz.func101, Tryz.ntmps101
  go_wp2
  go_quiet (fail)
  go_wp2
  go_quiet (fail)
  go_wp2
  go_ret
  refine ⟨_, i, nextH h, rfl, (and255 _).1, (and255 _).2, ?_, ?_, rfl, .inr ⟨by omega, rfl, rfl⟩⟩
  · refine C.out.step (grownBy_drewN (grownBy_drewN (grownBy_one _ _ _ _) _) _) i (nextH h) hle ?_
    exact heap_setCell_same _ _ _ _ _ _ C.out.cell
  · exact grownBy_drewN (grownBy_drewN (grownBy_one _ _ _ _) _) _

set_option maxRecDepth 100000 in
set_option maxHeartbeats 400000 in
theorem byte_more {K : Code} {w0 w : World} {g i : Nat} {h : Int} (c : Cur K w0 w g i h) (hi : i < K.len) :
    Calls Tryz.prog 101 #[.pointer (some ⟨g, 0, none⟩)] w (DrawnByte K w0 g i h w) := by
  obtain ⟨hc0, hc1, hc2, hf1, hf2⟩ := cur_cells c
  obtain ⟨b, off, n, ha, hcn0, hn0, hn1, hb⟩ := c.row.at i hi
  have hcn : w.cell? ⟨b, off + i, none⟩ = some (.int .u8 n) := (c.below.cell (p := ⟨b, off + i, none⟩) hb).trans hcn0
  have hbg : b ≠ g := by have := c.base; omega
  rw [ha] at hc0
  have hl := c.few
  have C := Lib.hid c
  clear c hcn0
  have hi1 : (0 : Int) ≤ (i : Int) := by omega
  have hi2 : (i : Int) < (K.len : Int) := by omega
  go_enter Tryz.func101, Tryz.ntmps101
  go_wp2
  go_quiet (fail)
  go_wp2
  go_quiet (fail)
  go_wp2
  go_quiet (fail)
  go_wp2
  go_ret
  have hg2 : w.grownBy (w.setCell ⟨g, 2, none⟩ (.int .i64 (nextH h))) (some g) := grownBy_one _ _ _ _
  refine ⟨_, i + 1, nextH h, rfl, (and255 _).1, (and255 _).2, ?_, ?_, rfl, .inl ⟨hi, rfl⟩⟩
  · refine C.out.step (grownBy_trans (grownBy_drewN hg2 _) (grownBy_one _ _ _ _)) (i + 1) (nextH h) (by omega) ?_
    exact heap_setCell_same _ _ _ _ _ _ (heap_setCell_same _ _ _ _ _ _ C.out.cell)
  · exact grownBy_trans (grownBy_drewN hg2 _) (grownBy_one _ _ _ _)
end Go.Proofs.YtgebkpnieailbaaGreatDoor

/-
  The draws: a new cursor, and a number below another.
-/
namespace Go.Proofs.YtgebkpnieailbaaGreatDoor
set_option linter.unusedVariables false
open Go.RowKit

/-- A new cursor in a block of its own. -/
def DrawnNew (K : Code) (w0 w : World) (e : Ending) (w' : World) : Prop :=
  ∃ h : Int, e = .returned (.pointer (some ⟨w.heap.size, 0, none⟩)) ∧ Cur K w0 w' w.heap.size 0 h ∧ Below w.heap.size w w'

set_option maxRecDepth 100000 in
set_option maxHeartbeats 400000 in
theorem new_any (K : Code) (w0 w : World) (hr : IsRow .u8 w0 K.a K.len K.cap K.zs) (hl : K.len ≤ 1048576) (hb : Below w0.heap.size w0 w) :
    Calls Tryz.prog 45 #[.slice K.a K.len K.cap] w (DrawnNew K w0 w) := by
  have HB := Lib.hid hb
  have HR := Lib.hid hr
  clear hb hr
  go_enter Tryz.func45, Tryz.ntmps45
  go_wp2
  go_loop [3, 4] (fun h i => ∃ (k : Nat) (q : Int), k ≤ K.len ∧ i = .int .i64 k ∧ h = .int .i64 q) (fun _ i => K.len - (intOf i).toNat)
  case atStart => exact ⟨0, _, Nat.zero_le _, rfl, rfl⟩
  case round =>
    obtain ⟨k, q, hk, rfl, rfl⟩ := hrel
    by_cases hlt : k < K.len ∧ k < 4000
    · obtain ⟨h1, h2⟩ := hlt
      obtain ⟨b, off, n, ha, hcn0, hn0, hn1, hbl⟩ := HR.out.at k h1
      have hcn : w.cell? ⟨b, off + k, none⟩ = some (.int .u8 n) := (HB.out.cell (p := ⟨b, off + k, none⟩) hbl).trans hcn0
      have hi1 : (0 : Int) ≤ (k : Int) := by omega
      have hi2 : (k : Int) < (K.len : Int) := by omega
      rw [ha]
      clear hcn0
      go_wp2
      go_round
      case rel => exact ⟨k + 1, _, by omega, by go_num, rfl⟩
      case measure => simp [intOf]; omega
    · have HN := Lib.hid hlt
      clear hlt
      by_cases h1 : k < K.len
      · have h2 : (4000 : Int) ≤ (k : Int) := by have := HN.out; omega
        have h3 : decide ((k : Int) < 4000) = false := by simp; omega
        go_wp2
        go_ret
        exact ⟨q, rfl, ⟨HR.out, hl, HB.out.size, HB.out.alloc HB.out.size _, by simpa using heap_alloc_new w _, Nat.zero_le _⟩, (Below.refl _ _).alloc (Nat.le_refl _) _⟩
      · go_wp2
        go_ret
        exact ⟨q, rfl, ⟨HR.out, hl, HB.out.size, HB.out.alloc HB.out.size _, by simpa using heap_alloc_new w _, Nat.zero_le _⟩, (Below.refl _ _).alloc (Nat.le_refl _) _⟩

/-- A number below n is drawn. -/
def DrawnBelow (K : Code) (w0 : World) (g i : Nat) (h n : Int) (w : World) (e : Ending) (w' : World) : Prop :=
  ∃ (v : Int) (i' : Nat) (h' : Int), e = .returned (.int .i64 v) ∧ 0 ≤ v ∧ v < n ∧ Cur K w0 w' g i' h' ∧ w.grownBy w' (some g) ∧
    (n ≤ 256 → h' = nextH h ∧ ((i < K.len ∧ i' = i + 1) ∨ (i = K.len ∧ i' = i ∧ v = rawX h' % n)))

theorem byte_any {K : Code} {w0 w : World} {g i : Nat} {h : Int} (c : Cur K w0 w g i h) :
    Calls Tryz.prog 101 #[.pointer (some ⟨g, 0, none⟩)] w (DrawnByte K w0 g i h w) := by
  by_cases hi : i < K.len
  · exact byte_more c hi
  · exact byte_end c (by omega)

set_option maxRecDepth 100000 in
set_option maxHeartbeats 400000 in
theorem below_any {K : Code} {w0 w : World} {g i : Nat} {h : Int} (c : Cur K w0 w g i h) (n : Int) (h1 : 1 ≤ n) (h2 : n ≤ 4294967296) :
    Calls Tryz.prog 49 #[.pointer (some ⟨g, 0, none⟩), .int .i64 n] w (DrawnBelow K w0 g i h n w) := by
  have C := Lib.hid c
  clear c
  by_cases hs : n ≤ 256
  · go_enter Tryz.func49, Tryz.ntmps49
    go_wp2_with fail
    refine (byte_any C.out).mono ?_
    rintro e w1 ⟨x, i', h', rfl, hx0, hx1, hc1, hg1, hh, hor⟩
    have HC1 := Lib.hid hc1
    have HG1 := Lib.hid hg1
    have HH := Lib.hid hh
    have HOR := Lib.hid hor
    clear hc1 hg1 hh hor
    go_wp2_with fail
    go_ret
    refine ⟨x % n, i', h', rfl, Int.emod_nonneg _ (by omega), Int.emod_lt_of_pos _ (by omega), HC1.out, HG1.out, fun _ => ⟨HH.out, ?_⟩⟩
    rcases HOR.out with ⟨a, b⟩ | ⟨a, b, d⟩
    · exact .inl ⟨a, b⟩
    · exact .inr ⟨a, b, by rw [d]⟩
  · have hs' : 256 < n := by omega
    clear hs
    go_enter Tryz.func49, Tryz.ntmps49
    go_wp2_with fail
    refine (byte_any C.out).mono ?_
    rintro e w1 ⟨x1, i1, q1, rfl, hx1, hy1, hc1, hg1, _, _⟩
    have HC1 := Lib.hid hc1
    have HG1 := Lib.hid hg1
    clear hc1 hg1
    go_wp2_with fail
    refine (byte_any HC1.out).mono ?_
    rintro e w2 ⟨x2, i2, q2, rfl, hx2, hy2, hc2, hg2, _, _⟩
    have HC2 := Lib.hid hc2
    have HG2 := Lib.hid hg2
    clear hc2 hg2
    go_wp2_with fail
    refine (byte_any HC2.out).mono ?_
    rintro e w3 ⟨x3, i3, q3, rfl, hx3, hy3, hc3, hg3, _, _⟩
    have HC3 := Lib.hid hc3
    have HG3 := Lib.hid hg3
    clear hc3 hg3
    go_wp2_with fail
    refine (byte_any HC3.out).mono ?_
    rintro e w4 ⟨x4, i4, q4, rfl, hx4, hy4, hc4, hg4, _, _⟩
    have HC4 := Lib.hid hc4
    have HG4 := Lib.hid hg4
    clear hc4 hg4
    go_wp2_with fail
    go_ret
    exact ⟨_, i4, q4, rfl, Int.emod_nonneg _ (by omega), Int.emod_lt_of_pos _ (by omega), HC4.out, grownBy_trans (grownBy_trans (grownBy_trans HG1.out HG2.out) HG3.out) HG4.out, fun hn => by omega⟩
end Go.Proofs.YtgebkpnieailbaaGreatDoor

/-
  The draws: one of a list, once in so many.
-/
namespace Go.Proofs.YtgebkpnieailbaaGreatDoor
set_option linter.unusedVariables false
open Go.RowKit

/-- One of the texts L is drawn. -/
def DrawnPick (K : Code) (w0 : World) (g : Nat) (L : List ByteArray) (w : World) (e : Ending) (w' : World) : Prop :=
  ∃ (s : ByteArray) (i' : Nat) (h' : Int), e = .returned (.string s) ∧ s ∈ L ∧ Cur K w0 w' g i' h' ∧ w.grownBy w' (some g)

set_option maxRecDepth 100000 in
set_option maxHeartbeats 400000 in
theorem pick_any {K : Code} {w0 w : World} {g i : Nat} {h : Int} (c : Cur K w0 w g i h) (v : Value) (L : List ByteArray) (hv : ValsAt w v (L.map Value.string)) (hne : v.ownBlock ≠ some g) (h1 : 0 < L.length) (h2 : L.length ≤ 1000) :
    Calls Tryz.prog 67 #[.pointer (some ⟨g, 0, none⟩), v] w (DrawnPick K w0 g L w) := by
  rcases hv with ⟨h, _⟩ | ⟨gl, cap, rfl, hgl, hc⟩
  · have := congrArg List.length h
    rw [List.length_map] at this
    simp only [List.length_nil] at this
    omega
  have hgg : gl ≠ g := fun e => hne (by rw [e]; rfl)
  simp only [List.length_map] at hc ⊢
  have C := Lib.hid c
  have HC := Lib.hid hc
  clear c hc hne
  go_enter Tryz.func67, Tryz.ntmps67
  go_wp2_with fail
  refine (below_any C.out L.length (by omega) (by omega)).mono ?_
  rintro e w1 ⟨x0, i1, h1', rfl, hx0, hx1, hc1, hg1, _⟩
  obtain ⟨x, rfl⟩ := Int.eq_ofNat_of_zero_le hx0
  have hxl : x < L.length := by omega
  have hcell : w1.cell? ⟨gl, x, none⟩ = some (.string L[x]) := by
    have hb : w1.heap[gl]? = w.heap[gl]? := hg1.block gl hgl (fun e => hgg (Option.some.inj e))
    have := (HC.out x hxl).1
    simp only [World.cell?, hb] at this ⊢
    rw [this, List.getElem?_map, List.getElem?_eq_getElem hxl]
    rfl
  have hmem : L[x] ∈ L := List.getElem_mem _
  generalize L[x] = s at hcell hmem
  have HC1 := Lib.hid hc1
  have HG1 := Lib.hid hg1
  clear hc1 hg1
  go_wp2_with fail
  go_ret
  exact ⟨s, i1, h1', rfl, hmem, HC1.out, HG1.out⟩

theorem valsAt_new (w : World) (l : List Value) (T : TypeId) (n cap : Nat) (hn : n = l.length) : ValsAt (w.alloc (.cells l.toArray T)) (.slice (some ⟨w.heap.size, 0, none⟩) n cap) l := by
  subst hn
  refine .inr ⟨_, cap, rfl, by simp, fun j hj => ⟨?_, ?_⟩⟩
  · simp
  · exact World.frozen?_alloc_new _ _ _ _

/-- A text of at most m bytes is drawn by a cursor that goes on. -/
def DrawnStr (K : Code) (w0 : World) (g m : Nat) (w : World) (e : Ending) (w' : World) : Prop :=
  ∃ (s : ByteArray) (i' : Nat) (h' : Int), e = .returned (.string s) ∧ s.size ≤ m ∧ Cur K w0 w' g i' h' ∧ w.grownBy w' (some g)

def allStr (m : Nat) (cs : Array Value) : Bool := cs.toList.all fun v => match v with | .string s => decide (s.size ≤ m) | _ => false
theorem allStr_list : ∀ (l : List Value) (m : Nat), (l.all fun v => match v with | .string s => decide (s.size ≤ m) | _ => false) = true → ∃ L : List ByteArray, l = L.map Value.string ∧ ∀ s ∈ L, s.size ≤ m
  | [], _, _ => ⟨[], rfl, by simp⟩
  | v :: l, m, h => by
    rw [List.all_cons, Bool.and_eq_true] at h
    obtain ⟨L, h1, h2⟩ := allStr_list l m h.2
    cases v with
    | string s => exact ⟨s :: L, by rw [h1]; rfl, by
        intro t ht
        rcases List.mem_cons.1 ht with rfl | ht
        · simpa using h.1
        · exact h2 t ht⟩
    | _ => simp at h

/-- One of a literal list, just laid. -/
theorem pick_lit {K : Code} {w0 w : World} {g i : Nat} {h : Int} (c : Cur K w0 w g i h) (m : Nat) {cs : Array Value} {n cap : Nat} (hall : allStr m cs = true) (hn : n = cs.size) (h0 : 0 < n) (h9 : n ≤ 1000) :
    Calls Tryz.prog 67 #[.pointer (some ⟨g, 0, none⟩), .slice (some ⟨w.heap.size, 0, none⟩) n cap] (w.alloc (.cells cs 9)) (DrawnStr K w0 g m w) := by
  obtain ⟨L, h1, h2⟩ := allStr_list _ _ hall
  have hL : L.length = n := by
    have := congrArg List.length h1
    simp at this; omega
  have hv := valsAt_new w (L.map Value.string) 9 n cap (by simp [hL])
  rw [← h1] at hv
  simp only [Array.toArray_toList] at hv
  rw [h1] at hv
  have hcl := c.lt
  refine (pick_any (c.later ((Below.refl _ _).alloc (Nat.le_refl _) _)) _ L hv (by simp [Value.ownBlock]; omega) (by omega) (by omega)).mono ?_
  rintro e w' ⟨s, i', h', e1, e2, e3, e4⟩
  exact ⟨s, i', h', e1, h2 s e2, e3, grownBy_trans (World.grownBy_alloc _ _ _) e4⟩

theorem Cur.alloc {K : Code} {w0 w : World} {g i : Nat} {h : Int} (c : Cur K w0 w g i h) (o : Obj) : Cur K w0 (w.alloc o) g i h := c.later ((Below.refl _ _).alloc (Nat.le_refl _) _)
/-- The cursor's steps leave what lay ahead of the cursor. -/
theorem below_step {w w1 w2 : World} {g : Nat} (hb : Below w.heap.size w w1) (hg : w1.grownBy w2 (some g)) (h : w.heap.size ≤ g) : Below w.heap.size w w2 :=
  hb.grown hg hb.size (fun k e => by cases e; exact h)
end Go.Proofs.YtgebkpnieailbaaGreatDoor

/-
  A loop that makes a text longer by what is drawn.
-/
namespace Go.Proofs.YtgebkpnieailbaaGreatDoor
set_option linter.unusedVariables false
open Go.RowKit

/-- Between two rounds: a text of at most m bytes, and the cursor. -/
def StrCur (K : Code) (w0 w : World) (g m : Nat) (v : Value) (wr : World) : Prop :=
  ∃ (s : ByteArray) (i : Nat) (h : Int), v = .string s ∧ s.size ≤ m ∧ Cur K w0 wr g i h ∧ w.grownBy wr (some g)
end Go.Proofs.YtgebkpnieailbaaGreatDoor

/-
  The draws of heads: l05Head.
-/
namespace Go.Proofs.YtgebkpnieailbaaGreatDoor
set_option linter.unusedVariables false
open Go.RowKit

set_option maxRecDepth 100000 in
set_option maxHeartbeats 2000000 in
theorem head5_any {K : Code} {w0 w : World} {g i : Nat} {h : Int} (c : Cur K w0 w g i h) :
    Calls Tryz.prog 65 #[.pointer (some ⟨g, 0, none⟩)] w (DrawnStr K w0 g 500 w) := by
  have C := Lib.hid c
  clear c
  go_enter Tryz.func65, Tryz.ntmps65
  go_wp2_with fail
  refine (below_any C.out 7 (by decide) (by decide)).mono ?_
  rintro e w1 ⟨n0, i1, h1, rfl, hn0, hn1, hc1, hg1, _⟩
  obtain ⟨n, rfl⟩ := Int.eq_ofNat_of_zero_le hn0
  have hn7 : n ≤ 6 := by omega
  have C1 := Lib.hid hc1
  have G1 := Lib.hid hg1
  clear hc1 hg1 hn0 hn1
  go_wp2_with fail
  go_loopw [3, 5] (fun v j wr => ∃ k : Nat, k ≤ n ∧ j = .int .i64 (k : Int) ∧ Hid (StrCur K w0 w g (62 * k) v wr)) (fun _ j _ => n - (intOf j).toNat)
  case atStart => exact ⟨0, Nat.zero_le _, rfl, Lib.hid ⟨⟨#[]⟩, i1, h1, rfl, Nat.zero_le _, C1.out, G1.out⟩⟩
  case round =>
    obtain ⟨k, hk, rfl, HS⟩ := hrel
    obtain ⟨s, i2, h2, rfl, hs, hc2, hg2⟩ := HS.out
    have C2 := Lib.hid hc2
    have G2 := Lib.hid hg2
    clear hc2 hg2 HS
    by_cases hlt : k < n
    · have g1 : decide ((k : Int) < (n : Int)) = true := by simp; omega
      go_wp2_with fail
      refine (pick_lit C2.out 60 (by decide) (by rfl) (by decide) (by decide)).mono ?_
      rintro e w3 ⟨t, i3, h3, rfl, ht, hc3, hg3⟩
      have HS3 : Hid (StrCur K w0 w g (62 * (k + 1)) (.string (s ++ t ++ ⟨#[13, 10]⟩)) w3) := Lib.hid ⟨_, i3, h3, rfl, by rw [ByteArray.size_append, ByteArray.size_append]; have hcr : (⟨#[13, 10]⟩ : ByteArray).size = 2 := rfl; omega, hc3, grownBy_trans G2.out hg3⟩
      have q1 : ¬ 9223372036854775807 < s.size + t.size := by omega
      have q2 : ¬ 9223372036854775807 < s.size + t.size + 2 := by omega
      clear hc3 hg3
      go_wp2_with fail
      go_roundw
      case rel => exact ⟨k + 1, by omega, by go_num, HS3⟩
      case measure => simp [intOf]; omega
    · obtain rfl : k = n := by omega
      have g1 : decide ((k : Int) < (k : Int)) = false := by simp
      go_wp2_with fail
      go_ret
      exact ⟨s, i2, h2, rfl, by omega, C2.out, G2.out⟩
end Go.Proofs.YtgebkpnieailbaaGreatDoor

/-
  The draw of a bool.
-/
namespace Go.Proofs.YtgebkpnieailbaaGreatDoor
set_option linter.unusedVariables false
open Go.RowKit

/-- A bool is drawn. -/
def DrawnOnce (K : Code) (w0 : World) (g : Nat) (w : World) (e : Ending) (w' : World) : Prop :=
  ∃ (b : Bool) (i' : Nat) (h' : Int), e = .returned (.bool b) ∧ Cur K w0 w' g i' h' ∧ w.grownBy w' (some g)

set_option maxRecDepth 100000 in
set_option maxHeartbeats 400000 in
theorem once_any {K : Code} {w0 w : World} {g i : Nat} {h : Int} (c : Cur K w0 w g i h) (n : Int) (h1 : 1 ≤ n) (h2 : n ≤ 1000) :
    Calls Tryz.prog 66 #[.pointer (some ⟨g, 0, none⟩), .int .i64 n] w (DrawnOnce K w0 g w) := by
  have C := Lib.hid c
  clear c
  go_enter Tryz.func66, Tryz.ntmps66
  go_wp2_with fail
  refine (below_any C.out n h1 (by omega)).mono ?_
  rintro e w1 ⟨x, i1, h1', rfl, hx0, hx1, hc1, hg1, _⟩
  have HC1 := Lib.hid hc1
  have HG1 := Lib.hid hg1
  clear hc1 hg1
  go_wp2_with fail
  go_ret
  exact ⟨_, i1, h1', rfl, HC1.out, HG1.out⟩

end Go.Proofs.YtgebkpnieailbaaGreatDoor

/-
  The draws of addresses: l06Text.
-/
namespace Go.Proofs.YtgebkpnieailbaaGreatDoor
set_option linter.unusedVariables false
open Go.RowKit

set_option maxRecDepth 100000 in
set_option maxHeartbeats 2000000 in
theorem text6_any {K : Code} {w0 w : World} {g i : Nat} {h : Int} (c : Cur K w0 w g i h) :
    Calls Tryz.prog 68 #[.pointer (some ⟨g, 0, none⟩)] w (DrawnStr K w0 g 400 w) := by
  have C := Lib.hid c
  clear c
  go_enter Tryz.func68, Tryz.ntmps68
  go_wp2_with fail
  refine (below_any C.out 4 (by decide) (by decide)).mono ?_
  rintro e w1 ⟨n0, i1, h1, rfl, hn0, hn1, hc1, hg1, _⟩
  obtain ⟨n, rfl⟩ := Int.eq_ofNat_of_zero_le hn0
  have hn7 : n ≤ 3 := by omega
  have C1 := Lib.hid hc1
  have G1 := Lib.hid hg1
  clear hc1 hg1 hn0 hn1
  go_wp2_with fail
  go_loopw [3, 5] (fun v j wr => ∃ k : Nat, k ≤ n + 1 ∧ j = .int .i64 (k : Int) ∧ Hid (StrCur K w0 w g (80 * k) v wr)) (fun _ j _ => n + 1 - (intOf j).toNat)
  case atStart => exact ⟨0, Nat.zero_le _, rfl, Lib.hid ⟨⟨#[]⟩, i1, h1, rfl, Nat.zero_le _, C1.out, G1.out⟩⟩
  case round =>
    obtain ⟨k, hk, rfl, HS⟩ := hrel
    obtain ⟨s, i2, h2, rfl, hs, hc2, hg2⟩ := HS.out
    have C2 := Lib.hid hc2
    have G2 := Lib.hid hg2
    clear hc2 hg2 HS
    by_cases hlt : k < n + 1
    · have g1 : decide ((k : Int) < 1 + (n : Int)) = true := by simp; omega
      by_cases h0 : k = 0
      · have g2 : decide ((0 : Int) < (k : Int)) = false := by simp; omega
        have hk0 : k ≤ 0 := by omega
        clear h0
        go_wp2_with fail
        refine (pick_lit C2.out 30 (by decide) (by rfl) (by decide) (by decide)).mono ?_
        rintro e w3 ⟨t, i3, h3, rfl, ht, hc3, hg3⟩
        have HS3 : Hid (StrCur K w0 w g (80 * (k + 1)) (.string (s ++ t)) w3) := Lib.hid ⟨_, i3, h3, rfl, by rw [ByteArray.size_append]; omega, hc3, grownBy_trans G2.out hg3⟩
        have q1 : ¬ 9223372036854775807 < s.size + t.size := by omega
        clear hc3 hg3
        go_wp2_with fail
        go_roundw
        case rel => exact ⟨k + 1, by omega, by go_num, HS3⟩
        case measure => simp [intOf]; omega
      · have g2 : decide ((0 : Int) < (k : Int)) = true := by simp; omega
        go_wp2_with fail
        refine (pick_lit C2.out 10 (by decide) (by rfl) (by decide) (by decide)).mono ?_
        rintro e w3 ⟨t, i3, h3, rfl, ht, hc3, hg3⟩
        have C3 := Lib.hid hc3
        have G3 := Lib.hid (grownBy_trans G2.out hg3)
        have q1 : ¬ 9223372036854775807 < s.size + t.size := by omega
        clear hc3 hg3
        go_wp2_with fail
        refine (pick_lit C3.out 30 (by decide) (by rfl) (by decide) (by decide)).mono ?_
        rintro e w4 ⟨u, i4, h4, rfl, hu, hc4, hg4⟩
        have HS4 : Hid (StrCur K w0 w g (80 * (k + 1)) (.string (s ++ t ++ u)) w4) := Lib.hid ⟨_, i4, h4, rfl, by rw [ByteArray.size_append, ByteArray.size_append]; omega, hc4, grownBy_trans G3.out hg4⟩
        have q2 : ¬ 9223372036854775807 < s.size + t.size + u.size := by omega
        clear hc4 hg4
        go_wp2_with fail
        go_roundw
        case rel => exact ⟨k + 1, by omega, by go_num, HS4⟩
        case measure => simp [intOf]; omega
    · have g1 : decide ((k : Int) < 1 + (n : Int)) = false := by simp; omega
      go_wp2_with fail
      go_ret
      exact ⟨s, i2, h2, rfl, by omega, C2.out, G2.out⟩
end Go.Proofs.YtgebkpnieailbaaGreatDoor

/-
  One of several texts is drawn, where they are no constants.
-/
namespace Go.Proofs.YtgebkpnieailbaaGreatDoor
set_option linter.unusedVariables false
open Go.RowKit

theorem pick_list {K : Code} {w0 w : World} {g i : Nat} {h : Int} (c : Cur K w0 w g i h) (m : Nat) (L : List ByteArray) {cs : Array Value} {n cap : Nat} (hcs : cs.toList = L.map Value.string) (hn : n = L.length) (h0 : 0 < n) (h9 : n ≤ 1000) (hm : ∀ x ∈ L, x.size ≤ m) :
    Calls Tryz.prog 67 #[.pointer (some ⟨g, 0, none⟩), .slice (some ⟨w.heap.size, 0, none⟩) n cap] (w.alloc (.cells cs 9)) (DrawnStr K w0 g m w) := by
  have hv := valsAt_new w (L.map Value.string) 9 n cap (by simp [hn])
  rw [← hcs] at hv
  simp only [Array.toArray_toList] at hv
  rw [hcs] at hv
  have hcl := c.lt
  refine (pick_any (c.later ((Below.refl _ _).alloc (Nat.le_refl _) _)) _ L hv (by simp [Value.ownBlock]; omega) (by omega) (by omega)).mono ?_
  rintro e w' ⟨s, i', h', e1, e2, e3, e4⟩
  exact ⟨s, i', h', e1, hm s e2, e3, grownBy_trans (World.grownBy_alloc _ _ _) e4⟩
end Go.Proofs.YtgebkpnieailbaaGreatDoor

/-
  The draws of heads for envelopes: DrawEnvelope.
-/
namespace Go.Proofs.YtgebkpnieailbaaGreatDoor
set_option linter.unusedVariables false
open Go.RowKit

/-- A text of at most m bytes is drawn. -/
def DrawsEv (m : Nat) (w : World) (e : Ending) (w' : World) : Prop := ∃ s : ByteArray, e = .returned (.string s) ∧ s.size ≤ m ∧ Below w.heap.size w w'

def evOdd (t : ByteArray) : List ByteArray := [⟨#[83, 101, 110, 100, 101, 114, 58, 32, 60, 115, 64, 115, 62, 13, 10]⟩, ⟨#[82, 101, 112, 108, 121, 45, 84, 111, 58, 32, 110, 111, 110, 101, 13, 10]⟩, t,
  ⟨#[73, 110, 45, 82, 101, 112, 108, 121, 45, 84, 111, 58, 32, 60, 48, 64, 120, 62, 13, 10]⟩, ⟨#[83, 117, 98, 106, 101, 99, 116, 58, 32, 0, 13, 10]⟩, ⟨#[70, 114, 111, 109, 58, 32, 97, 64, 98, 44, 32, 99, 64, 100, 13, 10]⟩]
theorem evOdd_len (t : ByteArray) (h : t.size ≤ 450) : ∀ x ∈ evOdd t, x.size ≤ 450 := by
  intro x hx
  simp only [evOdd, List.mem_cons, List.not_mem_nil, or_false] at hx
  rcases hx with rfl | rfl | rfl | rfl | rfl | rfl
  all_goals first | exact h | decide

set_option maxRecDepth 100000 in
set_option maxHeartbeats 1000000 in
theorem drawEnvelope_any (K : Code) (w0 w : World) (hr : IsRow .u8 w0 K.a K.len K.cap K.zs) (hl : K.len ≤ 1048576) (hb : Below w0.heap.size w0 w) :
    Calls Tryz.prog 24 #[.slice K.a K.len K.cap] w (DrawsEv 1000 w) := by
  go_enter Tryz.func24, Tryz.ntmps24
  go_wp2_with fail
  refine (new_any K w0 w hr hl hb).mono ?_
  rintro e w1 ⟨h1, rfl, hc1, hB1⟩
  have C1 := Lib.hid hc1
  have B1 := Lib.hid hB1
  clear hc1 hB1
  go_wp2_with fail
  refine (head5_any C1.out).mono ?_
  rintro e w2 ⟨s, i2, h2, rfl, hs, hc2, hg2⟩
  have C2 := Lib.hid hc2
  have B2 := Lib.hid (below_step B1.out hg2 (Nat.le_refl _))
  clear hc2 hg2
  go_wp2_with fail
  refine (once_any C2.out 2 (by decide) (by decide)).mono ?_
  rintro e w3 ⟨o3, i3, h3, rfl, hc3, hg3⟩
  have C3 := Lib.hid hc3
  have B3 := Lib.hid (below_step B2.out hg3 (Nat.le_refl _))
  clear hc3 hg3
  cases o3 with
  | false =>
    go_wp2_with fail
    go_ret
    exact ⟨s, rfl, by omega, B3.out⟩
  | true =>
    go_wp2_with fail
    refine (text6_any C3.out).mono ?_
    rintro e w4 ⟨t, i4, h4, rfl, ht, hc4, hg4⟩
    have C4 := Lib.hid hc4
    have B4 := Lib.hid (below_step B3.out hg4 (Nat.le_refl _))
    clear hc4 hg4
    have q1 : ¬ 9223372036854775807 < 4 + t.size := by omega
    have q2 : ¬ 9223372036854775807 < 4 + t.size + 2 := by omega
    go_wp2_with fail
    have hz : ((⟨#[67, 99, 58, 32]⟩ : ByteArray) ++ t ++ ⟨#[13, 10]⟩).size ≤ 450 := by
      rw [ByteArray.size_append, ByteArray.size_append]
      have : (⟨#[67, 99, 58, 32]⟩ : ByteArray).size = 4 := rfl
      have : (⟨#[13, 10]⟩ : ByteArray).size = 2 := rfl
      omega
    refine (pick_list C4.out 450 (evOdd ((⟨#[67, 99, 58, 32]⟩ : ByteArray) ++ t ++ ⟨#[13, 10]⟩)) (by rfl) (by rfl) (by decide) (by decide) (evOdd_len _ hz)).mono ?_
    rintro e w5 ⟨u, i5, h5, rfl, hu, hc5, hg5⟩
    have B5 := Lib.hid (below_step B4.out hg5 (Nat.le_refl _))
    have q3 : ¬ 9223372036854775807 < s.size + u.size := by omega
    clear hc5 hg5
    go_wp2_with fail
    go_ret
    exact ⟨s ++ u, rfl, by rw [ByteArray.size_append]; omega, B5.out⟩
end Go.Proofs.YtgebkpnieailbaaGreatDoor

/-
  The laws' own test on the code's length; what a draw may hand back.
-/
namespace Go.Proofs.YtgebkpnieailbaaGreatDoor
set_option linter.unusedVariables false
open Go.RowKit

/-- Two texts of at most m bytes are drawn. -/
def DrawsTwo (m : Nat) (w : World) (e : Ending) (w' : World) : Prop := ∃ s t : ByteArray, e = .returned (.tuple #[.string s, .string t]) ∧ s.size ≤ m ∧ t.size ≤ m ∧ Below w.heap.size w w'

set_option maxHeartbeats 400000 in
theorem big_no (a : Option Addr) (len cap : Nat) (w : World) (hl : len ≤ 1048576) :
    Calls Tryz.prog 11 #[.slice a len cap] w fun e w' => e = .returned (.bool false) ∧ w' = w := by
  have h1 : decide ((1048576 : Int) < (len : Int)) = false := by simp; omega
  go_enter Tryz.func11, Tryz.ntmps11
  go_wp2
  go_ret
  exact ⟨rfl, rfl⟩
set_option maxHeartbeats 400000 in
theorem big_yes (a : Option Addr) (len cap : Nat) (w : World) (hl : 1048576 < len) :
    Calls Tryz.prog 11 #[.slice a len cap] w fun e w' => e = .returned (.bool true) ∧ w' = w := by
  have h1 : decide ((1048576 : Int) < (len : Int)) = true := by simp; omega
  go_enter Tryz.func11, Tryz.ntmps11
  go_wp2
  go_ret
  exact ⟨rfl, rfl⟩

end Go.Proofs.YtgebkpnieailbaaGreatDoor

/-
  The law FnEnvelope, for every code.
-/
namespace Go.Proofs.YtgebkpnieailbaaGreatDoor
set_option linter.unusedVariables false
open Go.RowKit

set_option maxRecDepth 100000 in
set_option maxHeartbeats 2000000 in
theorem lawEnvelope_walk (a0 : Option Addr) (len0 cap0 : Nat) (z0 : List Int) (w : World) (w0 : IsRow .u8 w a0 len0 cap0 z0) (hsh : w.ShapedOpen Tryz.prog) (ht : Tens w) :
    Calls Tryz.prog 5 #[.slice a0 len0 cap0] w fun e w' => e = .returned (.bool true) ∧ Below w.heap.size w w' := by
  have W0 := Lib.hid w0
  have HM := Lib.hid (maxLenAt_of_shaped hsh)
  have HT := Lib.hid ht
  clear w0 hsh ht
  by_cases hl : len0 ≤ 1048576
  · go_enter Tryz.func5, Tryz.ntmps5
    go_wp2_with fail
    refine (big_no _ _ _ _ hl).mono ?_
    rintro e wx ⟨rfl, hwx⟩
    rw [hwx]
    clear hwx wx
    go_wp2_with fail
    refine (drawEnvelope_any ⟨a0, len0, cap0, z0⟩ w w W0.out hl (Below.refl _ _)).mono ?_
    rintro e w1 ⟨s, rfl, hs, hB⟩
    have B1 := Lib.hid hB
    clear hB
    have H1 := Lib.hid (fun w => specEnvelope_any s w (by omega))
    have H2 := Lib.hid (fun w hm ht => implEnvelope_any s w (by omega) hm ht)
    have IF := Lib.hid (fun w hm => implFields_is s w hm (by omega))
    obtain ⟨q1, q2⟩ := fieldsL_bounds s.data.toList
    have hsl : s.data.toList.length = s.size := by simp
    rw [hsl] at q1 q2
    have hgood := fieldsL_good s.data.toList
    have hokk := fields_ok s.data.toList (by omega)
    generalize fieldsL s.data.toList = l at H1 H2 IF q1 q2 hgood hokk
    have hlong := env_long l
    obtain ⟨hc1, hc2⟩ := env_closed l
    have hcat : mkB (putL l) ++ ⟨#[88, 45, 77, 111, 114, 101, 58, 32, 49, 13, 10, 83, 117, 98, 106, 101, 99, 116, 58, 32, 116, 111, 111, 32, 108, 97, 116, 101, 13, 10]⟩ = mkB (putL l ++ moreT) := by
      apply ByteArray.ext
      apply Array.ext'
      rfl
    have hml : moreT.length = 30 := rfl
    have H3 := Lib.hid (fun w hm ht => implEnvelope_any (mkB (putL l ++ moreT)) w (by rw [mkB_size, List.length_append, hml]; omega) hm ht)
    rw [mkB_list, fields_behind l hgood] at H3
    have IP := Lib.hid (fun v w hv => implPut_is v l w hv (by omega) (by omega))
    have IB := Lib.hid (fun v w hv => implBody_is v l ⟨#[83, 117, 98, 106, 101, 99, 116]⟩ w hv (by decide) (by omega) (by omega))
    rw [bodyV_parts, show bodyOf (⟨#[83, 117, 98, 106, 101, 99, 116]⟩ : ByteArray).data.toList l = bodyOf [83, 85, 66, 74, 69, 67, 84] l from bodyOf_up _ _ (by decide) l] at IB
    have hps : (mkB (putL l)).size ≤ 10000 := by rw [mkB_size]; omega
    have HCAT := Lib.hid hcat
    have hes : (mkB (envT l)).size = (envT l).length := mkB_size _
    have hE1 : 12 ≤ (mkB (envT l)).size := by omega
    have hb0 : (mkB (envT l)).data.toList.getD 0 0 = 40 := by
      rw [mkB_list, List.getD_eq_getElem?_getD, ← List.head?_eq_getElem?, hc1]
      rfl
    have hb1 : (mkB (envT l)).data.toList.getD ((mkB (envT l)).size - 1) 0 = 41 := by
      rw [mkB_list, hes, List.getD_eq_getElem?_getD, ← List.getLast?_eq_getElem?, hc2]
      rfl
    have hE2 : (mkB (envT l)).size ≤ 2147483700 := by
      have := envB_total l (hokk)
      rw [hes, ← envB_is, listT, List.length_append, List.length_cons, joinB_len, bytes_len]
      have : (envB l).length = 10 := rfl
      simp only [List.length_cons, List.length_nil]
      omega
    have HQ : Hid ((bodyOf [83, 85, 66, 74, 69, 67, 84] l).isSome = true → mkB (envT (l ++ moreL)) = mkB (envT l)) := Lib.hid (fun h => by
      cases hx : bodyOf [83, 85, 66, 74, 69, 67, 84] l with
      | none => rw [hx] at h; cases h
      | some x => rw [env_same l x hx])
    have HN : Hid ((bodyOf [83, 85, 66, 74, 69, 67, 84] l).isSome = false → (mkB (envT (l ++ moreL))).toList ≠ (mkB (envT l)).toList) := Lib.hid (fun h hx => by
      rw [Lib.toList_data, Lib.toList_data, mkB_list, mkB_list] at hx
      refine env_other l ?_ hx
      cases hy : bodyOf [83, 85, 66, 74, 69, 67, 84] l with
      | none => rfl
      | some x => rw [hy] at h; cases h)
    have hcp := mkB (putL l)
    clear hcat hml hlong hc1 hc2 q1 q2 hgood hsl hs hcp hes hokk
    generalize mkB (putL l ++ moreT) = M at H3 HCAT
    generalize mkB (putL l) = P1 at IP HCAT hps
    generalize mkB (envT (l ++ moreL)) = E2 at H3 HQ HN
    generalize mkB (envT l) = E1 at H1 H2 HQ HN hE1 hE2 hb0 hb1
    generalize (bodyOf [83, 85, 66, 74, 69, 67, 84] l).isSome = bb at IB HQ HN
    generalize mkB ((bodyOf [83, 85, 66, 74, 69, 67, 84] l).getD []) = bs at IB
    rw [byte_at E1 0 (by omega)] at hb0
    rw [byte_at E1 (E1.size - 1) (by omega)] at hb1
    have i0' : 0 < E1.size := by omega
    have i1 : (0 : Int) ≤ (E1.size : Int) - 1 := by omega
    have i2 : (E1.size : Int) - 1 < (E1.size : Int) := by omega
    have i3 : E1.size - 1 < E1.size := by omega
    have i4 : 1 ≤ E1.size := by omega
    have i5 : (0 : Int) < (E1.size : Int) := by omega
    have i6 : decide ((E1.size : Int) < 12) = false := by simp; omega
    have t0 : ((E1[0].toNat : Int) != 40) = false := by rw [hb0]; rfl
    have t1 : ((E1[E1.size - 1].toNat : Int) != 41) = false := by rw [hb1]; rfl
    clear hb0 hb1
    go_wp2_with fail
    refine (H2.out _ (HM.out.after B1.out) (HT.out.later B1.out)).mono ?_
    rintro e w2 ⟨rfl, hB⟩
    have B2 := Lib.hid (B1.out.trans (hB.mono B1.out.size))
    clear hB B1 H2
    go_wp2_with fail
    refine (H1.out _).mono ?_
    rintro e w3 ⟨rfl, hB⟩
    have B3 := Lib.hid (B2.out.trans (hB.mono B2.out.size))
    clear hB B2 H1
    go_wp2_with fail
    refine (IF.out _ (HM.out.after B3.out)).mono ?_
    rintro e w4 ⟨va, rfl, hr, hB⟩
    have V4 := Lib.hid (fls_of_row hr)
    have B4 := Lib.hid (B3.out.trans (hB.mono B3.out.size))
    clear hB B3 hr
    go_wp2_with fail
    refine (IP.out _ _ V4.out).mono ?_
    rintro e w5 ⟨rfl, hB⟩
    have B5 := Lib.hid (B4.out.trans (hB.mono B4.out.size))
    clear hB B4 IP V4
    have p1 : ¬ 9223372036854775807 < P1.size + 30 := by omega
    go_wp2_with fail
    rw [HCAT.out]
    refine (H3.out _ (HM.out.after B5.out) (HT.out.later B5.out)).mono ?_
    rintro e w6 ⟨rfl, hB⟩
    have B6 := Lib.hid (B5.out.trans (hB.mono B5.out.size))
    clear hB B5 H3
    go_wp2_with fail
    refine (IF.out _ (HM.out.after B6.out)).mono ?_
    rintro e w7 ⟨vb, rfl, hr, hB⟩
    have V7 := Lib.hid (fls_of_row hr)
    have B7 := Lib.hid (B6.out.trans (hB.mono B6.out.size))
    clear hB B6 hr
    go_wp2_with fail
    refine (IB.out _ _ V7.out).mono ?_
    rintro e w8 ⟨rfl, hB⟩
    have B8 := Lib.hid (B7.out.trans (hB.mono B7.out.size))
    clear hB B7 IB V7
    cases bb with
    | true =>
      have hx := HQ.out rfl
      subst hx
      clear HQ HN
      go_wp2_with fail
      go_ret
      exact ⟨rfl, B8.out⟩
    | false =>
      have hx := HN.out rfl
      have hy : (E2.toList == E1.toList) = false := by rw [beq_eq_false_iff_ne]; exact hx
      have hz : (E2.toList != E1.toList) = true := by rw [bne, hy]; rfl
      clear HQ HN hx
      go_wp2_with fail
      go_ret
      exact ⟨rfl, B8.out⟩
  · go_enter Tryz.func5, Tryz.ntmps5
    go_wp2_with (go_at_call 11; refine (big_yes _ _ _ _ (by omega)).mono ?_; rintro e w1 ⟨rfl, rfl⟩)
    go_ret
    exact ⟨rfl, Below.refl _ _⟩
end Go.Proofs.YtgebkpnieailbaaGreatDoor
