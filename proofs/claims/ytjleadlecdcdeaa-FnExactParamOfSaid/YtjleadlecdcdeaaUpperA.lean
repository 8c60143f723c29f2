/-
  The walks of impl.Upper, spec.Upper, and of Same: plain lists of bytes.
-/
import Derived.Test.YtjleadlecdcdeaaRows
import Derived.WalkKit
import Derived.WalkSpells
import Derived.Lib.Hide
import Derived.Deep.WholeRow
import Derived.Test.YtjleadlecdcdeaaBuf
import Derived.Test.YtjleadlecdcdeaaIn
namespace Go.Proofs.Ytjleadlecdcdeaa
set_option linter.unusedVariables false
open Go.RowKit

def upN (n : Nat) : Nat := if 97 ≤ n ∧ n ≤ 122 then n - 32 else n
def tabUpTo (k : Nat) : Array Value := Array.ofFn (n := 256) fun i => if i.val < k then .int .u8 i.val else .int .u8 0
def tabUp2 (k : Nat) : Array Value := Array.ofFn (n := 256) fun i => if 97 ≤ i.val ∧ i.val < k then .int .u8 (i.val - 32 : Nat) else .int .u8 i.val
theorem tabUpTo_size (k : Nat) : (tabUpTo k).size = 256 := by simp [tabUpTo]
theorem tabUp2_size (k : Nat) : (tabUp2 k).size = 256 := by simp [tabUp2]
theorem tabUpTo_get (k i : Nat) : (tabUpTo k)[i]? = if i < 256 then some (if i < k then .int .u8 i else .int .u8 0) else none := by
  simp [tabUpTo, Array.getElem?_ofFn]
theorem tabUp2_get (k i : Nat) : (tabUp2 k)[i]? = if i < 256 then some (if 97 ≤ i ∧ i < k then .int .u8 (i - 32 : Nat) else .int .u8 i) else none := by
  simp [tabUp2, Array.getElem?_ofFn]
theorem tabUpTo_set (k : Nat) (hk : k < 256) : (tabUpTo k).setIfInBounds k (.int .u8 k) = tabUpTo (k + 1) := by
  apply Array.ext_getElem?
  intro i
  rw [Array.getElem?_setIfInBounds, tabUpTo_get, tabUpTo_get, tabUpTo_size]
  by_cases e : k = i
  · subst e; simp [hk]
  · simp only [if_neg e]
    have : (i < k + 1) ↔ i < k := by omega
    simp only [this]
theorem tabUp2_set (k : Nat) (h97 : 97 ≤ k) (hk : k < 256) : (tabUp2 k).setIfInBounds k (.int .u8 (k - 32 : Nat)) = tabUp2 (k + 1) := by
  apply Array.ext_getElem?
  intro i
  rw [Array.getElem?_setIfInBounds, tabUp2_get, tabUp2_get, tabUp2_size]
  by_cases e : k = i
  · subst e; simp [hk, h97]
  · simp only [if_neg e]
    have : (97 ≤ i ∧ i < k + 1) ↔ (97 ≤ i ∧ i < k) := by omega
    simp only [this]
theorem tabUpTo_end : tabUpTo 256 = tabUp2 97 := by
  apply Array.ext_getElem?
  intro i
  rw [tabUpTo_get, tabUp2_get]
  by_cases h : i < 256
  · rw [if_pos h, if_pos h, if_pos h, if_neg (by omega)]
  · rw [if_neg h, if_neg h]
theorem tabUp2_one (k : Nat) : (tabUp2 k).all (·.oneCell') = true := by
  rw [Array.all_eq_true]
  intro i hi
  simp only [tabUp2, Array.getElem_ofFn]
  split <;> rfl
theorem belowRow {B : Nat} {a w : World} (h : Below B a w) {g : Nat} (hg : B ≤ g) (cs : Array Value) : Below B a (w.setRow g cs) :=
  h.trans ⟨rfl, rfl, rfl, by simp [World.setRow], fun k hk => by
    simp only [World.setRow, Array.getElem?_modify]
    rw [if_neg (by omega)]⟩
def z256 : Array Value := Array.replicate 256 (.int .u8 0)
theorem z256_eq : z256 = tabUpTo 0 := by
  apply Array.ext_getElem?
  intro i
  rw [tabUpTo_get]
  simp [z256, Array.getElem?_replicate]

theorem info256 : (Try.prog.info? 141).map (fun i => (i.zero, i.size)) = some (some (.agg z256), 256) := by kernel_rfl

set_option maxRecDepth 100000 in
set_option maxHeartbeats 400000 in
theorem upperTable_any (w : World) :
    Calls Try.prog 98 #[] w fun e w' => e = .returned (.agg (tabUp2 123)) ∧ Below w.heap.size w w' := by
  obtain ⟨hz, hs⟩ := zero_of_info info256
  rw [z256_eq] at hz
  obtain ⟨C0, HC0⟩ : ∃ C, Hid (C = tabUpTo 0) := ⟨_, Lib.hid rfl⟩
  rw [← HC0.out] at hz
  go_enter Try.func98, Try.ntmps98
  go_wp2
  go_loopw [4] (fun i wr => ∃ (k : Nat) (C : Array Value), k ≤ 256 ∧ i = .int .i64 k ∧ wr = (w.alloc (Obj.cells C0 141)).alloc (Obj.cells C 141) ∧ Hid (C = tabUpTo k)) (fun i _ => 256 - (intOf i).toNat)
  case atStart => exact ⟨0, C0, Nat.zero_le _, rfl, rfl, HC0⟩
  case round =>
    obtain ⟨k, C, hk, rfl, rfl, HC⟩ := hrel
    by_cases hlt : k < 256
    · have hget : C[k]? = some (.int .u8 0) := by rw [HC.out, tabUpTo_get, if_pos hlt, if_neg (by omega)]
      go_wp2
      go_roundw
      case rel => exact ⟨k + 1, _, by omega, by go_num, rfl, Lib.hid (by rw [← tabUpTo_set k hlt, HC.out])⟩
      case measure => simp [intOf]; omega
    · obtain rfl : k = 256 := by omega
      go_wp2
      clear hlt
      go_loopw [3] (fun i wr => ∃ (c : Nat) (D : Array Value), 97 ≤ c ∧ c ≤ 123 ∧ i = .int .i32 c ∧ wr = (w.alloc (Obj.cells C0 141)).alloc (Obj.cells D 141) ∧ Hid (D = tabUp2 c)) (fun i _ => 123 - (intOf i).toNat)
      case atStart => exact ⟨97, C, by omega, by omega, rfl, rfl, Lib.hid (by rw [HC.out, tabUpTo_end])⟩
      case round =>
        obtain ⟨c, D, h97, hc, rfl, rfl, HD⟩ := hrel
        by_cases hlt : c ≤ 122
        · have hget : D[c]? = some (.int .u8 c) := by rw [HD.out, tabUp2_get, if_pos (by omega), if_neg (by omega)]
          go_wp2
          go_roundw
          case rel => exact ⟨c + 1, _, by omega, by omega, by go_num, rfl, Lib.hid (by rw [← tabUp2_set c h97 (by omega), HD.out]; congr 2; omega)⟩
          case measure => simp [intOf]; omega
        · obtain rfl : c = 123 := by omega
          have hg1 : ((w.alloc (Obj.cells C0 141)).alloc (Obj.cells D 141)).heap[w.heap.size + 1]? = some (.cells D 141 (0, 0)) := heap_alloc2_new _ _ _
          have hg0 : ((w.alloc (Obj.cells C0 141)).alloc (Obj.cells D 141)).heap[w.heap.size]? = some (.cells C0 141 (0, 0)) := heap_alloc2_old _ _ _
          have hD : D.size = 256 := by rw [HD.out, tabUp2_size]
          have hC : C0.size = 256 := by rw [HC0.out, tabUpTo_size]
          have hall : D.all (·.oneCell') = true := by rw [HD.out]; exact tabUp2_one _
          have Hs : (Try.prog.info? 141).map (·.size) = some D.size := by rw [hs, hD]
          have Hcs : C0.size = D.size := by rw [hC, hD]
          have HG1 := Lib.hid hg1
          have HG0 := Lib.hid hg0
          have HS := Lib.hid Hs
          have HCS := Lib.hid Hcs
          have HALL := Lib.hid hall
          clear hg1 hg0 hD hC hall Hs Hcs
          go_wp2_with (first | (refine wpList_load_row rfl 141 _ rfl (w.heap.size + 1) rfl 141 D (0, 0) _ HG1.out Try.underlying141 rfl HS.out ?_) | (refine wpList_store_row rfl 141 _ _ rfl w.heap.size D rfl rfl 141 C0 HG0.out HS.out HCS.out HALL.out ?_))
          refine bodyPost_ret_by (results_cell_row rfl _ _ w.heap.size 141 D (0, 0) _ rfl (setRow_heap _ _ _ _ _ _ HG0.out) Try.underlying141 rfl HS.out) rfl ⟨by rw [HD.out], ?_⟩
          exact belowRow (((Below.refl _ _).alloc (Nat.le_refl _) _).alloc (by simp) _) (Nat.le_refl _) _

def upB (b : UInt8) : UInt8 := if 97 ≤ b.toNat ∧ b.toNat ≤ 122 then b - 32 else b
def upS (l : List UInt8) : List UInt8 := l.map upB
def mixUp (l : List UInt8) (k : Nat) : List UInt8 := (l.take k).map upB ++ l.drop k
theorem mixUp_len (l : List UInt8) (k : Nat) : (mixUp l k).length = l.length := by
  simp [mixUp]; omega
theorem mixUp_zero (l : List UInt8) : mixUp l 0 = l := by simp [mixUp]
theorem mixUp_all (l : List UInt8) (k : Nat) (h : l.length ≤ k) : mixUp l k = upS l := by
  simp [mixUp, upS, List.take_of_length_le h, List.drop_eq_nil_of_le h]
theorem mixUp_at (l : List UInt8) (k : Nat) (h : k < l.length) : (mixUp l k).getD k 0 = l.getD k 0 := by
  simp [mixUp, List.getD, List.getElem?_append, show min k l.length = k by omega]
theorem mixUp_set (l : List UInt8) (k : Nat) (h : k < l.length) : (mixUp l k).set k (upB (l.getD k 0)) = mixUp l (k + 1) := by
  apply List.ext_getElem?
  intro i
  simp only [mixUp, List.getElem?_set, List.getElem?_append, List.length_map, List.length_take, List.getElem?_map, List.getElem?_take, List.getElem?_drop, List.length_append, List.length_drop, List.getD]
  rw [show min k l.length = k by omega, show min (k + 1) l.length = k + 1 by omega]
  by_cases e : k = i
  · subst e
    rw [if_pos rfl, if_pos (by omega), if_pos (by omega), if_pos (by omega), List.getElem?_eq_getElem h]
    rfl
  · rw [if_neg e]
    by_cases h1 : i < k
    · rw [if_pos h1, if_pos h1, if_pos (by omega), if_pos (by omega)]
    · rw [if_neg h1, if_neg (by omega)]
      congr 1
      omega
theorem mixUp_keep (l : List UInt8) (k : Nat) (h : k < l.length) (hb : upB (l.getD k 0) = l.getD k 0) : mixUp l k = mixUp l (k + 1) := by
  rw [← mixUp_set l k h, hb, ← mixUp_at l k h]
  apply List.ext_getElem?
  intro i
  rw [List.getElem?_set]
  by_cases e : k = i
  · subst e
    have := mixUp_len l k
    rw [if_pos rfl, if_pos (by omega), List.getD, List.getElem?_eq_getElem (by omega)]
    rfl
  · rw [if_neg e]
theorem upB_nat (b : UInt8) : (upB b).toNat = if 97 ≤ b.toNat ∧ b.toNat ≤ 122 then b.toNat - 32 else b.toNat := by
  unfold upB
  split
  · rename_i h
    rw [UInt8.toNat_sub_of_le _ _ (by rw [UInt8.le_iff_toNat_le]; simp; omega)]
    rfl
  · rfl

set_option maxRecDepth 100000 in
set_option maxHeartbeats 400000 in
theorem specUpper_any (s : ByteArray) (w : World) (hs : s.size ≤ maxLen) :
    Calls Try.prog 83 #[.string s] w fun e w' => e = .returned (.string ⟨(upS s.data.toList).toArray⟩) ∧ Below w.heap.size w w' := by
  unfold maxLen at hs
  obtain ⟨W, cap, hconv, hbuf, hbel, hsz⟩ := conv_bytes (P := Try.prog) w 9 22 5 s Try.underlying9 Try.underlying22 Try.underlying5
  have HS := Lib.hid hsz
  clear hsz
  go_enter Try.func83, Try.ntmps83
  go_wp2
  go_loopw [4] (fun i wr => ∃ k : Nat, k ≤ s.size ∧ i = .int .i64 k ∧ Buf wr w.heap.size 5 (mixUp s.data.toList k) ∧ Below w.heap.size w wr) (fun i _ => s.size - (intOf i).toNat)
  case atStart => exact ⟨0, Nat.zero_le _, rfl, by rw [mixUp_zero]; exact hbuf, hbel⟩
  case round =>
    obtain ⟨k, hk, rfl, hb, hB⟩ := hrel
    have hlen : (mixUp s.data.toList k).length = s.size := by rw [mixUp_len]; simp
    by_cases hlt : k < s.size
    · have hc := hb.cell k (by omega)
      have hf := hb.free k (by omega)
      have hl : k < s.data.toList.length := by simpa using hlt
      rw [mixUp_at _ _ hl] at hc
      generalize hx : s.data.toList.getD k 0 = x at hc
      have hset := mixUp_set s.data.toList k hl
      have hkeep := mixUp_keep s.data.toList k hl
      rw [hx] at hset hkeep
      unfold bv at hc
      have hx1 : (x.toNat : Int) < 256 := by have := x.toNat_lt; omega
      have hst := hb.store k (by omega)
      have HST := Lib.hid hst
      have HSET := Lib.hid hset
      have HKEEP := Lib.hid hkeep
      have HX := Lib.hid hx
      have HLEN := Lib.hid hlen
      clear hst hset hkeep hx hlen
      by_cases hup : 97 ≤ x.toNat ∧ x.toNat ≤ 122
      · obtain ⟨hu1, hu2⟩ := hup
        go_wp2_with (go_at_call 43; refine (in_yes _ _ _ _ (by omega) (by omega)).mono ?_; rintro e w' ⟨rfl, rfl⟩)
        go_roundw
        case rel =>
          refine ⟨k + 1, by omega, by go_num, ?_, hB.setCell (p := ⟨w.heap.size, k, none⟩) (Nat.le_refl _) _⟩
          have h3 := HST.out (upB x)
          rw [HSET.out] at h3
          have h4 : bv (upB x) = .int .u8 ((x.toNat : Int) - 32) := by
            unfold bv; rw [upB_nat, if_pos ⟨hu1, hu2⟩]; congr 1; omega
          rw [h4] at h3
          exact h3
        case measure => simp [intOf]; omega
      · have Hup := Lib.hid hup
        have hno : (x.toNat : Int) < 97 ∨ 122 < (x.toNat : Int) := by omega
        have Hno := Lib.hid hno
        clear hup hno
        go_wp2_with (go_at_call 43; refine (in_no _ _ _ _ Hno.out).mono ?_; rintro e w' ⟨rfl, rfl⟩)
        go_roundw
        case rel =>
          refine ⟨k + 1, by omega, by go_num, ?_, hB⟩
          rw [← HKEEP.out (by unfold upB; rw [if_neg Hup.out])]
          exact hb
        case measure => simp [intOf]; omega
    · rw [mixUp_all _ _ (by simp; omega)] at hb
      have hback := hb.back (P := Try.prog) 22 9 5 cap s.size (by simp [upS]) Try.underlying22 Try.underlying5 Try.underlying9
      have HLEN := Lib.hid hlen
      clear hlen
      go_wp2
      go_ret
      exact ⟨rfl, hB⟩
end Go.Proofs.Ytjleadlecdcdeaa
