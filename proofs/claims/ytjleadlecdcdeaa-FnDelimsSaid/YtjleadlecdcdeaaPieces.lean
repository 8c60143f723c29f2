/-
  The iterator of impl.pieces: it hands on the parts of a text between the occurrences of a mark, one by one.
-/
import Derived.Test.YtjleadlecdcdeaaFindI
import Derived.RangeFuncNested
import Derived.RangeFuncBound
import Derived.RangeFuncCalls
import Derived.RangeFuncLeaves
import Derived.RangeFuncWrites
import Derived.RangeFuncBox
import Derived.Shelf.Abstract
import Derived.Shelf.RegionOpen
import Derived.OwnWalkIn
import Derived.TacticsInMore
import Derived.LoopNIn
import Derived.LoopIn
namespace Go.Proofs.Ytjleadlecdcdeaa
set_option linter.unusedVariables false
open Go.RowKit Go.Shelf
attribute [local go_sem] Oper.semAt_some

/-- The parts of r between occurrences of m. -/
inductive Pcs (m : ByteArray) : ByteArray → List ByteArray → Prop
  | last (r : ByteArray) (h : Lib.index r.data.toList m.data.toList < 0) : Pcs m r [r]
  | more (r : ByteArray) (i : Nat) (ps : List ByteArray) (h : Lib.index r.data.toList m.data.toList = (i : Int)) (hi : i + m.size ≤ r.size) (t : Pcs m (r.extract (i + m.size) r.size) ps) : Pcs m r (r.extract 0 i :: ps)

theorem index_facts (r m : ByteArray) (i : Nat) (h : Lib.index r.data.toList m.data.toList = (i : Int)) :
    i ≤ r.size ∧ Lib.occAt r.data.toList m.data.toList i = true ∧ ∀ j, j < i → Lib.occAt r.data.toList m.data.toList j = false := by
  rcases Lib.index_spec r.data.toList m.data.toList with ⟨h1, _⟩ | ⟨k, h1, h2, h3, h4⟩
  · omega
  · obtain rfl : k = i := by omega
    exact ⟨by simpa using h2, h3, h4⟩
theorem index_neg (r m : ByteArray) (h : Lib.index r.data.toList m.data.toList < 0) (j : Nat) (hj : j ≤ r.size) : Lib.occAt r.data.toList m.data.toList j = false := by
  rcases Lib.index_spec r.data.toList m.data.toList with ⟨_, h2⟩ | ⟨k, h1, _, _, _⟩
  · exact h2 j (by simpa using hj)
  · omega
theorem index_room (r m : ByteArray) (i : Nat) (h : Lib.index r.data.toList m.data.toList = (i : Int)) : i + m.size ≤ r.size := by
  have h1 := Lib.index_room r.data.toList m.data.toList (by omega)
  rw [h] at h1
  simp at h1
  omega

theorem Pcs.pos {m r : ByteArray} {ps : List ByteArray} (h : Pcs m r ps) : 0 < ps.length := by
  cases h <;> simp

/-- Two blocks stay as they are. -/
def Keep2 (a b : Nat) (W W' : World) : Prop := W'.heap[a]? = W.heap[a]? ∧ W'.heap[b]? = W.heap[b]?
theorem Keep2.trans {a b : Nat} {A B C : World} (h : Keep2 a b A B) (k : Keep2 a b B C) : Keep2 a b A C := ⟨k.1.trans h.1, k.2.trans h.2⟩
theorem Keep2.of_below {a b B : Nat} {W W' : World} (h : Below B W W') (ha : a < B) (hb : b < B) : Keep2 a b W W' := ⟨h.block a ha, h.block b hb⟩
theorem Keep2.putObj {a b n : Nat} (ha : a < n) (hb : b < n) (W : World) (l : Nat) (o o' : Obj) (hl : n ≤ l) (_ : W.heap[l]? = some o) (_ : o.isCells = false) (_ : o.isWalk = false) : Keep2 a b W (W.putObj l o') :=
  ⟨World.putObj_heap_other (by omega), World.putObj_heap_other (by omega)⟩
theorem cell_of_heap {W W' : World} {a : Nat} (h : W'.heap[a]? = W.heap[a]?) (j : Nat) : W'.cell? ⟨a, j, none⟩ = W.cell? ⟨a, j, none⟩ := by
  simp only [World.cell?, h]
theorem MaxLenAt.keep {b : Nat} {W W' : World} (h : MaxLenAt W) (k : Keep2 0 b W W') : MaxLenAt W' := by
  obtain ⟨m, hm⟩ := h
  exact ⟨m, (cell_of_heap k.1 0).trans hm⟩

set_option maxRecDepth 100000 in
set_option maxHeartbeats 1000000 in
theorem pieces1_in (n : Nat) (hn : 1 ≤ n) (l Bs Bm : Nat) (m s : ByteArray) (full : List ByteArray) (hps : Pcs m s full) (J Jx : List ByteArray → World → Prop)
    (hs : s.size < 4294967281) (hm1 : 1 ≤ m.size)
    (hY : ∀ pre x W, J pre W → pre ++ [x] <+: full → YieldAt Fence.wide (n - 1) Try.prog l #[.string x] W fun e W' =>
      (e = .returned (.bool true) ∧ J (pre ++ [x]) W' ∧ Keep2 0 Bm W W') ∨ (e = .returned (.bool false) ∧ Jx (pre ++ [x]) W'))
    (W : World) (hcs : W.cell? ⟨Bs, 0, none⟩ = some (.string s)) (hcm : W.cell? ⟨Bm, 0, none⟩ = some (.string m)) (hML : MaxLenAt W) (h0 : J [] W) :
    CallsIn Fence.wide n Try.prog 76 #[.func (.yield l) #[] #[], .pointer (some ⟨Bs, 0, none⟩), .pointer (some ⟨Bm, 0, none⟩)] W fun e W' => (∃ v, e = .returned v) ∧
      ((∃ ys, ys = full ∧ J ys W') ∨ (∃ pre, pre <+: full ∧ Jx pre W')) := by
  have HML := Lib.hid hML
  clear hML
  refine callsIn_of_wp Try.func76 rfl trivial ?_ rfl
  simp only [Try.ntmps76, List.size_toArray, List.length_cons, List.length_nil, Nat.reduceAdd, Nat.reduceSub, Array.replicate_succ, Array.replicate_zero, List.push_toArray, List.append_toArray, List.nil_append, List.cons_append]
  gi_wp2_with (refine ⟨trivial, ?_⟩; gi_at_call 77; refine (callsIn_wide.2 (implFind_any _ _ _ HML.out hs)).mono ?_; rintro e w' ⟨rfl, rfl⟩)
  gi_loopw [4, 5] (fun r i wr => ∃ (pre ps : List ByteArray) (q : ByteArray), r = .string q ∧ i = .int .i64 (Lib.index q.data.toList m.data.toList) ∧ Hid (full = pre ++ ps) ∧ Hid (Pcs m q ps) ∧ q.size < 4294967281 ∧ J pre wr ∧ wr.cell? ⟨Bm, 0, none⟩ = some (.string m) ∧ Hid (MaxLenAt wr))
    (fun r _ _ => match r with | .string q => q.size | _ => 0)
  case atStart =>
    exact ⟨[], full, s, rfl, rfl, Lib.hid rfl, Lib.hid hps, hs, h0, hcm, HML⟩
  case round =>
    obtain ⟨pre, ps, q, rfl, rfl, hx, hp, hq, hJs, hcm1, hML1⟩ := hrel
    rcases hp.out with ⟨r, hneg⟩ | ⟨r, i, ps', hi, hroom, ht⟩
    · obtain ⟨fn, tmps, assign, body, hy, hR⟩ := hY pre q wr hJs (by rw [hx.out]; exact List.prefix_refl _)
      generalize hix : Lib.index q.data.toList m.data.toList = ix at *
      gi_wp2
      refine hR.mono ?_
      rintro e W3 (⟨rfl, hJ3, hk3⟩ | ⟨rfl, hJx3⟩)
      · gi_wp2
        go_end0
        exact ⟨⟨_, rfl⟩, .inl ⟨_, hx.out.symm, hJ3⟩⟩
      · gi_wp2
        go_end0
        exact ⟨⟨_, rfl⟩, .inr ⟨_, by rw [hx.out]; exact List.prefix_refl _, hJx3⟩⟩
    · obtain ⟨fn, tmps, assign, body, hy, hR⟩ := hY pre (q.extract 0 i) wr hJs (by rw [hx.out]; exact ⟨ps', by simp⟩)
      rw [hi]
      have Hi := Lib.hid hi
      clear hi
      have hext : (q.extract (i + m.size) q.size).size ≤ q.size - (i + m.size) := by simp
      have HEXT := Lib.hid hext
      clear hext
      gi_wp2
      refine hR.mono ?_
      rintro e W3 (⟨rfl, hJ3, hk3⟩ | ⟨rfl, hJx3⟩)
      · have hcm3 : W3.cell? ⟨Bm, 0, none⟩ = some (.string m) := (cell_of_heap hk3.2 0).trans hcm1
        have HML3 := Lib.hid (hML1.out.keep hk3)
        gi_wp2_with (refine ⟨trivial, ?_⟩; gi_at_call 77; refine (callsIn_wide.2 (implFind_any _ _ _ HML3.out (by have := HEXT.out; omega))).mono ?_; rintro e w' ⟨rfl, rfl⟩)
        go_roundw
        case rel => exact ⟨pre ++ [q.extract 0 i], ps', _, rfl, by rw [Lib.extract_data], Lib.hid (by rw [hx.out]; simp), Lib.hid ht, by have := HEXT.out; omega, hJ3, hcm3, HML3⟩
        case measure => have := HEXT.out; simp; omega
      · gi_wp2
        refine bodyPost_ret (results_none rfl _ _ _) rfl ?_
        exact ⟨⟨_, rfl⟩, .inr ⟨pre ++ [q.extract 0 i], ⟨ps', by rw [hx.out]; simp⟩, hJx3⟩⟩

set_option maxHeartbeats 400000 in
/-- The iterator's value: its two arguments boxed. -/
theorem pieces_in (n : Nat) (s m : ByteArray) (w : World) :
    CallsIn Fence.wide n Try.prog 49 #[.string s, .string m] w fun e w' =>
      e = .returned (.func (.func 76) #[] #[.pointer (some ⟨w.heap.size, 0, none⟩), .pointer (some ⟨w.heap.size + 1, 0, none⟩)]) ∧
      w' = (w.alloc (.cells #[.string s] 9)).alloc (.cells #[.string m] 9) := by
  refine callsIn_of_wp Try.func49 rfl trivial ?_ rfl
  simp only [Try.ntmps49, List.size_toArray, List.length_cons, List.length_nil, Nat.reduceAdd, Nat.reduceSub, Array.replicate_succ, Array.replicate_zero, List.push_toArray, List.append_toArray, List.nil_append, List.cons_append]
  gi_wp2
  go_ret
  exact ⟨rfl, rfl⟩

theorem pieces_stops (n : Nat) (hn : 1 ≤ n) (Bs Bm : Nat) (m s : ByteArray) (full : List ByteArray) (hps : Pcs m s full) (hs : s.size < 4294967281) (hm1 : 1 ≤ m.size) (w : World)
    (hBs : Bs < w.heap.size) (hBm : Bm < w.heap.size) (hML : MaxLenAt w)
    (hcs : w.cell? ⟨Bs, 0, none⟩ = some (.string s)) (hcm : w.cell? ⟨Bm, 0, none⟩ = some (.string m)) :
    SeqStopsK Fence.wide n Try.prog 76 #[.pointer (some ⟨Bs, 0, none⟩), .pointer (some ⟨Bm, 0, none⟩)] (fun x : ByteArray => #[Value.string x]) (Keep2 0 Bm) (fun ys => ys = full) (fun pre => pre <+: full) full.length w := fun l J Jx W hW _ _ hY h0 =>
  pieces1_in n hn l Bs Bm m s full hps J Jx hs hm1 (fun pre x W1 h hp => hY pre x W1 h (by have := hp.length_le; simp at this; omega)) W ((hW.cell (p := ⟨Bs, 0, none⟩) hBs).trans hcs) ((hW.cell (p := ⟨Bm, 0, none⟩) hBm).trans hcm) (hML.after hW) h0

/-- Every text has parts. -/
theorem pcs_exists (m : ByteArray) (hm : 1 ≤ m.size) : ∀ (n : Nat) (r : ByteArray), r.size ≤ n → ∃ ps, Pcs m r ps := by
  intro n
  induction n with
  | zero =>
    intro r hr
    rcases Int.lt_or_le (Lib.index r.data.toList m.data.toList) 0 with h | h
    · exact ⟨_, .last r h⟩
    · exfalso
      obtain ⟨i, hi⟩ := Int.eq_ofNat_of_zero_le h
      have := index_room r m i hi
      omega
  | succ n ih =>
    intro r hr
    rcases Int.lt_or_le (Lib.index r.data.toList m.data.toList) 0 with h | h
    · exact ⟨_, .last r h⟩
    · obtain ⟨i, hi⟩ := Int.eq_ofNat_of_zero_le h
      have hroom := index_room r m i hi
      obtain ⟨ps, hp⟩ := ih (r.extract (i + m.size) r.size) (by simp; omega)
      exact ⟨_, .more r i ps hi hroom hp⟩
end Go.Proofs.Ytjleadlecdcdeaa
