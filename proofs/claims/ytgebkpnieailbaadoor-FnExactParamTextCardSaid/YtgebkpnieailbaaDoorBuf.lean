/-
  A row of bytes of the call's own: what a conversion of a string to bytes lays, read, written, and turned back.
-/
import Derived.Test.YtgebkpnieailbaaDoorRows
import Derived.WalkKit
import Derived.WalkSpells
import Derived.Lib.Hide
import Derived.Laws.IdiomStrings
namespace Go.Proofs.YtgebkpnieailbaaDoor
set_option linter.unusedVariables false
open Go.RowKit

def bv (b : UInt8) : Value := .int .u8 (b.toNat : Int)

/-- Block g holds, ahead of its mark, the bytes l. -/
def Buf (w : World) (g : Nat) (T : TypeId) (l : List UInt8) : Prop :=
  ∃ cs lo hi, w.heap[g]? = some (.cells cs T (lo, hi)) ∧ (l.length ≤ lo ∨ hi ≤ lo) ∧ ∀ j, j < l.length → cs[j]? = some (bv (l.getD j 0))

theorem Buf.lt {w : World} {g : Nat} {T : TypeId} {l : List UInt8} (h : Buf w g T l) : g < w.heap.size := by
  obtain ⟨cs, lo, hi, hg, _, _⟩ := h
  exact (Array.getElem?_eq_some_iff.1 hg).1

theorem Buf.cell {w : World} {g : Nat} {T : TypeId} {l : List UInt8} (h : Buf w g T l) (j : Nat) (hj : j < l.length) : w.cell? ⟨g, j, none⟩ = some (bv (l.getD j 0)) := by
  obtain ⟨cs, lo, hi, hg, _, hc⟩ := h
  simp only [World.cell?, hg]
  simpa using hc j hj

theorem Buf.free {w : World} {g : Nat} {T : TypeId} {l : List UInt8} (h : Buf w g T l) (j : Nat) (hj : j < l.length) : w.frozen? ⟨g, j, none⟩ = false := by
  obtain ⟨cs, lo, hi, hg, hl, _⟩ := h
  simp only [World.frozen?, hg]
  rcases hl with h1 | h1
  · have : decide (lo ≤ j) = false := by simp; omega
    simp [this]
  · have : (decide (lo ≤ j) && decide (j < hi)) = false := by
      rw [Bool.and_eq_false_iff]
      by_cases h2 : lo ≤ j
      · right; simp; omega
      · left; simp; omega
    simpa using this

theorem Buf.store {w : World} {g : Nat} {T : TypeId} {l : List UInt8} (h : Buf w g T l) (j : Nat) (hj : j < l.length) (b : UInt8) : Buf (w.setCell ⟨g, j, none⟩ (bv b)) g T (l.set j b) := by
  obtain ⟨cs, lo, hi, hg, hl, hc⟩ := h
  refine ⟨cs.setIfInBounds j (bv b), lo, hi, ?_, by simpa using hl, ?_⟩
  · rw [setCell_eq_setRow w g j cs T (lo, hi) (bv b) hg]
    exact setRow_heap w g cs _ T _ hg
  · intro i hi'
    simp only [List.length_set] at hi'
    rw [Array.getElem?_setIfInBounds]
    by_cases e : j = i
    · subst e
      have hs : j < cs.size := by
        have := hc j hj
        exact (Array.getElem?_eq_some_iff.1 this).1
      simp [hs, List.getD, hj]
    · rw [if_neg e, hc i hi']
      simp [List.getD, e]

theorem Buf.drew {w : World} {g : Nat} {T : TypeId} {l : List UInt8} (h : Buf w g T l) : Buf w.drew g T l := h
theorem Buf.of_heap {w w' : World} {g : Nat} {T : TypeId} {l : List UInt8} (h : Buf w g T l) (e : w'.heap[g]? = w.heap[g]?) : Buf w' g T l := by
  obtain ⟨cs, lo, hi, hg, hl, hc⟩ := h
  exact ⟨cs, lo, hi, e.trans hg, hl, hc⟩
theorem Buf.below {B : Nat} {w w' : World} {g : Nat} {T : TypeId} {l : List UInt8} (h : Buf w g T l) (hb : Below B w w') (hg : g < B) : Buf w' g T l := h.of_heap (hb.block g hg)
theorem Buf.alloc {w : World} {g : Nat} {T : TypeId} {l : List UInt8} (h : Buf w g T l) (o : Obj) : Buf (w.alloc o) g T l := h.of_heap (Below.heap_alloc w o g h.lt)
theorem Buf.other {w : World} {g : Nat} {T : TypeId} {l : List UInt8} (h : Buf w g T l) (a : Addr) (ha : g ≠ a.block) (u : Value) : Buf (w.setCell a u) g T l := h.of_heap (Below.heap_setCell w a u g ha)

/-- 'string(b)'. -/
theorem Buf.back {P : Program} {w : World} {g : Nat} {T : TypeId} {l : List UInt8} (h : Buf w g T l) (src dst e : TypeId) (cap n : Nat) (hn : n = l.length) (hs : P.underlying src = some (.slice e)) (he : P.underlying e = some (.int .u8)) (hd : P.underlying dst = some .string) :
    (convert src dst (.slice (some ⟨g, 0, none⟩) n cap)).run P w = .ok (.string ⟨l.toArray⟩) w := by
  subst hn
  refine run_convert_bytes_back w src dst e ⟨g, 0, none⟩ cap l hs he hd fun j hj => ?_
  have hadd : (⟨g, 0, none⟩ : Addr).add j = ⟨g, j, none⟩ := by unfold Addr.add; split <;> simp_all
  rw [hadd, h.cell j hj]
  simp [bv, List.getD, hj]

/-- '[]byte(s)'. -/
theorem conv_bytes {P : Program} (w : World) (src dst e : TypeId) (s : ByteArray) (hs : P.underlying src = some .string) (hd : P.underlying dst = some (.slice e)) (he : P.underlying e = some (.int .u8)) :
    ∃ W cap, (convert src dst (.string s)).run P w = .ok (.slice (some ⟨w.heap.size, 0, none⟩) s.size cap) W ∧ Buf W w.heap.size e s.data.toList ∧ Below w.heap.size w W ∧ W.heap.size = w.heap.size + 1 := by
  refine ⟨_, _, run_bytes_of_string w src dst e s hs hd he, ?_, ((Below.refl _ _).drew).alloc (Nat.le_refl _) _, by simp⟩
  refine ⟨_, _, _, heap_alloc_new _ _, ?_, ?_⟩
  · left
    simp [bytesRow]
  · intro j hj
    rw [bytesRow_at _ _ _ (by simpa using hj)]
    have hj' : j < s.data.size := by simpa using hj
    simp [bv, List.getD]
    rw [Array.getElem?_eq_getElem hj']
    rfl
end Go.Proofs.YtgebkpnieailbaaDoor
