/-
  Slices of values: what a walk reads of one; a world that has drawn at most.
-/
import Derived.Test.YtgebkpnieailbaaDoorRows
import Derived.WalkKit
import Derived.WalkSpells
import Derived.Lib.Hide
import Derived.Lib.Strings
import Derived.Deep.QuietTactic
import Derived.BigQuiet
namespace Go.Proofs.YtgebkpnieailbaaDoor
set_option linter.unusedVariables false
open Go.RowKit

/-- v is a slice of the values xs, whose cells may be read and written. -/
def ValsAt (w : World) (v : Value) (xs : List Value) : Prop :=
  (xs = [] ∧ ∃ p cap, v = .slice p 0 cap) ∨
  ∃ g cap, v = .slice (some ⟨g, 0, none⟩) xs.length cap ∧ g < w.heap.size ∧ ∀ j, j < xs.length → w.cell? ⟨g, j, none⟩ = xs[j]? ∧ w.frozen? ⟨g, j, none⟩ = false

theorem valsAt_of_row {w : World} {B : Nat} {e : TypeId} {v : Value} {n : Nat} {xs : List Value} (h : w.ownsRow B e 1 v n xs) : ValsAt w v xs := by
  obtain ⟨hl, h⟩ := h
  rw [Nat.mul_one] at hl
  rcases h with ⟨rfl, rfl⟩ | ⟨g, cap, cur, rfl, _, hg, hn, _, hc, ht⟩
  · exact .inl ⟨List.eq_nil_of_length_eq_zero hl, _, _, rfl⟩
  · refine .inr ⟨g, cap, by rw [hl], (Array.getElem?_eq_some_iff.1 hg).1, fun j hj => ⟨?_, ?_⟩⟩
    · simp only [World.cell?, hg]
      rw [← ht]
      simp [List.getElem?_take]
      intro h1; omega
    · simp [World.frozen?, hg]
theorem ValsAt.of_heap {w w' : World} {v : Value} {xs : List Value} (h : ValsAt w v xs) (e : w'.heap = w.heap) : ValsAt w' v xs := by
  rcases h with h | ⟨g, cap, h1, h2, h3⟩
  · exact .inl h
  · exact .inr ⟨g, cap, h1, by rw [e]; exact h2, fun j hj => by
      have := h3 j hj
      simp only [World.cell?, World.frozen?, e] at this ⊢
      exact this⟩

/-- The world has drawn at most. -/
def Quietly (w w' : World) : Prop := w'.heap = w.heap ∧ Below w.heap.size w w'
theorem Quietly.refl (w : World) : Quietly w w := ⟨rfl, Below.refl _ _⟩
theorem Quietly.drewN {w wr : World} (h : Quietly w wr) (n : Nat) : Quietly w (wr.drewN n) := by
  obtain ⟨h1, h2⟩ := h
  exact ⟨h1, ⟨h2.os, h2.tape, h2.output, h2.size, h2.block⟩⟩

theorem str_ne {x y : ByteArray} (h : x ≠ y) : (x.toList == y.toList) = false := by
  rw [beq_eq_false_iff_ne, Lib.toList_data, Lib.toList_data]
  intro e; apply h
  exact ByteArray.ext (Array.ext' e)
theorem ValsAt.later {w w' : World} {v : Value} {xs : List Value} (h : ValsAt w v xs) (hb : Below w.heap.size w w') : ValsAt w' v xs := by
  rcases h with h | ⟨g, cap, h1, h2, h3⟩
  · exact .inl h
  · refine .inr ⟨g, cap, h1, Nat.lt_of_lt_of_le h2 hb.size, fun j hj => ?_⟩
    have := h3 j hj
    simp only [World.cell?, World.frozen?, hb.block g h2] at this ⊢
    exact this
end Go.Proofs.YtgebkpnieailbaaDoor
