/-
  A cell of three.
-/
import Derived.Test.YtjleadlecdcdeaaGrown
import Derived.Maps.AppendAt
namespace Go.Proofs.Ytjleadlecdcdeaa
set_option linter.unusedVariables false
open Go.RowKit

/-- A cell of three. -/
theorem new_three (w : World) (a b c : Value) (T : TypeId) : (w.alloc (.cells #[a, b, c] T)).heap[w.heap.size]? = some (.cells #[a, b, c] T (0, 0)) := by
  show (w.heap.push _)[w.heap.size]? = some _
  simp
theorem three_cells {W : World} {n : Nat} {T : TypeId} {a b c : Value} {fr : Nat × Nat} (h : W.heap[n]? = some (.cells #[a, b, c] T fr)) : W.cell? ⟨n, 0, none⟩ = some a ∧ W.cell? ⟨n, 1, none⟩ = some b ∧ W.cell? ⟨n, 2, none⟩ = some c := by
  refine ⟨?_, ?_, ?_⟩ <;> simp [World.cell?, h]
theorem three_free {W : World} {n : Nat} {T : TypeId} {a b c : Value} (h : W.heap[n]? = some (.cells #[a, b, c] T (0, 0))) : W.frozen? ⟨n, 0, none⟩ = false ∧ W.frozen? ⟨n, 1, none⟩ = false ∧ W.frozen? ⟨n, 2, none⟩ = false := by
  refine ⟨?_, ?_, ?_⟩ <;> simp [World.frozen?, h]
theorem set_three {W : World} {n : Nat} {T : TypeId} {a b c : Value} (h : W.heap[n]? = some (.cells #[a, b, c] T (0, 0))) (A B C : Value) :
    (((W.setCell ⟨n, 0, none⟩ A).setCell ⟨n, 1, none⟩ B).setCell ⟨n, 2, none⟩ C).heap[n]? = some (.cells #[A, B, C] T (0, 0)) := by
  have h1 := heap_setCell_same W n 0 #[a, b, c] T A h
  have h2 := heap_setCell_same _ n 1 _ T B h1
  have h3 := heap_setCell_same _ n 2 _ T C h2
  simpa using h3
theorem below_three {w W : World} {n B : Nat} (h : Below B w W) (hn : B ≤ n) (a b c : Value) : Below B w (((W.setCell ⟨n, 0, none⟩ a).setCell ⟨n, 1, none⟩ b).setCell ⟨n, 2, none⟩ c) :=
  ((h.setCell (p := ⟨n, 0, none⟩) hn _).setCell (p := ⟨n, 1, none⟩) hn _).setCell (p := ⟨n, 2, none⟩) hn _
theorem cell_three_new (w : World) (a b c : Value) (T : TypeId) (g : Nat) (hg : g = w.heap.size) : ∀ j u, [a, b, c][j]? = some u → (w.alloc (.cells #[a, b, c] T)).cell? ((⟨g, 0, none⟩ : Addr).add j) = some u := by
  subst hg
  intro j u h
  have e : (⟨w.heap.size, 0, none⟩ : Addr).add j = ⟨w.heap.size, j, none⟩ := by unfold Addr.add; split <;> simp_all
  rw [e]
  match j, h with
  | 0, h => rw [← Option.some.inj h, World.cell?, heap_alloc_new]; rfl
  | 1, h => rw [← Option.some.inj h, World.cell?, heap_alloc_new]; rfl
  | 2, h => rw [← Option.some.inj h, World.cell?, heap_alloc_new]; rfl
  | j + 3, h => simp at h
end Go.Proofs.Ytjleadlecdcdeaa
