/-
  What an append to a row of the call's own leaves.
-/
import Derived.Test.YtgebkpnieailbaaDoorRow
namespace Go.Proofs.YtgebkpnieailbaaDoor
set_option linter.unusedVariables false
open Go.RowKit

theorem row_not {w : World} {B k n : Nat} {e : TypeId} {v : Value} {xs : List Value} (h : w.ownsRow B e k v n xs) {j : Nat} {cs : Array Value} {T : TypeId} {fr : Nat × Nat} (hj : w.heap[j]? = some (.cells cs T fr)) (ht : T ≠ e) : some j ≠ v.ownBlock := by
  intro e'
  rcases h.2 with ⟨rfl, _⟩ | ⟨g, cap, cur, rfl, _, hgb, _⟩
  · simp [Value.ownBlock] at e'
  · have : g = j := by simpa [Value.ownBlock] using e'.symm
    subst this; rw [hj] at hgb; cases hgb; exact ht rfl
theorem heap_lt {w : World} {j : Nat} {o : Obj} (h : w.heap[j]? = some o) : j < w.heap.size := (Array.getElem?_eq_some_iff.1 h).1
theorem two_kept {wa wb : World} {B k n : Nat} {e : TypeId} {v : Value} {xs : List Value} {j : Nat} {cs : Array Value} {T : TypeId} (h : wa.ownsRow B e k v n xs) (hg : wa.grownBy wb v.ownBlock) (hj : wa.heap[j]? = some (.cells cs T (0, 0))) (ht : T ≠ e) : wb.heap[j]? = some (.cells cs T (0, 0)) :=
  (hg.block _ (heap_lt hj) (row_not h hj ht)).trans hj
theorem app_below {w wa wb : World} {k n : Nat} {e : TypeId} {v : Value} {xs : List Value} (hb : Below w.heap.size w wa) (h : wa.ownsRow w.heap.size e k v n xs) (hg : wa.grownBy wb v.ownBlock) : Below w.heap.size w wb :=
  hb.grown hg hb.size (fun k e => (h.lt k e).1)
theorem alloc_new (w : World) (cs : Array Value) (T : TypeId) : (w.alloc (.cells cs T)).heap[w.heap.size]? = some (.cells cs T (0, 0)) := by
  show (w.heap.push _)[w.heap.size]? = some _
  simp
theorem cell_of_two {w : World} {j : Nat} {a b : Value} {T : TypeId} {fr : Nat × Nat} (h : w.heap[j]? = some (.cells #[a, b] T fr)) : w.cell? ⟨j, 0, none⟩ = some a ∧ w.cell? ⟨j, 1, none⟩ = some b := by
  constructor <;> simp [World.cell?, h]

end Go.Proofs.YtgebkpnieailbaaDoor
