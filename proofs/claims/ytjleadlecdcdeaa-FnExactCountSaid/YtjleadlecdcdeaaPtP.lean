/-
  Parts: located trees (a part, with the slices that its cells hold), plain.
-/
import Derived.Test.YtjleadlecdcdeaaKdA
namespace Go.Proofs.Ytjleadlecdcdeaa
set_option linter.unusedVariables false
open Go.RowKit

/-- A part. -/
inductive Pt where
  | mk (kind : Kd) (head body fin : Int) (kids : List Pt)
/-- A part as it lies: pv holds its parameters, kv its kids. -/
inductive Lt where
  | mk (kind : Kd) (pv : Value) (head body fin : Int) (kv : Value) (kids : List Lt)
def Lt.kind : Lt → Kd | .mk k _ _ _ _ _ _ => k
def Lt.pv : Lt → Value | .mk _ p _ _ _ _ _ => p
def Lt.head : Lt → Int | .mk _ _ h _ _ _ _ => h
def Lt.body : Lt → Int | .mk _ _ _ b _ _ _ => b
def Lt.fin : Lt → Int | .mk _ _ _ _ e _ _ => e
def Lt.kv : Lt → Value | .mk _ _ _ _ _ q _ => q
def Lt.kids : Lt → List Lt | .mk _ _ _ _ _ _ l => l
/-- The part that lies there. -/
def Lt.tree : Lt → Pt
  | .mk k _ h b e _ l => .mk k h b e (l.attach.map fun x => x.1.tree)
  decreasing_by have := List.sizeOf_lt_of_mem x.2; simp only [Lt.mk.sizeOf_spec]; omega
theorem Lt.tree_eq (t : Lt) : t.tree = .mk t.kind t.head t.body t.fin (t.kids.map Lt.tree) := by
  cases t with
  | mk k p h b e q l => simp [Lt.tree, Lt.kind, Lt.head, Lt.body, Lt.fin, Lt.kids]
/-- Its cells. -/
def Lt.cells (t : Lt) : List Value := [.string (mkB t.kind.type), .string (mkB t.kind.sub), t.pv, .int .i64 t.head, .int .i64 t.body, .int .i64 t.fin, t.kv]
theorem Lt.cells_len (t : Lt) : t.cells.length = 7 := rfl
def ltCells (l : List Lt) : List Value := l.flatMap Lt.cells
theorem ltCells_len (l : List Lt) : (ltCells l).length = l.length * 7 := by
  induction l with
  | nil => rfl
  | cons a r ih => simp [ltCells, Lt.cells] at ih ⊢; omega
theorem ltCells_append (a b : List Lt) : ltCells (a ++ b) = ltCells a ++ ltCells b := by simp [ltCells]
theorem ltCells_at : ∀ (l : List Lt) (k : Nat) (h : k < l.length) (j : Nat), j < 7 → (ltCells l)[k * 7 + j]? = l[k].cells[j]?
  | [], k, h, _, _ => absurd h (by simp)
  | a :: r, 0, h, j, hj => by
    show (a.cells ++ ltCells r)[0 * 7 + j]? = a.cells[j]?
    rw [List.getElem?_append_left (by rw [Lt.cells_len]; omega)]
    simp
  | a :: r, k + 1, h, j, hj => by
    have := ltCells_at r k (by simpa using h) j hj
    show (a.cells ++ ltCells r)[(k + 1) * 7 + j]? = (r[k]'(by simpa using h)).cells[j]?
    rw [List.getElem?_append_right (by rw [Lt.cells_len]; omega), Lt.cells_len, show (k + 1) * 7 + j - 7 = k * 7 + j by omega]
    exact this
/-- How deep and how large it is, taken together. -/
def Lt.size : Lt → Nat
  | .mk _ _ _ _ _ _ l => 1 + (l.attach.map fun x => x.1.size).foldr (· + ·) 0
  decreasing_by have := List.sizeOf_lt_of_mem x.2; simp only [Lt.mk.sizeOf_spec]; omega
def sizesL (l : List Lt) : Nat := (l.map Lt.size).foldr (· + ·) 0
theorem Lt.size_eq (t : Lt) : t.size = 1 + sizesL t.kids := by
  cases t with
  | mk k p h b e q l => simp [Lt.size, sizesL, Lt.kids]
theorem sizesL_mem {l : List Lt} {t : Lt} (h : t ∈ l) : t.size ≤ sizesL l := by
  induction l with
  | nil => cases h
  | cons a r ih =>
    show t.size ≤ a.size + sizesL r
    rcases List.mem_cons.1 h with rfl | h
    · omega
    · have := ih h; omega
/-- The blocks in which it lies, but for its own cells. -/
def Lt.blocks : Lt → List Nat
  | .mk _ p _ _ _ q l => p.ownBlock.toList ++ (q.ownBlock.toList ++ (l.attach.map fun x => x.1.blocks).flatten)
  decreasing_by have := List.sizeOf_lt_of_mem x.2; simp only [Lt.mk.sizeOf_spec]; omega
def blocksL (l : List Lt) : List Nat := (l.map Lt.blocks).flatten
theorem Lt.blocks_eq (t : Lt) : t.blocks = t.pv.ownBlock.toList ++ (t.kv.ownBlock.toList ++ blocksL t.kids) := by
  cases t with
  | mk k p h b e q l => simp [Lt.blocks, blocksL, Lt.pv, Lt.kv, Lt.kids]
theorem blocksL_cons (a : Lt) (l : List Lt) : blocksL (a :: l) = a.blocks ++ blocksL l := rfl
theorem blocksL_append (a b : List Lt) : blocksL (a ++ b) = blocksL a ++ blocksL b := by simp [blocksL]
theorem blocksL_mem {l : List Lt} {t : Lt} (h : t ∈ l) : ∀ j ∈ t.blocks, j ∈ blocksL l := fun j hj => by
  unfold blocksL
  rw [List.mem_flatten]
  exact ⟨_, List.mem_map_of_mem h, hj⟩
end Go.Proofs.Ytjleadlecdcdeaa
