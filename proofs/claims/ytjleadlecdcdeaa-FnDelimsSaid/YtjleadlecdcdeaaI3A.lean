/-
  Slices of three ints: cells, and what marking leaves. Plain.
-/
import Derived.Test.YtjleadlecdcdeaaDlP
import Derived.Test.YtjleadlecdcdeaaRowG
import Derived.Test.YtjleadlecdcdeaaThree
namespace Go.Proofs.Ytjleadlecdcdeaa
set_option linter.unusedVariables false
open Go.RowKit

/-- A slice of n, at which these cells lie. -/
def CellsAt (w : World) (v : Value) (n : Nat) (xs : List Value) : Prop :=
  (n = 0 ∧ ∃ p cap, v = .slice p 0 cap) ∨ ∃ g off cap, v = .slice (some ⟨g, off, none⟩) n cap ∧ g < w.heap.size ∧ ∀ i, i < xs.length → w.cell? ⟨g, off + i, none⟩ = xs[i]?
theorem cellsAt_row {w : World} {B k n : Nat} {e : TypeId} {v : Value} {xs : List Value} (h : w.ownsRow B e k v n xs) : CellsAt w v n xs := by
  have h2 := h
  rcases h with ⟨h1, ⟨rfl, h0⟩ | ⟨g, cap, cur, rfl, hr⟩⟩
  · exact .inl ⟨h0, _, _, rfl⟩
  · refine .inr ⟨g, 0, cap, rfl, (h2.lt g rfl).2, fun i hi => ?_⟩
    rw [Nat.zero_add, h2.cellAt i (by omega)]
theorem CellsAt.later {w w' : World} {v : Value} {n : Nat} {xs : List Value} {B : Nat} (h : CellsAt w v n xs) (hb : Below B w w') (hB : w.heap.size ≤ B) : CellsAt w' v n xs := by
  rcases h with h | ⟨g, off, cap, h1, h2, h3⟩
  · exact .inl h
  · refine .inr ⟨g, off, cap, h1, Nat.lt_of_lt_of_le h2 hb.size, fun i hi => ?_⟩
    rw [hb.cell (p := ⟨g, off + i, none⟩) (by show g < B; omega)]
    exact h3 i hi
theorem CellsAt.slice {w : World} {v : Value} {n : Nat} {xs : List Value} (h : CellsAt w v n xs) : ∃ p cap, v = .slice p n cap := by
  rcases h with ⟨rfl, p, cap, rfl⟩ | ⟨g, off, cap, rfl, _⟩
  · exact ⟨p, cap, rfl⟩
  · exact ⟨_, cap, rfl⟩
/-- Whole numbers in cells. -/
def iCells (l : List Int) : List Value := l.map (Value.int .i64)
def i3 (l : List Dl) : List Int := l.flatMap fun d => [(d.at' : Int), (d.fin : Int), (d.last : Int)]
theorem i3_cells (l : List Dl) : dlCells l = iCells (i3 l) := by
  induction l with
  | nil => rfl
  | cons a r ih =>
    have e1 : dlCells (a :: r) = [.int .i64 (a.at' : Int), .int .i64 (a.fin : Int), .int .i64 (a.last : Int)] ++ dlCells r := rfl
    have e2 : iCells (i3 (a :: r)) = [.int .i64 (a.at' : Int), .int .i64 (a.fin : Int), .int .i64 (a.last : Int)] ++ iCells (i3 r) := by simp [iCells, i3]
    rw [e1, e2, ih]
theorem i3_len (l : List Dl) : (i3 l).length = l.length * 3 := by
  have := dlCells_len l
  rw [i3_cells] at this
  simpa [iCells] using this
theorem iCells_at (l : List Int) (i : Nat) (h : i < l.length) : (iCells l)[i]? = some (.int .i64 l[i]) := by
  unfold iCells
  rw [List.getElem?_map, List.getElem?_eq_getElem h]
  rfl
/-- The marks. -/
def iMarks (k : Nat) : Nat → List Int
  | 0 => []
  | n + 1 => (k : Int) :: iMarks (k + 1) n
theorem iMarks_len : ∀ (n k : Nat), (iMarks k n).length = n
  | 0, _ => rfl
  | n + 1, k => by simp [iMarks, iMarks_len n]
theorem iMarks_snoc : ∀ (n k : Nat), iMarks k (n + 1) = iMarks k n ++ [((k + n : Nat) : Int)]
  | 0, k => rfl
  | n + 1, k => by
    rw [iMarks, iMarks_snoc n (k + 1), iMarks, List.cons_append, show k + 1 + n = k + (n + 1) by omega]
theorem iMarks_at : ∀ (n k j : Nat) (h : j < n), (iMarks k n)[j]? = some ((k + j : Nat) : Int)
  | 0, _, _, h => by omega
  | n + 1, k, 0, _ => rfl
  | n + 1, k, j + 1, h => by
    rw [iMarks, List.getElem?_cons_succ, iMarks_at n (k + 1) j (by omega), show k + 1 + j = k + (j + 1) by omega]
/-- The first c cells marked. -/
def iMarked (xs : List Value) (k c : Nat) : List Value := iCells (iMarks k c) ++ xs.drop c
theorem iMarked_len (xs : List Value) (k c : Nat) (h : c ≤ xs.length) : (iMarked xs k c).length = xs.length := by
  simp [iMarked, iCells, iMarks_len]; omega
theorem iMarked_set (xs : List Value) (k c : Nat) (h : c < xs.length) : (iMarked xs k c).set c (.int .i64 ((k + c : Nat) : Int)) = iMarked xs k (c + 1) := by
  have hl : (iCells (iMarks k c)).length = c := by simp [iCells, iMarks_len]
  unfold iMarked
  rw [iMarks_snoc, List.drop_eq_getElem_cons h, List.set_append_right _ _ (by omega), hl, Nat.sub_self, List.set_cons_zero]
  simp [iCells]
end Go.Proofs.Ytjleadlecdcdeaa
