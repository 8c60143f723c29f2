/-
  Parts: as values, in cells of seven; sizes of lists. Plain.
-/
import Derived.Test.YtjleadlecdcdeaaPtW
namespace Go.Proofs.Ytjleadlecdcdeaa
set_option linter.unusedVariables false
open Go.RowKit

/-- The part as a value. -/
def ptV (t : Lt) : Value := .agg #[.string (mkB t.kind.type), .string (mkB t.kind.sub), t.pv, .int .i64 t.head, .int .i64 t.body, .int .i64 t.fin, t.kv]
theorem sizesL_snoc (l : List Lt) (k : Nat) (h : k < l.length) : sizesL (l.take (k + 1)) = sizesL (l.take k) + (l[k]).size := by
  induction l generalizing k with
  | nil => exact absurd h (by simp)
  | cons a r ih =>
    cases k with
    | zero => show a.size + sizesL (r.take 0) = 0 + a.size; simp [sizesL]
    | succ k =>
      have := ih k (by simpa using h)
      show a.size + sizesL (r.take (k + 1)) = (a.size + sizesL (r.take k)) + (r[k]'(by simpa using h)).size
      omega
theorem sizesL_le (l : List Lt) (k : Nat) : sizesL (l.take k) ≤ sizesL l := by
  induction l generalizing k with
  | nil => simp [sizesL]
  | cons a r ih =>
    cases k with
    | zero => simp [sizesL]
    | succ k =>
      have := ih k
      show a.size + sizesL (r.take k) ≤ a.size + sizesL r
      omega
theorem sizesL_len (l : List Lt) : l.length ≤ sizesL l := by
  induction l with
  | nil => simp [sizesL]
  | cons a r ih =>
    have h : 1 ≤ a.size := by rw [a.size_eq]; omega
    show r.length + 1 ≤ a.size + sizesL r
    omega
theorem seven_new (w : World) (a b c d e f g : Value) (T : TypeId) : (w.alloc (.cells #[a, b, c, d, e, f, g] T)).heap[w.heap.size]? = some (.cells #[a, b, c, d, e, f, g] T (0, 0)) := by
  show (w.heap.push _)[w.heap.size]? = some _
  simp
theorem seven_cells {W : World} {n : Nat} {T : TypeId} {a b c d e f g : Value} {fr : Nat × Nat} (h : W.heap[n]? = some (.cells #[a, b, c, d, e, f, g] T fr)) :
    W.cell? ⟨n, 0, none⟩ = some a ∧ W.cell? ⟨n, 1, none⟩ = some b ∧ W.cell? ⟨n, 2, none⟩ = some c ∧ W.cell? ⟨n, 3, none⟩ = some d ∧ W.cell? ⟨n, 4, none⟩ = some e ∧ W.cell? ⟨n, 5, none⟩ = some f ∧ W.cell? ⟨n, 6, none⟩ = some g := by
  refine ⟨?_, ?_, ?_, ?_, ?_, ?_, ?_⟩ <;> simp [World.cell?, h]
/-- The cells of a kid. -/
theorem kid_cells {w : World} {g off : Nat} {l : List Lt} (h : ∀ k, (hk : k < l.length) → ∀ j, j < 7 → w.cell? ⟨g, off + (k * 7 + j), none⟩ = (l[k]'hk).cells[j]?) (k : Nat) (hk : k < l.length) :
    w.cell? ⟨g, off + k * 7, none⟩ = some (.string (mkB (l[k]).kind.type)) ∧ w.cell? ⟨g, off + k * 7 + 1, none⟩ = some (.string (mkB (l[k]).kind.sub)) ∧ w.cell? ⟨g, off + k * 7 + 2, none⟩ = some (l[k]).pv ∧ w.cell? ⟨g, off + k * 7 + 3, none⟩ = some (.int .i64 (l[k]).head) ∧ w.cell? ⟨g, off + k * 7 + 4, none⟩ = some (.int .i64 (l[k]).body) ∧ w.cell? ⟨g, off + k * 7 + 5, none⟩ = some (.int .i64 (l[k]).fin) ∧ w.cell? ⟨g, off + k * 7 + 6, none⟩ = some (l[k]).kv := by
  have f := h k hk
  refine ⟨?_, ?_, ?_, ?_, ?_, ?_, ?_⟩
  · have := f 0 (by omega); simpa [Lt.cells] using this
  · have := f 1 (by omega); simpa [Lt.cells, Nat.add_assoc] using this
  · have := f 2 (by omega); simpa [Lt.cells, Nat.add_assoc] using this
  · have := f 3 (by omega); simpa [Lt.cells, Nat.add_assoc] using this
  · have := f 4 (by omega); simpa [Lt.cells, Nat.add_assoc] using this
  · have := f 5 (by omega); simpa [Lt.cells, Nat.add_assoc] using this
  · have := f 6 (by omega); simpa [Lt.cells, Nat.add_assoc] using this

end Go.Proofs.Ytjleadlecdcdeaa
