/-
  A slice at which fields lie.
-/
import Derived.Test.YtfgfbdfijpecfaaFlP
namespace Go.Proofs.Ytfgfbdfijpecfaa
set_option linter.unusedVariables false
open Go.RowKit

theorem flCells_at : ∀ (l : List Fl) (k : Nat) (h : k < l.length), (flCells l)[k * 2]? = some (.string (mkB l[k].name)) ∧ (flCells l)[k * 2 + 1]? = some (.string (mkB l[k].body))
  | [], k, h => absurd h (by simp)
  | a :: r, 0, h => ⟨rfl, rfl⟩
  | a :: r, k + 1, h => by
    have := flCells_at r k (by simpa using h)
    rw [show (k + 1) * 2 = k * 2 + 1 + 1 by omega, show flCells (a :: r) = .string (mkB a.name) :: .string (mkB a.body) :: flCells r from rfl]
    simpa using this
/-- A slice at which fields lie. -/
def FlsAt (w : World) (v : Value) (l : List Fl) : Prop :=
  (l = [] ∧ ∃ p cap, v = .slice p 0 cap) ∨ ∃ g off cap, v = .slice (some ⟨g, off, none⟩) l.length cap ∧ g < w.heap.size ∧ ∀ k, (h : k < l.length) → w.cell? ⟨g, off + k * 2, none⟩ = some (.string (mkB l[k].name)) ∧ w.cell? ⟨g, off + k * 2 + 1, none⟩ = some (.string (mkB l[k].body))
theorem fls_of_row {w : World} {B : Nat} {e : TypeId} {v : Value} {l : List Fl} (h : w.ownsRow B e 2 v l.length (flCells l)) : FlsAt w v l := by
  have h2 := h
  rcases h with ⟨h1, ⟨rfl, h0⟩ | ⟨g, cap, cur, rfl, hr⟩⟩
  · exact .inl ⟨List.eq_nil_of_length_eq_zero h0, _, _, rfl⟩
  · refine .inr ⟨g, 0, cap, rfl, (h2.lt g rfl).2, fun k hk => ?_⟩
    rw [Nat.zero_add, h2.cellAt (k * 2) (by omega), h2.cellAt (k * 2 + 1) (by omega)]
    exact flCells_at l k hk
theorem FlsAt.later {w w' : World} {v : Value} {l : List Fl} {B : Nat} (h : FlsAt w v l) (hb : Below B w w') (hB : w.heap.size ≤ B) : FlsAt w' v l := by
  rcases h with h | ⟨g, off, cap, h1, h2, h3⟩
  · exact .inl h
  · refine .inr ⟨g, off, cap, h1, Nat.lt_of_lt_of_le h2 hb.size, fun k hk => ?_⟩
    rw [hb.cell (p := ⟨g, off + k * 2, none⟩) (by show g < B; omega), hb.cell (p := ⟨g, off + k * 2 + 1, none⟩) (by show g < B; omega)]
    exact h3 k hk
theorem FlsAt.slice {w : World} {v : Value} {l : List Fl} (h : FlsAt w v l) : ∃ p cap, v = .slice p l.length cap := by
  rcases h with ⟨rfl, p, cap, rfl⟩ | ⟨g, off, cap, rfl, _⟩
  · exact ⟨p, cap, rfl⟩
  · exact ⟨_, cap, rfl⟩
end Go.Proofs.Ytfgfbdfijpecfaa
