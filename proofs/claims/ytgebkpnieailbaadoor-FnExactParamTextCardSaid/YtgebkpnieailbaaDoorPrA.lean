/-
  Param: the record, and a slice at which such lie.
-/
import Derived.Test.YtgebkpnieailbaaDoorMkB
import Derived.Test.YtgebkpnieailbaaDoorRowG
namespace Go.Proofs.YtgebkpnieailbaaDoor
set_option linter.unusedVariables false
open Go.RowKit

structure Pr where
  name : List UInt8
  value : List UInt8
def prCells (l : List Pr) : List Value := l.flatMap fun x => [.string (mkB x.name), .string (mkB x.value)]
theorem prCells_len (l : List Pr) : (prCells l).length = l.length * 2 := by
  induction l with
  | nil => rfl
  | cons a r ih => simp [prCells] at ih ⊢; omega
theorem prCells_append (a b : List Pr) : prCells (a ++ b) = prCells a ++ prCells b := by simp [prCells]
theorem prCells_one (l : List Pr) : ∀ u ∈ prCells l, u.oneCell' = true := by
  intro u hu
  obtain ⟨x, hx, hy⟩ := List.mem_flatMap.1 hu
  simp only [List.mem_cons, List.not_mem_nil, or_false] at hy
  rcases hy with rfl | rfl <;> rfl
theorem prCells_at : ∀ (l : List Pr) (k : Nat) (h : k < l.length), (prCells l)[k * 2]? = some (.string (mkB l[k].name)) ∧ (prCells l)[k * 2 + 1]? = some (.string (mkB l[k].value))
  | [], k, h => absurd h (by simp)
  | a :: r, 0, h => ⟨rfl, rfl⟩
  | a :: r, k + 1, h => by
    have := prCells_at r k (by simpa using h)
    rw [show (k + 1) * 2 = k * 2 + 1 + 1 by omega, show prCells (a :: r) = .string (mkB a.name) :: .string (mkB a.value) :: prCells r from rfl]
    simpa using this
/-- A slice at which such lie. -/
def PrsAt (w : World) (v : Value) (l : List Pr) : Prop :=
  (l = [] ∧ ∃ p cap, v = .slice p 0 cap) ∨ ∃ g off cap, v = .slice (some ⟨g, off, none⟩) l.length cap ∧ g < w.heap.size ∧ ∀ k, (h : k < l.length) → w.cell? ⟨g, off + k * 2, none⟩ = some (.string (mkB l[k].name)) ∧ w.cell? ⟨g, off + k * 2 + 1, none⟩ = some (.string (mkB l[k].value))
theorem prs_of_row {w : World} {B : Nat} {e : TypeId} {v : Value} {l : List Pr} (h : w.ownsRow B e 2 v l.length (prCells l)) : PrsAt w v l := by
  have h2 := h
  rcases h with ⟨h1, ⟨rfl, h0⟩ | ⟨g, cap, cur, rfl, hr⟩⟩
  · exact .inl ⟨List.eq_nil_of_length_eq_zero h0, _, _, rfl⟩
  · refine .inr ⟨g, 0, cap, rfl, (h2.lt g rfl).2, fun k hk => ?_⟩
    rw [Nat.zero_add, h2.cellAt (k * 2) (by omega), h2.cellAt (k * 2 + 1) (by omega)]
    exact prCells_at l k hk
theorem PrsAt.later {w w' : World} {v : Value} {l : List Pr} {B : Nat} (h : PrsAt w v l) (hb : Below B w w') (hB : w.heap.size ≤ B) : PrsAt w' v l := by
  rcases h with h | ⟨g, off, cap, h1, h2, h3⟩
  · exact .inl h
  · refine .inr ⟨g, off, cap, h1, Nat.lt_of_lt_of_le h2 hb.size, fun k hk => ?_⟩
    rw [hb.cell (p := ⟨g, off + k * 2, none⟩) (by show g < B; omega), hb.cell (p := ⟨g, off + k * 2 + 1, none⟩) (by show g < B; omega)]
    exact h3 k hk
theorem PrsAt.slice {w : World} {v : Value} {l : List Pr} (h : PrsAt w v l) : ∃ p cap, v = .slice p l.length cap := by
  rcases h with ⟨rfl, p, cap, rfl⟩ | ⟨g, off, cap, rfl, _⟩
  · exact ⟨p, cap, rfl⟩
  · exact ⟨_, cap, rfl⟩
theorem infoPr : (Tryd.prog.info? 33).map (fun i => (i.zero, i.size, i.bytes)) = some (some (.agg #[.string ⟨#[]⟩, .string ⟨#[]⟩]), 2, 32) := by kernel_rfl
/-- The call hands back a slice that owns such; nothing that was there has turned. -/
def GivesPrs (l : List Pr) (w : World) (e : Ending) (w' : World) : Prop :=
  ∃ v, e = .returned v ∧ w'.ownsRow w.heap.size 33 2 v l.length (prCells l) ∧ Below w.heap.size w w'
end Go.Proofs.YtgebkpnieailbaaDoor
