/-
  Parts as they lie in memory.
-/
import Derived.Test.YtjleadlecdcdeaaPtP
namespace Go.Proofs.Ytjleadlecdcdeaa
set_option linter.unusedVariables false
open Go.RowKit

theorem infoPt : (Try.prog.info? 29).map (fun i => (i.size, i.bytes)) = some (7, 104) := by kernel_rfl
/-- A slice at which parts lie (their cells alone). -/
def LtsAt (w : World) (v : Value) (l : List Lt) : Prop :=
  (l = [] ∧ ∃ p cap, v = .slice p 0 cap) ∨ ∃ g off cap, v = .slice (some ⟨g, off, none⟩) l.length cap ∧ g < w.heap.size ∧ ∀ k, (h : k < l.length) → ∀ j, j < 7 → w.cell? ⟨g, off + (k * 7 + j), none⟩ = l[k].cells[j]?
theorem lts_of_row {w : World} {B : Nat} {e : TypeId} {v : Value} {l : List Lt} (h : w.ownsRow B e 7 v l.length (ltCells l)) : LtsAt w v l := by
  have h2 := h
  rcases h with ⟨h1, ⟨rfl, h0⟩ | ⟨g, cap, cur, rfl, hr⟩⟩
  · exact .inl ⟨List.eq_nil_of_length_eq_zero h0, _, _, rfl⟩
  · refine .inr ⟨g, 0, cap, rfl, (h2.lt g rfl).2, fun k hk j hj => ?_⟩
    rw [Nat.zero_add, h2.cellAt (k * 7 + j) (by omega)]
    exact ltCells_at l k hk j hj
theorem LtsAt.later {w w' : World} {v : Value} {l : List Lt} {B : Nat} (h : LtsAt w v l) (hb : Below B w w') (hB : w.heap.size ≤ B) : LtsAt w' v l := by
  rcases h with h | ⟨g, off, cap, h1, h2, h3⟩
  · exact .inl h
  · refine .inr ⟨g, off, cap, h1, Nat.lt_of_lt_of_le h2 hb.size, fun k hk j hj => ?_⟩
    rw [hb.cell (p := ⟨g, off + (k * 7 + j), none⟩) (by show g < B; omega)]
    exact h3 k hk j hj
theorem LtsAt.slice {w : World} {v : Value} {l : List Lt} (h : LtsAt w v l) : ∃ p cap, v = .slice p l.length cap := by
  rcases h with ⟨rfl, p, cap, rfl⟩ | ⟨g, off, cap, rfl, _⟩
  · exact ⟨p, cap, rfl⟩
  · exact ⟨_, cap, rfl⟩

/-- A part can be read: its parameters and its kids lie where its slices say, and so do theirs. -/
def Lies (w : World) : Nat → Lt → Prop
  | 0, t => False
  | n + 1, t => (t.kind.params.length ≤ 1048577 ∧ t.kids.length ≤ 1048577) ∧ PrsAt w t.pv t.kind.params ∧ LtsAt w t.kv t.kids ∧ ∀ x ∈ t.kids, Lies w n x
theorem Lies.later {w w' : World} {B : Nat} (hb : Below B w w') (hB : w.heap.size ≤ B) : ∀ (n : Nat) (t : Lt), Lies w n t → Lies w' n t
  | 0, t, h => h
  | n + 1, t, h => ⟨h.1, h.2.1.later hb hB, h.2.2.1.later hb hB, fun x hx => Lies.later hb hB n x (h.2.2.2 x hx)⟩
/-- A part of the call's own: its slices own their rows, and so do its kids'. -/
def Holds (w : World) (B : Nat) : Nat → Lt → Prop
  | 0, t => False
  | n + 1, t => (t.kind.params.length ≤ 1048577 ∧ t.kids.length ≤ 1048577) ∧ w.ownsRow B 88 2 t.pv t.kind.params.length (prCells t.kind.params) ∧ w.ownsRow B 29 7 t.kv t.kids.length (ltCells t.kids) ∧ ∀ x ∈ t.kids, Holds w B n x
theorem Holds.lies {w : World} {B : Nat} : ∀ (n : Nat) (t : Lt), Holds w B n t → Lies w n t
  | 0, t, h => h
  | n + 1, t, h => ⟨h.1, prs_of_row h.2.1, lts_of_row h.2.2.1, fun x hx => Holds.lies n x (h.2.2.2 x hx)⟩
theorem own_in {v : Value} {g : Nat} (h : v.ownBlock = some g) : g ∈ v.ownBlock.toList := by rw [h]; simp
theorem row_blocks {w w' : World} {B k n : Nat} {e : TypeId} {v : Value} {xs : List Value} (h : w.ownsRow B e k v n xs) (hk : ∀ j ∈ v.ownBlock.toList, w'.heap[j]? = w.heap[j]?) : w'.ownsRow B e k v n xs := by
  obtain ⟨a, b⟩ := h
  refine ⟨a, b.imp id ?_⟩
  rintro ⟨g, cap, cur, rfl, hb, hg, r⟩
  exact ⟨g, cap, cur, rfl, hb, (hk g (own_in rfl)).trans hg, r⟩
/-- What it holds, it holds where its blocks are as they were. -/
theorem Holds.kept {w w' : World} {B : Nat} : ∀ (n : Nat) (t : Lt), Holds w B n t → (∀ j ∈ t.blocks, w'.heap[j]? = w.heap[j]?) → Holds w' B n t
  | 0, t, h, _ => h
  | n + 1, t, h, hk => by
    rw [Lt.blocks_eq] at hk
    refine ⟨h.1, row_blocks h.2.1 (fun j hj => hk j (by simp [hj])), row_blocks h.2.2.1 (fun j hj => hk j (by simp [hj])), fun x hx => Holds.kept n x (h.2.2.2 x hx) (fun j hj => hk j ?_)⟩
    have := blocksL_mem hx j hj
    simp [this]
theorem Holds.base {w : World} {B B' : Nat} (hB : B' ≤ B) : ∀ (n : Nat) (t : Lt), Holds w B n t → Holds w B' n t
  | 0, t, h => h
  | n + 1, t, h => ⟨h.1, row_baseL h.2.1 hB, row_baseL h.2.2.1 hB, fun x hx => Holds.base hB n x (h.2.2.2 x hx)⟩
theorem Holds.up {w : World} {B : Nat} : ∀ (n m : Nat) (t : Lt), n ≤ m → Holds w B n t → Holds w B m t
  | 0, m, t, _, h => h.elim
  | n + 1, m, t, hm, h => by
    obtain ⟨m', rfl⟩ : ∃ m', m = m' + 1 := ⟨m - 1, by omega⟩
    exact ⟨h.1, h.2.1, h.2.2.1, fun x hx => Holds.up n m' x (by omega) (h.2.2.2 x hx)⟩
theorem Holds.lt {w : World} {B : Nat} : ∀ (n : Nat) (t : Lt), Holds w B n t → ∀ j ∈ t.blocks, B ≤ j ∧ j < w.heap.size
  | 0, t, h => h.elim
  | n + 1, t, h => fun j hj => by
    rw [Lt.blocks_eq] at hj
    simp only [List.mem_append, Option.mem_toList] at hj
    rcases hj with hj | hj | hj
    · exact h.2.1.lt j hj
    · exact h.2.2.1.lt j hj
    · unfold blocksL at hj
      rw [List.mem_flatten] at hj
      obtain ⟨bs, hbs, hj⟩ := hj
      obtain ⟨x, hx, rfl⟩ := List.mem_map.1 hbs
      exact Holds.lt n x (h.2.2.2 x hx) j hj
end Go.Proofs.Ytjleadlecdcdeaa
