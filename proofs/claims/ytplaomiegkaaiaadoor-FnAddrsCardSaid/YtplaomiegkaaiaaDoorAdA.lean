/-
  A slice at which addresses lie.
-/
import Derived.Test.YtplaomiegkaaiaaDoorAdL
import Derived.Test.YtplaomiegkaaiaaDoorRowG
namespace Go.Proofs.YtplaomiegkaaiaaDoor
set_option linter.unusedVariables false
open Go.RowKit

/-- A slice at which addresses lie. -/
def AdsAt (w : World) (v : Value) (l : List Ad) : Prop :=
  (l = [] ∧ ∃ p cap, v = .slice p 0 cap) ∨ ∃ g off cap, v = .slice (some ⟨g, off, none⟩) l.length cap ∧ g < w.heap.size ∧ ∀ k, (h : k < l.length) → w.cell? ⟨g, off + k * 3, none⟩ = some (.string (mkB l[k].name)) ∧ w.cell? ⟨g, off + k * 3 + 1, none⟩ = some (.string (mkB l[k].box)) ∧ w.cell? ⟨g, off + k * 3 + 2, none⟩ = some (.string (mkB l[k].host))
theorem ads_of_row {w : World} {B : Nat} {e : TypeId} {v : Value} {l : List Ad} (h : w.ownsRow B e 3 v l.length (adCells l)) : AdsAt w v l := by
  have h2 := h
  rcases h with ⟨h1, ⟨rfl, h0⟩ | ⟨g, cap, cur, rfl, hr⟩⟩
  · exact .inl ⟨List.eq_nil_of_length_eq_zero h0, _, _, rfl⟩
  · refine .inr ⟨g, 0, cap, rfl, (h2.lt g rfl).2, fun k hk => ?_⟩
    rw [Nat.zero_add, h2.cellAt (k * 3) (by omega), h2.cellAt (k * 3 + 1) (by omega), h2.cellAt (k * 3 + 2) (by omega)]
    exact adCells_at l k hk
theorem AdsAt.later {w w' : World} {v : Value} {l : List Ad} {B : Nat} (h : AdsAt w v l) (hb : Below B w w') (hB : w.heap.size ≤ B) : AdsAt w' v l := by
  rcases h with h | ⟨g, off, cap, h1, h2, h3⟩
  · exact .inl h
  · refine .inr ⟨g, off, cap, h1, Nat.lt_of_lt_of_le h2 hb.size, fun k hk => ?_⟩
    rw [hb.cell (p := ⟨g, off + k * 3, none⟩) (by show g < B; omega), hb.cell (p := ⟨g, off + k * 3 + 1, none⟩) (by show g < B; omega), hb.cell (p := ⟨g, off + k * 3 + 2, none⟩) (by show g < B; omega)]
    exact h3 k hk
theorem AdsAt.slice {w : World} {v : Value} {l : List Ad} (h : AdsAt w v l) : ∃ p cap, v = .slice p l.length cap := by
  rcases h with ⟨rfl, p, cap, rfl⟩ | ⟨g, off, cap, rfl, _⟩
  · exact ⟨p, cap, rfl⟩
  · exact ⟨_, cap, rfl⟩
theorem infoAd : (Tryd.prog.info? 29).map (fun i => (i.zero, i.size, i.bytes)) = some (some (.agg #[.string ⟨#[]⟩, .string ⟨#[]⟩, .string ⟨#[]⟩]), 3, 48) := by kernel_rfl
/-- The call hands back a slice that owns the addresses l; nothing that was there has turned. -/
def GivesAds (l : List Ad) (w : World) (e : Ending) (w' : World) : Prop :=
  ∃ v, e = .returned v ∧ w'.ownsRow w.heap.size 29 3 v l.length (adCells l) ∧ Below w.heap.size w w'
theorem cell_three_new (w : World) (a b c : Value) (T : TypeId) (g : Nat) (hg : g = w.heap.size) : ∀ j u, [a, b, c][j]? = some u → (w.alloc (.cells #[a, b, c] T)).cell? ((⟨g, 0, none⟩ : Addr).add j) = some u := by
  subst hg
  intro j u h
  have e : (⟨w.heap.size, 0, none⟩ : Addr).add j = ⟨w.heap.size, j, none⟩ := by unfold Addr.add; split <;> simp_all
  rw [e]
  match j, h with
  | 0, h => rw [← Option.some.inj h, World.cell?, heap_alloc_new]; rfl
  | 1, h => rw [← Option.some.inj h, World.cell?, heap_alloc_new]; rfl
  | 2, h => rw [← Option.some.inj h, World.cell?, heap_alloc_new]; rfl
  | j + 3, h => simp at h
end Go.Proofs.YtplaomiegkaaiaaDoor
