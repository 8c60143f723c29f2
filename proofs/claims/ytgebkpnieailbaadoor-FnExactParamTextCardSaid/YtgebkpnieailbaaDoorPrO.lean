/-
  A slice of Param that came in, opened.
-/
import Derived.Test.YtgebkpnieailbaaDoorPrA
import Derived.Test.YtgebkpnieailbaaDoorOpenS
import Derived.Deep.Slices
import Derived.Deep.SlicePairs
namespace Go.Proofs.YtgebkpnieailbaaDoor
set_option linter.unusedVariables false
open Go.RowKit Go.Deep

theorem addOffPr (g off j : Nat) : (⟨g, off, none⟩ : Addr).add j = ⟨g, off + j, none⟩ := by unfold Addr.add; split <;> simp_all
/-- A slice of Param that came in. -/
def IsPrs (w : World) (a : Option Addr) (len cap : Nat) (l : List Pr) : Prop :=
  PrsAt w (.slice a len cap) l ∧ len = l.length ∧ len ≤ maxLen ∧ ∀ f ∈ l, f.name.length ≤ maxLen ∧ f.value.length ≤ maxLen
set_option maxRecDepth 100000 in
theorem prs_open {H : Type} {enc : TypeId × Value → H} {w : World} {base : Nat} {spare : Nat → Bool} {held : Bool} {a : Option Addr} {len cap : Nat} {fuel : Nat} {x : DataW H × List MemPlace}
    (hf : DataW.trod enc Tryd.prog w base spare held fuel 22 [.slice a len cap] = some x) : ∃ l, IsPrs w a len cap l := by
  rcases open_slice Tryd.underlying22 hf with ⟨hcs, _⟩ | ⟨ad, l, c, m, n, D, Pl, hcs, hb, hl, hm, hmm, _, hx⟩
  · simp at hcs
    obtain ⟨rfl, rfl, rfl⟩ := hcs
    exact ⟨[], .inl ⟨rfl, _, _, rfl⟩, rfl, by unfold maxLen; omega, by simp⟩
  · simp at hcs
    obtain ⟨rfl, rfl, rfl⟩ := hcs
    have hlm : len ≤ m := by rw [hmm]; split <;> omega
    have each : ∀ i, i < len → ∃ f : Pr, (w.cell? ((ad.add (i * 2)).add 0) = some (.string (mkB f.name)) ∧ w.cell? ((ad.add (i * 2)).add 1) = some (.string (mkB f.value))) ∧ f.name.length ≤ maxLen ∧ f.value.length ≤ maxLen := fun i hi => by
      obtain ⟨cs', h1, h2⟩ := hx i (by omega)
      rw [show Tryd.prog.cellsOf 31 = 2 by kernel_rfl] at h1
      obtain ⟨_, hlen, hcell⟩ := World.cells?_some h1
      obtain ⟨u0, u1, rfl⟩ := two_of hlen
      obtain ⟨xs, k, _, _, _, hxl, hg⟩ := DataW.trod_struct Tryd.underlying31 h2
      obtain ⟨y0, y1, rfl⟩ := two_of hxl
      obtain ⟨b0, e0, _, l0⟩ := DataW.trod_string (P := Tryd.prog) Tryd.underlying9 (show DataW.trod enc Tryd.prog w base spare held k 9 [u0] = some y0 from hg 0 _ rfl)
      obtain rfl := List.singleton_inj.1 e0
      obtain ⟨b1, e1, _, l1⟩ := DataW.trod_string (P := Tryd.prog) Tryd.underlying9 (show DataW.trod enc Tryd.prog w base spare held k 9 [u1] = some y1 from hg 1 _ rfl)
      obtain rfl := List.singleton_inj.1 e1
      exact ⟨⟨b0.data.toList, b1.data.toList⟩, ⟨(hcell 0 (by omega)).trans rfl, (hcell 1 (by omega)).trans rfl⟩, by simpa using l0, by simpa using l1⟩
    rcases Nat.eq_zero_or_pos len with rfl | hp
    · exact ⟨[], .inl ⟨rfl, _, _, rfl⟩, rfl, by unfold maxLen; omega, by simp⟩
    · obtain ⟨b, off, spot⟩ := ad
      have hspot : spot = none := by
        obtain ⟨f, h1, _⟩ := each 0 hp
        have := h1.1
        cases spot with
        | none => rfl
        | some s => simp [World.cell?, Addr.add] at this; split at this <;> simp at this
      subst hspot
      have hbl : b < w.heap.size := by
        obtain ⟨f, h1, _⟩ := each 0 hp
        have := h1.1
        rw [show ((⟨b, off, none⟩ : Addr).add (0 * 2)).add 0 = ⟨b, off, none⟩ by simp [Addr.add]] at this
        exact block_lt_of_cell this
      haveI : Inhabited Pr := ⟨⟨[], []⟩⟩
      obtain ⟨F, hF⟩ := choose_lt each
      have ad2 : ∀ k j, ((⟨b, off, none⟩ : Addr).add (k * 2)).add j = ⟨b, off + k * 2 + j, none⟩ := fun k j => by rw [addOffPr, addOffPr]
      refine ⟨(List.range len).map F, .inr ⟨b, off, cap, by simp, hbl, fun k hk => ?_⟩, by simp, Nat.le_trans hl hm, fun f hf => ?_⟩
      · have hk2 : k < len := by simpa using hk
        have h1 := (hF k hk2).1
        simp only [ad2] at h1
        simp only [List.getElem_map, List.getElem_range]
        exact h1
      · obtain ⟨i, hi, rfl⟩ := List.mem_map.1 hf
        exact (hF i (by simpa using hi)).2
end Go.Proofs.YtgebkpnieailbaaDoor
