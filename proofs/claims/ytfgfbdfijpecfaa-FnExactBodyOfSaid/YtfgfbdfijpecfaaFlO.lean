/-
  A slice of fields that came in, opened.
-/
import Derived.Test.YtfgfbdfijpecfaaLawPe
import Derived.Deep.SlicePairs
namespace Go.Proofs.Ytfgfbdfijpecfaa
set_option linter.unusedVariables false
open Go.RowKit

theorem fls_none (w : World) : IsFls w none 0 0 [] := ⟨.inl ⟨rfl, _, _, rfl⟩, rfl, by unfold maxLen; omega, by simp⟩
theorem fls_open {W : World} {a : Addr} {len cap : Nat} {V0 V1 : Nat → Value} (hc : ∀ i, i < len → W.cell? (a.add (i * 2)) = some (V0 i) ∧ W.cell? (a.add (i * 2 + 1)) = some (V1 i))
    (hs : ∀ i, i < len → (∃ s : ByteArray, V0 i = .string s ∧ s.size ≤ maxLen) ∧ (∃ s : ByteArray, V1 i = .string s ∧ s.size ≤ maxLen)) (hm : len ≤ maxLen) : ∃ l, IsFls W (some a) len cap l := by
  rcases Nat.eq_zero_or_pos len with rfl | hp
  · exact ⟨[], .inl ⟨rfl, _, _, rfl⟩, rfl, hm, by simp⟩
  · obtain ⟨b, off, spot⟩ := a
    have hspot : spot = none := by
      have := (hc 0 hp).1
      cases spot with
      | none => rfl
      | some s => simp [World.cell?, Addr.add] at this; split at this <;> simp at this
    subst hspot
    have hb : b < W.heap.size := by
      have := (hc 0 hp).1
      rw [show (⟨b, off, none⟩ : Addr).add (0 * 2) = ⟨b, off, none⟩ by simp [Addr.add]] at this
      exact block_lt_of_cell this
    have each : ∀ i, i < len → ∃ f : List UInt8 × List UInt8, V0 i = .string (mkB f.1) ∧ V1 i = .string (mkB f.2) ∧ f.1.length ≤ maxLen ∧ f.2.length ≤ maxLen := fun i hi => by
      obtain ⟨⟨s, h1, h2⟩, ⟨t, h3, h4⟩⟩ := hs i hi
      exact ⟨(s.data.toList, t.data.toList), h1, h3, by simpa using h2, by simpa using h4⟩
    obtain ⟨F, hF⟩ := Go.Deep.choose_lt each
    refine ⟨(List.range len).map (fun i => Fl.mk (F i).1 (F i).2), .inr ⟨b, off, cap, by simp, hb, fun k hk => ?_⟩, by simp, hm, fun f hf => ?_⟩
    · have hk2 : k < len := by simpa using hk
      obtain ⟨h1, h2⟩ := hc k hk2
      obtain ⟨h3, h4, _⟩ := hF k hk2
      have a1 : (⟨b, off, none⟩ : Addr).add (k * 2) = ⟨b, off + k * 2, none⟩ := by unfold Addr.add; split <;> simp_all
      have a2 : (⟨b, off, none⟩ : Addr).add (k * 2 + 1) = ⟨b, off + k * 2 + 1, none⟩ := by unfold Addr.add; split <;> simp_all <;> omega
      rw [a1, h3] at h1
      rw [a2, h4] at h2
      simp only [List.getElem_map, List.getElem_range]
      exact ⟨h1, h2⟩
    · obtain ⟨i, hi, rfl⟩ := List.mem_map.1 hf
      obtain ⟨_, _, h5, h6⟩ := hF i (by simpa using hi)
      exact ⟨h5, h6⟩
end Go.Proofs.Ytfgfbdfijpecfaa
