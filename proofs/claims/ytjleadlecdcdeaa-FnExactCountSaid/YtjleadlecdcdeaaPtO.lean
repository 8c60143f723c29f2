/-
  A Part that came in, opened.
-/
import Derived.Test.YtjleadlecdcdeaaPtC
import Derived.Test.YtjleadlecdcdeaaPrO
namespace Go.Proofs.Ytjleadlecdcdeaa
set_option linter.unusedVariables false
open Go.RowKit Go.Deep

/-- A part that came in. -/
inductive Came (w : World) : Lt → Prop
  | mk (t : Lt) (h1 : t.kind.type.length ≤ maxLen) (h2 : t.kind.sub.length ≤ maxLen) (hp : ∃ a len cap, t.pv = .slice a len cap ∧ IsPrs w a len cap t.kind.params)
      (hk : LtsAt w t.kv t.kids) (hl : t.kids.length ≤ maxLen) (hx : ∀ x ∈ t.kids, Came w x) : Came w t
theorem seven_of {α : Type} {l : List α} (h : l.length = 7) : ∃ a b c d e f g, l = [a, b, c, d, e, f, g] := by
  match l, h with
  | [a, b, c, d, e, f, g], _ => exact ⟨a, b, c, d, e, f, g, rfl⟩
theorem three_of' {α : Type} {l : List α} (h : l.length = 3) : ∃ a b c, l = [a, b, c] := by
  match l, h with
  | [a, b, c], _ => exact ⟨a, b, c, rfl⟩
theorem five_of' {α : Type} {l : List α} (h : l.length = 5) : ∃ a b c d e, l = [a, b, c, d, e] := by
  match l, h with
  | [a, b, c, d, e], _ => exact ⟨a, b, c, d, e, rfl⟩

set_option maxRecDepth 100000 in
theorem pt_open {H : Type} {enc : TypeId × Value → H} {w : World} {base : Nat} {spare : Nat → Bool} {held : Bool} (fuel : Nat) : ∀ {cs : List Value} {x : DataW H × List MemPlace},
    DataW.trod enc Try.prog w base spare held fuel 55 cs = some x → ∃ t : Lt, cs = t.cells ∧ Came w t := by
  induction fuel using Nat.strongRecOn with
  | _ fuel IH =>
    intro cs x h
    obtain ⟨xs, n, hfn, _, hcl, hxl, hg⟩ := DataW.trod_struct Try.underlying55 h
    rw [show Try.prog.cellsOf 55 = 7 by kernel_rfl] at hcl
    obtain ⟨u0, u1, u2, u3, u4, u5, u6, rfl⟩ := seven_of hcl
    obtain ⟨y0, y1, y2, y3, y4, rfl⟩ := five_of' hxl
    have hk : DataW.trod enc Try.prog w base spare held n 43 [u0, u1, u2] = some y0 := hg 0 _ rfl
    have hi1 : DataW.trod enc Try.prog w base spare held n 3 [u3] = some y1 := hg 1 _ rfl
    have hi2 : DataW.trod enc Try.prog w base spare held n 3 [u4] = some y2 := hg 2 _ rfl
    have hi3 : DataW.trod enc Try.prog w base spare held n 3 [u5] = some y3 := hg 3 _ rfl
    have hks : DataW.trod enc Try.prog w base spare held n 53 [u6] = some y4 := hg 4 _ rfl
    clear hg
    obtain ⟨i1, e1, _, _⟩ := DataW.trod_int Try.underlying3 hi1
    obtain rfl := List.singleton_inj.1 e1
    obtain ⟨i2, e2, _, _⟩ := DataW.trod_int Try.underlying3 hi2
    obtain rfl := List.singleton_inj.1 e2
    obtain ⟨i3, e3, _, _⟩ := DataW.trod_int Try.underlying3 hi3
    obtain rfl := List.singleton_inj.1 e3
    obtain ⟨zs, n2, _, _, _, hzl, hz⟩ := DataW.trod_struct Try.underlying43 hk
    obtain ⟨z0, z1, z2, rfl⟩ := three_of' hzl
    have hs0 : DataW.trod enc Try.prog w base spare held n2 9 [u0] = some z0 := hz 0 _ rfl
    have hs1 : DataW.trod enc Try.prog w base spare held n2 9 [u1] = some z1 := hz 1 _ rfl
    have hs2 : DataW.trod enc Try.prog w base spare held n2 41 [u2] = some z2 := hz 2 _ rfl
    obtain ⟨b0, f0, _, l0⟩ := DataW.trod_string Try.underlying9 hs0
    obtain rfl := List.singleton_inj.1 f0
    obtain ⟨b1, f1, _, l1⟩ := DataW.trod_string Try.underlying9 hs1
    obtain rfl := List.singleton_inj.1 f1
    obtain ⟨a, len, cap, hps⟩ : ∃ a len cap, u2 = .slice a len cap := by
      rcases DataW.trod_slice Try.underlying41 hs2 with ⟨hcs, _⟩ | ⟨_, _, _, _, _, _, _, hcs, _⟩
      · exact ⟨_, _, _, List.singleton_inj.1 hcs⟩
      · exact ⟨_, _, _, List.singleton_inj.1 hcs⟩
    subst hps
    obtain ⟨pl, hpl⟩ := prs_open hs2
    have hb0 : mkB b0.data.toList = b0 := rfl
    have hb1 : mkB b1.data.toList = b1 := rfl
    have hl0 : b0.data.toList.length ≤ maxLen := by simpa using l0
    have hl1 : b1.data.toList.length ≤ maxLen := by simpa using l1
    rcases DataW.trod_slice Try.underlying53 hks with ⟨hcs, _⟩ | ⟨ad, len2, cap2, elems, rest, n3, hn3, hcs, _, _, hlc, hcm, hel, hx, _⟩
    · obtain rfl := List.singleton_inj.1 hcs
      exact ⟨.mk ⟨b0.data.toList, b1.data.toList, pl⟩ (.slice a len cap) i1 i2 i3 (.slice none 0 0) [], rfl, .mk _ hl0 hl1 ⟨a, len, cap, rfl, hpl⟩ (.inl ⟨rfl, _, _, rfl⟩) (Nat.zero_le _) (fun x hx => absurd hx (by simp [Lt.kids]))⟩
    · obtain rfl := List.singleton_inj.1 hcs
      have each : ∀ i, i < len2 → ∃ t : Lt, (∀ j, j < 7 → w.cell? ((ad.add (i * 7)).add j) = t.cells[j]?) ∧ Came w t := fun i hi => by
        have h1 := hx i hi
        rw [List.getElem?_eq_getElem (by omega), show Try.prog.cellsOf 55 = 7 by kernel_rfl] at h1
        obtain ⟨cs', h2, h3⟩ := Option.bind_eq_some_iff.1 h1
        obtain ⟨_, hlen, hcell⟩ := World.cells?_some h2
        obtain ⟨t, ht, hc⟩ := IH n3 (by omega) h3
        refine ⟨t, fun j hj => ?_, hc⟩
        rw [hcell j hj, ht]
      rcases Nat.eq_zero_or_pos len2 with rfl | hp
      · exact ⟨.mk ⟨b0.data.toList, b1.data.toList, pl⟩ (.slice a len cap) i1 i2 i3 (.slice (some ad) 0 cap2) [], rfl, .mk _ hl0 hl1 ⟨a, len, cap, rfl, hpl⟩ (.inl ⟨rfl, _, _, rfl⟩) (Nat.zero_le _) (fun x hx => absurd hx (by simp [Lt.kids]))⟩
      · obtain ⟨b, off, spot⟩ := ad
        have hspot : spot = none := by
          obtain ⟨f, h1, _⟩ := each 0 hp
          have := h1 0 (by omega)
          rw [show f.cells[0]? = some (.string (mkB f.kind.type)) from rfl] at this
          cases spot with
          | none => rfl
          | some s => simp [World.cell?, Addr.add] at this; split at this <;> simp at this
        subst hspot
        have hbl : b < w.heap.size := by
          obtain ⟨f, h1, _⟩ := each 0 hp
          have := h1 0 (by omega)
          rw [show ((⟨b, off, none⟩ : Addr).add (0 * 7)).add 0 = ⟨b, off, none⟩ by simp [Addr.add], show f.cells[0]? = some (.string (mkB f.kind.type)) from rfl] at this
          exact block_lt_of_cell this
        haveI : Inhabited Lt := ⟨.mk ⟨[], [], []⟩ (.slice none 0 0) 0 0 0 (.slice none 0 0) []⟩
        obtain ⟨F, hF⟩ := choose_lt each
        have ad2 : ∀ k j, ((⟨b, off, none⟩ : Addr).add (k * 7)).add j = ⟨b, off + (k * 7 + j), none⟩ := fun k j => by rw [addOffPr, addOffPr, Nat.add_assoc]
        refine ⟨.mk ⟨b0.data.toList, b1.data.toList, pl⟩ (.slice a len cap) i1 i2 i3 (.slice (some ⟨b, off, none⟩) len2 cap2) ((List.range len2).map F), rfl, .mk _ hl0 hl1 ⟨a, len, cap, rfl, hpl⟩ (.inr ⟨b, off, cap2, by simp [Lt.kids, Lt.kv], hbl, fun k hk j hj => ?_⟩) (by simp [Lt.kids]; omega) (fun x hx => ?_)⟩
        · have hk2 : k < len2 := by simpa [Lt.kids] using hk
          have h1 := (hF k hk2).1 j hj
          rw [ad2] at h1
          simp only [Lt.kids, List.getElem_map, List.getElem_range]
          exact h1
        · obtain ⟨i, hi, rfl⟩ := List.mem_map.1 (show x ∈ (List.range len2).map F from hx)
          exact (hF i (by simpa using hi)).2
end Go.Proofs.Ytjleadlecdcdeaa
