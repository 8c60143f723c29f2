/-
  A Kind that came in, by value, opened.
-/
import Derived.Test.YtjleadlecdcdeaaPrO
import Derived.Test.YtjleadlecdcdeaaPtO
namespace Go.Proofs.Ytjleadlecdcdeaa
set_option linter.unusedVariables false
open Go.ChangeShapes Go.WideShapes Go.Deep Go.RowKit

set_option maxRecDepth 100000 in
theorem kd_came {H : Type} {enc : TypeId × Value → H} {w : World} {base : Nat} {spare : Nat → Bool} {held : Bool} {r : Reach} {b0 : Nat} {v : Value} {d : DataW H} {p : List MemPlace}
    (hv : Value.okWide Try.prog w r b0 43 v) (h : DataW.Trod enc Try.prog w base spare held 43 v d p) :
    ∃ (T U : ByteArray) (a : Option Addr) (len cap : Nat) (l : List Pr), v = .agg #[.string T, .string U, .slice a len cap] ∧ (T.size ≤ maxLen ∧ U.size ≤ maxLen ∧ IsPrs w a len cap l) := by
  obtain ⟨cs, rfl, hsz⟩ := okWide_struct Try.underlying43 hv
  obtain ⟨vs⟩ := cs
  obtain ⟨fuel, hf⟩ := h
  obtain ⟨zs, n2, _, _, hcl, hzl, hz⟩ := DataW.trod_struct Try.underlying43 hf
  have h3 : vs.length = 3 := hsz.trans (show Try.prog.cellsOf 43 = 3 by kernel_rfl)
  obtain ⟨u0, u1, u2, rfl⟩ := three_of' h3
  obtain ⟨z0, z1, z2, rfl⟩ := three_of' hzl
  have hs0 : DataW.trod enc Try.prog w base spare held n2 9 [u0] = some z0 := hz 0 _ rfl
  have hs1 : DataW.trod enc Try.prog w base spare held n2 9 [u1] = some z1 := hz 1 _ rfl
  have hs2 : DataW.trod enc Try.prog w base spare held n2 41 [u2] = some z2 := hz 2 _ rfl
  obtain ⟨b0, f0, _, l0⟩ := DataW.trod_string Try.underlying9 hs0
  obtain rfl := List.singleton_inj.1 f0
  obtain ⟨b1, f1, _, l1⟩ := DataW.trod_string Try.underlying9 hs1
  obtain rfl := List.singleton_inj.1 f1
  obtain ⟨a, len, cap, hps⟩ : ∃ a len cap, u2 = .slice a len cap := by
    rcases DataW.trod_slice Try.underlying41 hs2 with ⟨hcs, _⟩ | ⟨_, _, _, _, _, _, _, hcs, _⟩
    · exact ⟨_, _, _, List.singleton_inj.1 hcs⟩
    · exact ⟨_, _, _, List.singleton_inj.1 hcs⟩
  subst hps
  obtain ⟨pl, hpl⟩ := prs_open hs2
  exact ⟨_, _, _, _, _, pl, rfl, l0, l1, hpl⟩
set_option maxRecDepth 100000 in
theorem pt_came {H : Type} {enc : TypeId × Value → H} {w : World} {base : Nat} {spare : Nat → Bool} {held : Bool} {r : Reach} {b0 : Nat} {v : Value} {d : DataW H} {p : List MemPlace}
    (hv : Value.okWide Try.prog w r b0 55 v) (h : DataW.Trod enc Try.prog w base spare held 55 v d p) :
    ∃ t : Lt, v = ptV t ∧ Came w t := by
  obtain ⟨cs, rfl, hsz⟩ := okWide_struct Try.underlying55 hv
  obtain ⟨vs⟩ := cs
  obtain ⟨fuel, hf⟩ := h
  obtain ⟨t, ht, hc⟩ := pt_open fuel hf
  have e : vs = t.cells := ht
  subst e
  exact ⟨t, rfl, hc⟩
end Go.Proofs.Ytjleadlecdcdeaa
