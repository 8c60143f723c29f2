/-
  A struct of one-cell fields that came in, by value.
-/
import Derived.Test.YtgebkpnieailbaaDoorRows
import Derived.WalkKit
import Derived.WideShapes
import Derived.ChangeArms
import Derived.Deep.Fields
namespace Go.Proofs.YtgebkpnieailbaaDoor
set_option linter.unusedVariables false
open Go.ChangeShapes Go.WideShapes Go.Deep

/-- Its value is an aggregate, a cell a field; each cell reads as its field's datum. -/
theorem open_record {H : Type} {enc : TypeId × Value → H} {P : Program} {w : World} {base : Nat} {spare : Nat → Bool} {held : Bool} {r : Reach} {b0 : Nat} {t : TypeId} {fs : Array Field} {v : Value} {d : DataW H} {p : List MemPlace}
    (hs : P.underlying t = some (.struct fs)) (hone : oneCellFields P fs = true) (hC : P.cellsOf t = fs.size) (hv : Value.okWide P w r b0 t v) (h : DataW.Trod enc P w base spare held t v d p) :
    ∃ (vs : List Value) (xs : List (DataW H × List MemPlace)) (n : Nat), v = .agg vs.toArray ∧ vs.length = fs.size ∧ xs.length = fs.size ∧
      ∀ (i : Nat) (f : Field) (u : Value) (x : DataW H × List MemPlace), fs[i]? = some f → vs[i]? = some u → xs[i]? = some x → DataW.trod enc P w base spare held n f.type [u] = some x := by
  obtain ⟨cs, rfl, hsz⟩ := okWide_struct hs hv
  obtain ⟨vs⟩ := cs
  obtain ⟨fuel, hf⟩ := h
  obtain ⟨xs, n, _, _, _, hlen, hg⟩ := DataW.trod_struct hs hf
  refine ⟨vs, xs, n, rfl, hsz.trans hC, hlen, fun i f u x hi hu hx => ?_⟩
  obtain ⟨h1, h2⟩ := hone_of hone i f hi
  have h3 := hg i f hi
  rw [h1, h2, hx] at h3
  have hl : i < vs.length := (List.getElem?_eq_some_iff.1 hu).1
  have he : ((vs.drop i).take 1) = [u] := by
    rw [List.drop_eq_getElem_cons hl]
    have := (List.getElem?_eq_some_iff.1 hu).2
    simp [this]
  rw [← he]
  exact h3
theorem two_of {α : Type} {l : List α} (h : l.length = 2) : ∃ a b, l = [a, b] := by
  match l, h with
  | [a, b], _ => exact ⟨a, b, rfl⟩
theorem three_of {α : Type} {l : List α} (h : l.length = 3) : ∃ a b c, l = [a, b, c] := by
  match l, h with
  | [a, b, c], _ => exact ⟨a, b, c, rfl⟩
theorem four_of {α : Type} {l : List α} (h : l.length = 4) : ∃ a b c d, l = [a, b, c, d] := by
  match l, h with
  | [a, b, c, d], _ => exact ⟨a, b, c, d, rfl⟩
theorem five_of {α : Type} {l : List α} (h : l.length = 5) : ∃ a b c d e, l = [a, b, c, d, e] := by
  match l, h with
  | [a, b, c, d, e], _ => exact ⟨a, b, c, d, e, rfl⟩
theorem six_of {α : Type} {l : List α} (h : l.length = 6) : ∃ a b c d e f, l = [a, b, c, d, e, f] := by
  match l, h with
  | [a, b, c, d, e, f], _ => exact ⟨a, b, c, d, e, f, rfl⟩
end Go.Proofs.YtgebkpnieailbaaDoor
