/-
  What a step may have turned: one block of the call's own, or nothing that was there.
-/
import Derived.Test.YtgebkpnieailbaaDoorRows
import Derived.WalkKit
import Derived.WalkSpells
import Derived.Lib.Hide
import Derived.Deep.QuietTactic
namespace Go.Proofs.YtgebkpnieailbaaDoor
set_option linter.unusedVariables false
open Go.RowKit

theorem grownBy_one (w : World) (g j : Nat) (u : Value) : w.grownBy (w.setCell ⟨g, j, none⟩ u) (some g) :=
  ⟨rfl, rfl, rfl, by simp [World.setCell], fun k _ hn => Below.heap_setCell _ _ _ _ (by intro e; apply hn; rw [e])⟩
theorem grownBy_trans {a b c : World} {row : Option Nat} (h : a.grownBy b row) (k : b.grownBy c row) : a.grownBy c row :=
  ⟨k.os.trans h.os, k.tape.trans h.tape, k.output.trans h.output, Nat.le_trans h.size k.size, fun j hj hn => (k.block j (Nat.lt_of_lt_of_le hj h.size) hn).trans (h.block j hj hn)⟩
theorem grownBy_drewN {a b : World} {row : Option Nat} (h : a.grownBy b row) (n : Nat) : a.grownBy (b.drewN n) row := ⟨h.os, h.tape, h.output, h.size, h.block⟩

theorem grownBy_refl (w : World) (row : Option Nat) : w.grownBy w row := ⟨rfl, rfl, rfl, Nat.le_refl _, fun _ _ _ => rfl⟩
theorem grownBy_below {a w w' : World} {row : Option Nat} (h : a.grownBy w row) (hb : Below w.heap.size w w') : a.grownBy w' row :=
  ⟨hb.os.trans h.os, hb.tape.trans h.tape, hb.output.trans h.output, Nat.le_trans h.size hb.size, fun k hk hn => (hb.block k (by have := h.size; omega)).trans (h.block k hk hn)⟩
theorem grownBy_set {a w : World} {g : Nat} (h : a.grownBy w (some g)) (j : Nat) (u : Value) : a.grownBy (w.setCell ⟨g, j, none⟩ u) (some g) :=
  ⟨h.os, h.tape, h.output, by simpa [World.setCell] using h.size, fun k hk hn => (Below.heap_setCell _ _ _ _ (by intro e; apply hn; rw [e])).trans (h.block k hk hn)⟩
theorem row_below {w w' : World} {B : Nat} {e : TypeId} {n : Nat} {v : Value} {xs : List Value} (h : w.ownsRow B e 1 v n xs) (hb : Below w.heap.size w w') : w'.ownsRow B e 1 v n xs :=
  h.kept (row := none) ⟨hb.os, hb.tape, hb.output, hb.size, fun k hk _ => hb.block k hk⟩ (by
    cases hv : v.ownBlock with
    | none => exact .inl rfl
    | some g => exact .inr (by simp))
/-- A row that was there ahead of another one stays as it is when the other one is written. -/
theorem row_ahead {w w' wA : World} {B B3 : Nat} {e e3 : TypeId} {v v3 : Value} {n n3 : Nat} {xs xs3 : List Value} (h : w.ownsRow B e 1 v n xs) (hA : wA.ownsRow B e 1 v n xs) (h3 : w.ownsRow B3 e3 1 v3 n3 xs3) (hB : wA.heap.size ≤ B3) (hg : w.grownBy w' v3.ownBlock) : w'.ownsRow B e 1 v n xs := by
  refine h.kept hg ?_
  cases hv : v.ownBlock with
  | none => exact .inl rfl
  | some k =>
    refine .inr (fun e2 => ?_)
    have h1 := (hA.lt k hv).2
    have h2 := (h3.lt k e2.symm).1
    omega
/-- .. and so does one that was made behind it. -/
theorem row_behind {w w' wA : World} {B B3 : Nat} {e e3 : TypeId} {v v3 : Value} {n n3 : Nat} {xs xs3 : List Value} (h : w.ownsRow B e 1 v n xs) (hA : wA.ownsRow B3 e3 1 v3 n3 xs3) (hB : wA.heap.size ≤ B) (hg : w.grownBy w' v3.ownBlock) : w'.ownsRow B e 1 v n xs := by
  refine h.kept hg ?_
  cases hv : v.ownBlock with
  | none => exact .inl rfl
  | some k =>
    refine .inr (fun e2 => ?_)
    have h1 := (h.lt k hv).1
    have h2 := (hA.lt k e2.symm).2
    omega
theorem below_row {w0 w w' : World} {B B3 : Nat} {e3 : TypeId} {v3 : Value} {n3 : Nat} {xs3 : List Value} (hb : Below B w0 w) (h3 : w.ownsRow B3 e3 1 v3 n3 xs3) (hB : B ≤ B3) (hs : B ≤ w.heap.size) (hg : w.grownBy w' v3.ownBlock) : Below B w0 w' :=
  hb.grown hg hs (fun k e => Nat.le_trans hB (h3.lt k e).1)
/-- A row that lies behind block g stays behind an act on g alone. -/
theorem row_stay {wr w1 : World} {g B : Nat} {e : TypeId} {v : Value} {n : Nat} {xs : List Value} (hlt : g < B) (hrow : wr.ownsRow B e 1 v n xs) (hg : wr.grownBy w1 (some g)) : w1.ownsRow B e 1 v n xs := by
  refine hrow.kept hg ?_
  cases hv : v.ownBlock with
  | none => exact .inl rfl
  | some k =>
    refine .inr (fun e2 => ?_)
    have e3 := Option.some.inj e2
    have := (hrow.lt k hv).1
    omega
/-- What an append to such a row leaves. -/
theorem app_stay {w wr w1 : World} {g : Nat} {e : TypeId} {v : Value} {n : Nat} {xs : List Value} {tmp : Obj} (hgw : w.grownBy wr (some g)) (hlt : g < w.heap.size)
    (hrow : wr.ownsRow w.heap.size e 1 v n xs) (hgrow : (wr.alloc tmp).grownBy w1 v.ownBlock) : w1.heap[g]? = wr.heap[g]? ∧ w.grownBy w1 (some g) := by
  have hs := hgw.size
  have hb : ∀ k, k < w.heap.size → w1.heap[k]? = wr.heap[k]? := fun k hk => by
    rw [hgrow.block k (by simp; omega) (fun e' => by have := (hrow.lt k e'.symm).1; omega)]
    exact Below.heap_alloc _ _ _ (by omega)
  have hsz : wr.heap.size ≤ w1.heap.size := by have := hgrow.size; simp at this; omega
  exact ⟨hb g hlt, ⟨hgrow.os.trans hgw.os, hgrow.tape.trans hgw.tape, hgrow.output.trans hgw.output, Nat.le_trans hs hsz, fun k hk hn => (hb k hk).trans (hgw.block k hk hn)⟩⟩
end Go.Proofs.YtgebkpnieailbaaDoor
