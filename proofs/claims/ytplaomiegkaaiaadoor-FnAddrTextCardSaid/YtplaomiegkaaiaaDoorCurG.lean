/-
  The cursor, and a row of the call's own beside it.
-/
import Derived.Test.YtplaomiegkaaiaaDoorPickA
import Derived.Test.YtplaomiegkaaiaaDoorRowG
namespace Go.Proofs.YtplaomiegkaaiaaDoor
set_option linter.unusedVariables false
open Go.RowKit

theorem row_stayG {wr w1 : World} {g B k : Nat} {e : TypeId} {v : Value} {n : Nat} {xs : List Value} (hlt : g < B) (hrow : wr.ownsRow B e k v n xs) (hg : wr.grownBy w1 (some g)) : w1.ownsRow B e k v n xs :=
  row_staysG (v1 := .slice (some ⟨g, 0, none⟩) 0 0) hrow hg (fun j hj hx => by
    have h1 : some g = some j := hj
    have h2 := (hrow.lt j hx).1
    have := Option.some.inj h1
    omega)

theorem Cur.past {K : Code} {w0 w w' : World} {g i B : Nat} {h : Int} (c : Cur K w0 w g i h) (hb : Below B w w') (hB : g < B) : Cur K w0 w' g i h :=
  ⟨c.row, c.few, c.base, c.below.trans (hb.mono (Nat.le_trans c.base (Nat.le_of_lt hB))), (hb.block g hB).trans c.cell, c.le⟩
theorem grownBy_past {a w w' : World} {row : Option Nat} (h : a.grownBy w row) (hb : Below a.heap.size w w') : a.grownBy w' row :=
  ⟨hb.os.trans h.os, hb.tape.trans h.tape, hb.output.trans h.output, Nat.le_trans h.size hb.size, fun k hk hn => (hb.block k hk).trans (h.block k hk hn)⟩
end Go.Proofs.YtplaomiegkaaiaaDoor
