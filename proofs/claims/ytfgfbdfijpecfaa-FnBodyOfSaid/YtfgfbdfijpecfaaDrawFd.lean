/-
  The draws of fields: l05Fields, DrawPutFields.
-/
import Derived.Test.YtfgfbdfijpecfaaDrawHd
import Derived.Test.YtfgfbdfijpecfaaFlB
import Derived.Test.YtfgfbdfijpecfaaFlG
namespace Go.Proofs.Ytfgfbdfijpecfaa
set_option linter.unusedVariables false
open Go.RowKit

/-- Fields are drawn. -/
def DrawnFls (K : Code) (w0 : World) (g : Nat) (w : World) (e : Ending) (w' : World) : Prop :=
  ∃ (l : List Fl) (v : Value) (i : Nat) (h : Int), e = .returned v ∧ (putL l).length ≤ 5000 ∧ l.length ≤ 1000 ∧ w'.ownsRow w.heap.size 35 2 v l.length (flCells l) ∧ Cur K w0 w' g i h ∧ w.grownBy w' (some g)

theorem row_stayG {wr w1 : World} {g B k : Nat} {e : TypeId} {v : Value} {n : Nat} {xs : List Value} (hlt : g < B) (hrow : wr.ownsRow B e k v n xs) (hg : wr.grownBy w1 (some g)) : w1.ownsRow B e k v n xs :=
  row_staysG (v1 := .slice (some ⟨g, 0, none⟩) 0 0) hrow hg (fun j hj hx => by
    have h1 : some g = some j := hj
    have h2 := (hrow.lt j hx).1
    have := Option.some.inj h1
    omega)

theorem Cur.past {K : Code} {w0 w w' : World} {g i B : Nat} {h : Int} (c : Cur K w0 w g i h) (hb : Below B w w') (hB : g < B) : Cur K w0 w' g i h :=
  ⟨c.row, c.few, c.base, c.below.trans (hb.mono (Nat.le_trans c.base (Nat.le_of_lt hB))), (hb.block g hB).trans c.cell, c.le⟩
theorem grownBy_past {a w w' : World} {row : Option Nat} (h : a.grownBy w row) (hb : Below a.heap.size w w') : a.grownBy w' row :=
  ⟨hb.os.trans h.os, hb.tape.trans h.tape, hb.output.trans h.output, Nat.le_trans h.size hb.size, fun k hk hn => (hb.block k hk).trans (h.block k hk hn)⟩

set_option maxRecDepth 100000 in
set_option maxHeartbeats 1000000 in
theorem fields5_any {K : Code} {w0 w : World} {g i : Nat} {h : Int} (c : Cur K w0 w g i h) (hg : g < w.heap.size) :
    Calls Try.prog 33 #[.pointer (some ⟨g, 0, none⟩)] w (DrawnFls K w0 g w) := by
  obtain ⟨j0, hj, hy0, hy1, hy2⟩ := info_parts infoFl
  have C := Lib.hid c
  clear c
  go_enter Try.func33, Try.ntmps33
  go_wp2_with fail
  refine (head5_any C.out).mono ?_
  rintro e w1 ⟨s, i1, h1, rfl, hs, hc1, hg1⟩
  have C1 := Lib.hid hc1
  have G1 := Lib.hid hg1
  have hsz1 := hg1.size
  clear hc1 hg1
  go_wp2_with fail
  refine (specFields_any s w1 (by omega)).mono ?_
  rintro e w2 ⟨v, rfl, hrow, hB2⟩
  obtain ⟨hb1, hb2⟩ := fieldsL_bounds s.data.toList
  have hsl : s.data.toList.length = s.size := by simp
  rw [hsl] at hb1 hb2
  generalize fieldsL s.data.toList = l at hrow hb1 hb2
  have hl1 : (putL l).length ≤ 2504 := by omega
  have hl2 : l.length ≤ 501 := by omega
  have C2 := Lib.hid (C1.out.later hB2)
  have G2 := Lib.hid (grownBy_below G1.out hB2)
  have R2 := Lib.hid (row_baseL hrow hsz1)
  have hsz2 : w.heap.size ≤ w2.heap.size := Nat.le_trans hsz1 hB2.size
  clear hrow hB2 hb1 hb2 hsl hs
  go_wp2_with fail
  refine (once_any C2.out 8 (by decide) (by decide)).mono ?_
  rintro e w3 ⟨o3, i3, h3, rfl, hc3, hg3⟩
  have C3 := Lib.hid hc3
  have G3 := Lib.hid (grownBy_trans G2.out hg3)
  have R3 := Lib.hid (row_stayG hg R2.out hg3)
  clear hc3 hg3
  cases o3 with
  | false =>
    go_wp2_with fail
    go_ret
    exact ⟨l, v, i3, h3, rfl, by omega, by omega, R3.out, C3.out, G3.out⟩
  | true =>
    go_wp2_with fail
    refine (pick_lit C3.out 100 (by decide) (by rfl) (by decide) (by decide)).mono ?_
    rintro e w4 ⟨t, i4, h4, rfl, ht, hc4, hg4⟩
    have C4 := Lib.hid hc4
    have G4 := Lib.hid (grownBy_trans G3.out hg4)
    have R4 := Lib.hid (row_stayG hg R3.out hg4)
    clear hc4 hg4
    go_wp2_with fail
    refine (pick_lit C4.out 100 (by decide) (by rfl) (by decide) (by decide)).mono ?_
    rintro e w5 ⟨u, i5, h5, rfl, hu, hc5, hg5⟩
    have C5 := Lib.hid hc5
    have G5 := Lib.hid (grownBy_trans G4.out hg5)
    have R5 := Lib.hid (row_stayG hg R4.out hg5)
    clear hc5 hg5
    have hsz5 := G5.out.size
    have HF : Hid (flCells l ++ [.string t, .string u] = flCells (l ++ [Fl.mk t.data.toList u.data.toList])) := Lib.hid (by
      rw [flCells_append]
      simp [flCells, mkB])
    go_wp2_with (first | (at_builtin; refine wpList_append_own _ rfl _ _ 26 rfl w.heap.size 35 j0 (.agg #[.string ⟨#[]⟩, .string ⟨#[]⟩]) 2 32 Try.underlying26 hj hy0 hy1 hy2 rfl (by decide) _ _ _ rfl (R5.out.alloc _) ⟨w5.heap.size, 0, none⟩ 1 1 [.string t, .string u] rfl rfl (cell_two_new _ _ _ _ _ rfl) (by simp [Value.oneCell']) (by unfold maxLen; omega) (by omega) (by simp; omega) ?_; intro v' w6 hown' hgrow _))
    have hB6 : Below w.heap.size w5 w6 := ((Below.refl _ _).alloc hsz5 _).grown hgrow (by simp; omega) (fun k e => (R5.out.lt k e).1)
    have C6 := Lib.hid (C5.out.past hB6 hg)
    have G6 := Lib.hid (grownBy_past G5.out hB6)
    have R6 : Hid (w6.ownsRow w.heap.size 35 2 v' (l ++ [Fl.mk t.data.toList u.data.toList]).length (flCells (l ++ [Fl.mk t.data.toList u.data.toList]))) := Lib.hid (by
      rw [← HF.out]
      simpa using hown')
    clear hown' hgrow hB6
    go_wp2_with fail
    go_ret
    refine ⟨l ++ [Fl.mk t.data.toList u.data.toList], v', i5, h5, rfl, ?_, by simp; omega, R6.out, C6.out, G6.out⟩
    rw [putL_snoc, List.length_append, putF_len]
    simp
    omega
end Go.Proofs.Ytfgfbdfijpecfaa
