/-
  Parts that came in: the walks of the laws' toKind, toPart, toPartS.
-/
import Derived.Test.YtjleadlecdcdeaaPtS
import Derived.Test.YtjleadlecdcdeaaPrV
import Derived.Test.YtjleadlecdcdeaaKdA
namespace Go.Proofs.Ytjleadlecdcdeaa
set_option linter.unusedVariables false
open Go.RowKit

set_option maxRecDepth 100000 in
set_option maxHeartbeats 2000000 in
theorem toKd_any (s0 s1 : ByteArray) (v : Value) (l : List Pr) (w : World) (hv : PrsAt w v l) (hl : l.length ≤ 1048576) :
    Calls Try.prog 19 #[.agg #[.string s0, .string s1, v]] w fun e w' => ∃ v', e = .returned (.agg #[.string s0, .string s1, v']) ∧ w'.ownsRow w.heap.size 88 2 v' l.length (prCells l) ∧ Below w.heap.size w w' := by
  obtain ⟨p, cap, rfl⟩ := hv.slice
  obtain ⟨wa, hwa⟩ : ∃ wa, (w.alloc (.cells #[.string s0, .string s1, .slice p l.length cap] 43)).alloc (.cells #[.string ⟨#[]⟩, .string ⟨#[]⟩, .slice none 0 0] 26) = wa := ⟨_, rfl⟩
  have sa : wa.heap.size = w.heap.size + 2 := by rw [← hwa]; simp
  have BA : Below w.heap.size w wa := by rw [← hwa]; exact ((Below.refl _ _).alloc (Nat.le_refl _) _).alloc (by simp) _
  have Y1 : wa.heap[w.heap.size + 1]? = some (.cells #[.string ⟨#[]⟩, .string ⟨#[]⟩, .slice none 0 0] 26 (0, 0)) := by
    have := new_three (w.alloc (.cells #[.string s0, .string s1, .slice p l.length cap] 43)) (.string ⟨#[]⟩) (.string ⟨#[]⟩) (.slice none 0 0) 26
    rw [hwa] at this
    simpa using this
  obtain ⟨wb, hwb⟩ : ∃ wb, wa.alloc (.cells #[.string s0, .string s1, .slice none 0 0] 26) = wb := ⟨_, rfl⟩
  have BB := Lib.hid (show Below w.heap.size w wb by rw [← hwb]; exact BA.alloc BA.size _)
  have X2 : wb.heap[w.heap.size + 2]? = some (.cells #[.string s0, .string s1, .slice none 0 0] 26 (0, 0)) := by
    have := new_three wa (.string s0) (.string s1) (.slice none 0 0) 26
    rw [hwb, sa] at this
    exact this
  have X1 : wb.heap[w.heap.size + 1]? = some (.cells #[.string ⟨#[]⟩, .string ⟨#[]⟩, .slice none 0 0] 26 (0, 0)) := by
    rw [← hwb]
    exact (Below.heap_alloc wa _ _ (by omega)).trans Y1
  have H1 := Lib.hid X1
  have H2 := Lib.hid X2
  have sb : wb.heap.size = w.heap.size + 3 := by rw [← hwb]; simp [sa]
  have T := Lib.hid (toParamS_any _ l wb (hv.later BB.out (Nat.le_refl _)) hl)
  clear hv BA Y1 X1 X2 sa sb
  subst hwb
  subst hwa
  go_enter Try.func19, Try.ntmps19
  go_wp2_with fail
  refine T.out.mono ?_
  rintro e w4 ⟨v', rfl, hrow, hB4⟩
  obtain ⟨p', c', rfl⟩ := row_slice hrow
  have G1 := Lib.hid ((hB4.block _ (Array.getElem?_eq_some_iff.1 H1.out).1).trans H1.out)
  have G2 := Lib.hid ((hB4.block _ (Array.getElem?_eq_some_iff.1 H2.out).1).trans H2.out)
  have B4 := Lib.hid (BB.out.trans (hB4.mono BB.out.size))
  have ROW := Lib.hid hrow
  obtain ⟨_, _, _⟩ := three_cells G1.out
  obtain ⟨_, _, _⟩ := three_free G1.out
  obtain ⟨_, _, _⟩ := three_cells G2.out
  obtain ⟨_, _, _⟩ := three_free G2.out
  clear hrow hB4 T H1 H2 BB
  go_wp2_with fail
  have G3 : (w4.setCell ⟨w.heap.size + 1 + 1, 2, none⟩ (.slice p' l.length c')).heap[w.heap.size + 1]? = some (.cells #[.string ⟨#[]⟩, .string ⟨#[]⟩, .slice none 0 0] 26 (0, 0)) := (heap_setCell_other w4 _ _ _ (by show w.heap.size + 1 ≠ w.heap.size + 1 + 1; omega)).trans G1.out
  have q := three_cells (set_three G3 (.string s0) (.string s1) (.slice p' l.length c'))
  have hne : ∀ k, (Value.slice p' l.length c').ownBlock = some k → k ≠ w.heap.size + 1 + 1 ∧ k ≠ w.heap.size + 1 := fun k e => by have := (ROW.out.lt k e).1; simp at this; omega
  refine bodyPost_ret (v := .agg #[.string s0, .string s1, .slice p' l.length c']) (by simp [results, Try.results19, go_sem, q.1, q.2.1, q.2.2]) rfl ⟨.slice p' l.length c', rfl, ?_, ?_⟩
  · refine row_baseL (ownsRow_setCell_other (ownsRow_setCell_other (ownsRow_setCell_other (ownsRow_setCell_other ROW.out (fun e => (hne _ e).1 rfl) _) (fun e => (hne _ e).2 rfl) _) (fun e => (hne _ e).2 rfl) _) (fun e => (hne _ e).2 rfl) _) (by simp; omega)
  · exact below_three (B4.out.setCell (p := ⟨w.heap.size + 1 + 1, 2, none⟩) (by show w.heap.size ≤ w.heap.size + 1 + 1; omega) _) (by omega) _ _ _
end Go.Proofs.Ytjleadlecdcdeaa
