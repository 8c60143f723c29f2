/-
  Parts that came in: the walk of the laws' toPart.
-/
import Derived.Test.YtjleadlecdcdeaaPtT
namespace Go.Proofs.Ytjleadlecdcdeaa
set_option linter.unusedVariables false
open Go.RowKit

theorem seven_free {W : World} {n : Nat} {T : TypeId} {a b c d e f g : Value} (h : W.heap[n]? = some (.cells #[a, b, c, d, e, f, g] T (0, 0))) :
    W.frozen? ⟨n, 0, none⟩ = false ∧ W.frozen? ⟨n, 1, none⟩ = false ∧ W.frozen? ⟨n, 2, none⟩ = false ∧ W.frozen? ⟨n, 3, none⟩ = false ∧ W.frozen? ⟨n, 4, none⟩ = false ∧ W.frozen? ⟨n, 5, none⟩ = false ∧ W.frozen? ⟨n, 6, none⟩ = false := by
  refine ⟨?_, ?_, ?_, ?_, ?_, ?_, ?_⟩ <;> simp [World.frozen?, h]
theorem set_six {W : World} {n : Nat} {T : TypeId} {a b c d e f g : Value} (h : W.heap[n]? = some (.cells #[a, b, c, d, e, f, g] T (0, 0))) (A B C D E F : Value) :
    ((((((W.setCell ⟨n, 0, none⟩ A).setCell ⟨n, 1, none⟩ B).setCell ⟨n, 2, none⟩ C).setCell ⟨n, 3, none⟩ D).setCell ⟨n, 4, none⟩ E).setCell ⟨n, 5, none⟩ F).heap[n]? = some (.cells #[A, B, C, D, E, F, g] T (0, 0)) := by
  have h1 := heap_setCell_same W n 0 #[a, b, c, d, e, f, g] T A h
  have h2 := heap_setCell_same _ n 1 _ T B h1
  have h3 := heap_setCell_same _ n 2 _ T C h2
  have h4 := heap_setCell_same _ n 3 _ T D h3
  have h5 := heap_setCell_same _ n 4 _ T E h4
  have h6 := heap_setCell_same _ n 5 _ T F h5
  simpa using h6
theorem set_seven {W : World} {n : Nat} {T : TypeId} {a b c d e f g : Value} (h : W.heap[n]? = some (.cells #[a, b, c, d, e, f, g] T (0, 0))) (A B C D E F G : Value) :
    (((((((W.setCell ⟨n, 0, none⟩ A).setCell ⟨n, 1, none⟩ B).setCell ⟨n, 2, none⟩ C).setCell ⟨n, 3, none⟩ D).setCell ⟨n, 4, none⟩ E).setCell ⟨n, 5, none⟩ F).setCell ⟨n, 6, none⟩ G).heap[n]? = some (.cells #[A, B, C, D, E, F, G] T (0, 0)) := by
  have h1 := heap_setCell_same _ n 6 _ T G (set_six h A B C D E F)
  simpa using h1
theorem below_six {w W : World} {n B : Nat} (h : Below B w W) (hn : B ≤ n) (a b c d e f : Value) : Below B w ((((((W.setCell ⟨n, 0, none⟩ a).setCell ⟨n, 1, none⟩ b).setCell ⟨n, 2, none⟩ c).setCell ⟨n, 3, none⟩ d).setCell ⟨n, 4, none⟩ e).setCell ⟨n, 5, none⟩ f) :=
  (((((h.setCell (p := ⟨n, 0, none⟩) hn _).setCell (p := ⟨n, 1, none⟩) hn _).setCell (p := ⟨n, 2, none⟩) hn _).setCell (p := ⟨n, 3, none⟩) hn _).setCell (p := ⟨n, 4, none⟩) hn _).setCell (p := ⟨n, 5, none⟩) hn _
theorem heap_six (W : World) (n k : Nat) (hk : k ≠ n) (a b c d e f : Value) : ((((((W.setCell ⟨n, 0, none⟩ a).setCell ⟨n, 1, none⟩ b).setCell ⟨n, 2, none⟩ c).setCell ⟨n, 3, none⟩ d).setCell ⟨n, 4, none⟩ e).setCell ⟨n, 5, none⟩ f).heap[k]? = W.heap[k]? := by
  rw [heap_setCell_other _ _ _ _ hk, heap_setCell_other _ _ _ _ hk, heap_setCell_other _ _ _ _ hk, heap_setCell_other _ _ _ _ hk, heap_setCell_other _ _ _ _ hk, heap_setCell_other _ _ _ _ hk]

/-- The call hands back a part of its own, with the tree t. -/
def GivesPt (n : Nat) (t : Pt) (w : World) (e : Ending) (w' : World) : Prop :=
  ∃ t' : Lt, e = .returned (ptV t') ∧ t'.tree = t ∧ Holds w' w.heap.size n t' ∧ t'.blocks.Nodup ∧ Below w.heap.size w w'
/-- The call hands back a slice of parts of its own, with the trees l. -/
def GivesPts (n : Nat) (l : List Pt) (w : World) (e : Ending) (w' : World) : Prop :=
  ∃ (v' : Value) (l' : List Lt), e = .returned v' ∧ l'.map Lt.tree = l ∧ w'.ownsRow w.heap.size 29 7 v' l'.length (ltCells l') ∧ (∀ x ∈ l', Holds w' w.heap.size n x) ∧ (v'.ownBlock.toList ++ blocksL l').Nodup ∧ Below w.heap.size w w'

theorem alloc3 (w : World) (A B C : Obj) : (((w.alloc A).alloc B).alloc C).heap[w.heap.size]? = (w.alloc A).heap[w.heap.size]? ∧ (((w.alloc A).alloc B).alloc C).heap[w.heap.size + 1]? = ((w.alloc A).alloc B).heap[(w.alloc A).heap.size]? ∧ (((w.alloc A).alloc B).alloc C).heap[w.heap.size + 1 + 1]? = (((w.alloc A).alloc B).alloc C).heap[((w.alloc A).alloc B).heap.size]? ∧ Below w.heap.size w (((w.alloc A).alloc B).alloc C) := by
  have s1 : (w.alloc A).heap.size = w.heap.size + 1 := by simp
  have s2 : ((w.alloc A).alloc B).heap.size = w.heap.size + 1 + 1 := by simp
  refine ⟨?_, ?_, by rw [s2], ?_⟩
  · rw [Below.heap_alloc _ C _ (by omega), Below.heap_alloc _ B _ (by omega)]
  · rw [Below.heap_alloc _ C _ (by omega), s1]
  · exact (((Below.refl _ _).alloc (Nat.le_refl _) _).alloc (by omega) _).alloc (by omega) _

set_option maxRecDepth 100000 in
set_option maxHeartbeats 1000000 in
theorem toPt_one (n : Nat) (t : Lt) (w : World) (hp : PrsAt w t.pv t.kind.params) (hpl : t.kind.params.length ≤ 1048576) (hkl : t.kids.length ≤ 1048576)
    (TP : ∀ W, Below w.heap.size w W → Calls Try.prog 59 #[t.kv] W (GivesPts n (t.kids.map Lt.tree) W)) :
    Calls Try.prog 26 #[ptV t] w (GivesPt (n + 1) t.tree w) := by
  obtain ⟨W3, hW3⟩ : ∃ W3, ((w.alloc (.cells #[.string (mkB t.kind.type), .string (mkB t.kind.sub), t.pv, .int .i64 t.head, .int .i64 t.body, .int .i64 t.fin, t.kv] 55)).alloc (.cells #[.string ⟨#[]⟩, .string ⟨#[]⟩, .slice none 0 0, .int .i64 0, .int .i64 0, .int .i64 0, .slice none 0 0] 29)).alloc (.cells #[.string ⟨#[]⟩, .string ⟨#[]⟩, .slice none 0 0, .int .i64 0, .int .i64 0, .int .i64 0, .slice none 0 0] 29) = W3 := ⟨_, rfl⟩
  have BB : Hid (Below w.heap.size w W3) := Lib.hid (by rw [← hW3]; exact (alloc3 _ _ _ _).2.2.2)
  have X0 : Hid (W3.heap[w.heap.size]? = some (.cells #[.string (mkB t.kind.type), .string (mkB t.kind.sub), t.pv, .int .i64 t.head, .int .i64 t.body, .int .i64 t.fin, t.kv] 55 (0, 0))) := Lib.hid (by
    rw [← hW3, (alloc3 _ _ _ _).1]
    exact seven_new _ _ _ _ _ _ _ _ _)
  have X1 : Hid (W3.heap[w.heap.size + 1]? = some (.cells #[.string ⟨#[]⟩, .string ⟨#[]⟩, .slice none 0 0, .int .i64 0, .int .i64 0, .int .i64 0, .slice none 0 0] 29 (0, 0))) := Lib.hid (by
    rw [← hW3, (alloc3 _ _ _ _).2.1]
    exact seven_new _ _ _ _ _ _ _ _ _)
  have X2 : Hid (W3.heap[w.heap.size + 1 + 1]? = some (.cells #[.string ⟨#[]⟩, .string ⟨#[]⟩, .slice none 0 0, .int .i64 0, .int .i64 0, .int .i64 0, .slice none 0 0] 29 (0, 0))) := Lib.hid (by
    rw [← hW3, (alloc3 _ _ _ _).2.2.1]
    exact seven_new _ _ _ _ _ _ _ _ _)
  have K := Lib.hid (toKd_any (mkB t.kind.type) (mkB t.kind.sub) t.pv t.kind.params W3 (hp.later BB.out (Nat.le_refl _)) hpl)
  have S := Lib.hid TP
  have FIN : Hid (∀ (W : World) (B : Nat) (pv' kv' : Value) (l' : List Lt), l'.map Lt.tree = t.kids.map Lt.tree → W.ownsRow B 88 2 pv' t.kind.params.length (prCells t.kind.params) → W.ownsRow B 29 7 kv' l'.length (ltCells l') → (∀ x ∈ l', Holds W B n x) → (pv'.ownBlock.toList ++ (kv'.ownBlock.toList ++ blocksL l')).Nodup →
      ∃ t' : Lt, ptV t' = .agg #[.string (mkB t.kind.type), .string (mkB t.kind.sub), pv', .int .i64 t.head, .int .i64 t.body, .int .i64 t.fin, kv'] ∧ t'.tree = t.tree ∧ Holds W B (n + 1) t' ∧ t'.blocks.Nodup) := Lib.hid (fun W B pv' kv' l' h1 h2 h3 h4 h5 => by
    refine ⟨.mk t.kind pv' t.head t.body t.fin kv' l', rfl, ?_, ⟨⟨by show t.kind.params.length ≤ _; omega, ?_⟩, h2, h3, h4⟩, by rw [Lt.blocks_eq]; exact h5⟩
    · rw [Lt.tree_eq, t.tree_eq, ← h1]
      rfl
    · have := congrArg List.length h1
      simp at this
      show l'.length ≤ _
      omega)
  unfold ptV
  generalize t.tree = tt at *
  generalize t.kids.map Lt.tree = kt at *
  generalize t.kids.length = kn at *
  generalize t.kind.params = pl at *
  generalize mkB t.kind.type = U1 at *
  generalize mkB t.kind.sub = U2 at *
  generalize t.pv = pv at *
  generalize t.kv = kv at *
  generalize t.head = i1 at *
  generalize t.body = i2 at *
  generalize t.fin = i3 at *
  clear hp TP
  subst hW3
  go_enter Try.func26, Try.ntmps26
  go_wp2_with fail
  refine K.out.mono ?_
  rintro e w4 ⟨v', rfl, hrow, hB4⟩
  obtain ⟨p', c', rfl⟩ := row_slice hrow
  have G0 := Lib.hid ((hB4.block _ (Array.getElem?_eq_some_iff.1 X0.out).1).trans X0.out)
  have G1 := Lib.hid ((hB4.block _ (Array.getElem?_eq_some_iff.1 X1.out).1).trans X1.out)
  have G2 := Lib.hid ((hB4.block _ (Array.getElem?_eq_some_iff.1 X2.out).1).trans X2.out)
  have B4 := Lib.hid (BB.out.trans (hB4.mono BB.out.size))
  have ROW := Lib.hid hrow
  obtain ⟨_, _, _, _, _, _, _⟩ := seven_cells G0.out
  obtain ⟨_, _, _, _, _, _, _⟩ := seven_cells G2.out
  obtain ⟨_, _, _, _, _, _, _⟩ := seven_free G2.out
  clear hrow hB4 K X0 X1 X2 BB
  go_wp2_with fail
  have s3 : w.heap.size + 3 ≤ w4.heap.size := by have := (Array.getElem?_eq_some_iff.1 G2.out).1; omega
  have R4 : w4.ownsRow (w.heap.size + 3) 88 2 (.slice p' pl.length c') pl.length (prCells pl) := row_baseL ROW.out (by simp)
  have hne : ∀ k, (Value.slice p' pl.length c').ownBlock = some k → k ≠ w.heap.size + 1 + 1 := fun k e => by have := (R4.lt k e).1; omega
  have R5 := ownsRow_setCell_other (ownsRow_setCell_other (ownsRow_setCell_other (ownsRow_setCell_other (ownsRow_setCell_other (ownsRow_setCell_other R4 (a := ⟨w.heap.size + 1 + 1, 0, none⟩) (fun e => hne _ e rfl) (.string U1)) (a := ⟨w.heap.size + 1 + 1, 1, none⟩) (fun e => hne _ e rfl) (.string U2)) (a := ⟨w.heap.size + 1 + 1, 2, none⟩) (fun e => hne _ e rfl) (.slice p' pl.length c')) (a := ⟨w.heap.size + 1 + 1, 3, none⟩) (fun e => hne _ e rfl) (.int .i64 i1)) (a := ⟨w.heap.size + 1 + 1, 4, none⟩) (fun e => hne _ e rfl) (.int .i64 i2)) (a := ⟨w.heap.size + 1 + 1, 5, none⟩) (fun e => hne _ e rfl) (.int .i64 i3)
  have T2 := set_six G2.out (.string U1) (.string U2) (.slice p' pl.length c') (.int .i64 i1) (.int .i64 i2) (.int .i64 i3)
  have T1 := (heap_six w4 (w.heap.size + 1 + 1) (w.heap.size + 1) (by omega) (.string U1) (.string U2) (.slice p' pl.length c') (.int .i64 i1) (.int .i64 i2) (.int .i64 i3)).trans G1.out
  have B5 := below_six (n := w.heap.size + 1 + 1) B4.out (by omega) (.string U1) (.string U2) (.slice p' pl.length c') (.int .i64 i1) (.int .i64 i2) (.int .i64 i3)
  have B45 := (below_six (n := w.heap.size + 1 + 1) (Below.refl w.heap.size w4) (by omega) (.string U1) (.string U2) (.slice p' pl.length c') (.int .i64 i1) (.int .i64 i2) (.int .i64 i3)).size
  refine (S.out _ B5).mono ?_
  rintro e w6 ⟨kv', l', rfl, htr, hrow2, hh, hnd, hB6⟩
  obtain ⟨q', d', rfl⟩ := row_slice hrow2
  have V2 := Lib.hid ((hB6.block _ (Array.getElem?_eq_some_iff.1 T2).1).trans T2)
  have V1 := Lib.hid ((hB6.block _ (Array.getElem?_eq_some_iff.1 T1).1).trans T1)
  have R6 := row_lat R5 hB6
  have B6 := Lib.hid (B5.trans (hB6.mono B5.size))
  have ND : (((Value.slice p' pl.length c').ownBlock.toList) ++ ((Value.slice q' l'.length d').ownBlock.toList ++ blocksL l')).Nodup := by
    rw [List.nodup_append]
    refine ⟨by cases (Value.slice p' pl.length c').ownBlock <;> simp, hnd, fun x hx y hy e => ?_⟩
    subst e
    have h1 := (R4.lt x (by simpa using hx)).2
    rcases List.mem_append.1 hy with h2 | h2
    · have := (hrow2.lt x (by simpa using h2)).1
      omega
    · unfold blocksL at h2
      rw [List.mem_flatten] at h2
      obtain ⟨bs, hbs, h3⟩ := h2
      obtain ⟨z, hz, rfl⟩ := List.mem_map.1 hbs
      have := (Holds.lt n z (hh z hz) x h3).1
      omega
  obtain ⟨t', e1, e2, e3, e4⟩ := FIN.out w6 (w.heap.size + 3) _ _ l' htr R6 (row_baseL hrow2 (by omega)) (fun x hx => Holds.base (by omega) n x (hh x hx)) ND
  have E1 := Lib.hid e1
  have E3 := Lib.hid e3
  have E4 := Lib.hid e4
  obtain ⟨_, _, _, _, _, _, _⟩ := seven_cells V2.out
  obtain ⟨_, _, _, _, _, _, _⟩ := seven_free V2.out
  obtain ⟨_, _, _, _, _, _, _⟩ := seven_cells V1.out
  obtain ⟨_, _, _, _, _, _, _⟩ := seven_free V1.out
  clear e1 e3 e4 ND hrow2 hh hnd hB6 R4 R5 R6 T1 T2 B5 B45 hne s3 S FIN htr G0 G1 G2 B4 ROW
  go_wp2_with fail
  have V3 : (w6.setCell ⟨w.heap.size + 1 + 1, 6, none⟩ (.slice q' l'.length d')).heap[w.heap.size + 1]? = _ := (heap_setCell_other w6 _ _ _ (by show w.heap.size + 1 ≠ w.heap.size + 1 + 1; omega)).trans V1.out
  have q := seven_cells (set_seven V3 (.string U1) (.string U2) (.slice p' pl.length c') (.int .i64 i1) (.int .i64 i2) (.int .i64 i3) (.slice q' l'.length d'))
  refine bodyPost_ret (v := .agg #[.string U1, .string U2, .slice p' pl.length c', .int .i64 i1, .int .i64 i2, .int .i64 i3, .slice q' l'.length d']) (by simp [results, Try.results26, go_sem, q.1, q.2.1, q.2.2.1, q.2.2.2.1, q.2.2.2.2.1, q.2.2.2.2.2.1, q.2.2.2.2.2.2]) rfl ⟨t', by rw [E1.out], e2, ?_, E4.out, ?_⟩
  · refine Holds.base (by omega) _ _ (Holds.kept _ _ E3.out (fun j hj => ?_))
    have hj2 := (Holds.lt _ _ E3.out j hj).1
    rw [heap_setCell_other _ _ _ _ (by show j ≠ w.heap.size + 1; omega), heap_six _ _ _ (by omega), heap_setCell_other _ _ _ _ (by show j ≠ w.heap.size + 1 + 1; omega)]
  · exact (below_six (B6.out.setCell (p := ⟨w.heap.size + 1 + 1, 6, none⟩) (by show w.heap.size ≤ w.heap.size + 1 + 1; omega) _) (by omega) _ _ _ _ _ _).setCell (p := ⟨w.heap.size + 1, 6, none⟩) (by show w.heap.size ≤ w.heap.size + 1; omega) _
end Go.Proofs.Ytjleadlecdcdeaa
