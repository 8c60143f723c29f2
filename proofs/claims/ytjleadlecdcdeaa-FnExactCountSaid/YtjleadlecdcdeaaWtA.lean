/-
  Parts in typed memory: what an iterator over them reads. Plain.
-/
import Derived.Test.YtjleadlecdcdeaaPtC
import Derived.Test.YtjleadlecdcdeaaRng
import Derived.LoopNIn
namespace Go.Proofs.Ytjleadlecdcdeaa
set_option linter.unusedVariables false
open Go.RowKit

/-- A slice at which parts lie, in a block of parts. -/
def RowP (W : World) (v : Value) (l : List Lt) : Prop :=
  (l = [] ∧ ∃ p c, v = .slice p 0 c) ∨ ∃ g o c cs fr, v = .slice (some ⟨g, o * 7, none⟩) l.length c ∧ W.heap[g]? = some (.cells cs 29 fr) ∧ ∀ k, (h : k < l.length) → ∀ j, j < 7 → cs[(o + k) * 7 + j]? = l[k].cells[j]?
def Ty (W : World) : Nat → Lt → Prop
  | 0, _ => False
  | n + 1, t => RowP W t.kv t.kids ∧ ∀ x ∈ t.kids, Ty W n x
/-- A part of size s lies at a. -/
def PtAt (W : World) (a : Addr) (s : Nat) : Prop :=
  ∃ g o cs fr t n, a = ⟨g, o * 7, none⟩ ∧ W.heap[g]? = some (.cells cs 29 fr) ∧ (∀ j, j < 7 → cs[o * 7 + j]? = t.cells[j]?) ∧ Ty W n t ∧ t.size = s
/-- What is a block of parts stays as it is. -/
def PartsStay (W W' : World) : Prop := ∀ (g : Nat) (cs : Array Value) (fr : Nat × Nat), W.heap[g]? = some (Obj.cells cs 29 fr) → W'.heap[g]? = some (Obj.cells cs 29 fr)
theorem RowP.stay {W W' : World} (h : PartsStay W W') {v : Value} {l : List Lt} (k : RowP W v l) : RowP W' v l := by
  rcases k with k | ⟨g, o, c, cs, fr, h1, h2, h3⟩
  · exact .inl k
  · exact .inr ⟨g, o, c, cs, fr, h1, h _ _ _ h2, h3⟩
theorem Ty.stay {W W' : World} (h : PartsStay W W') : ∀ (n : Nat) (t : Lt), Ty W n t → Ty W' n t
  | 0, _, k => k.elim
  | n + 1, t, k => ⟨k.1.stay h, fun x hx => Ty.stay h n x (k.2 x hx)⟩
theorem PtAt.stay {W W' : World} (h : PartsStay W W') {a : Addr} {s : Nat} (k : PtAt W a s) : PtAt W' a s := by
  obtain ⟨g, o, cs, fr, t, n, h1, h2, h3, h4, h5⟩ := k
  exact ⟨g, o, cs, fr, t, n, h1, h _ _ _ h2, h3, Ty.stay h n t h4, h5⟩
theorem partsStay_grown {W W' : World} {row : Option Nat} (hg : W.grownBy W' row) (hr : ∀ r, row = some r → ∃ o : Obj, W.heap[r]? = some o ∧ ∀ (cs : Array Value) (fr : Nat × Nat), o ≠ Obj.cells cs 29 fr) : PartsStay W W' := fun g cs fr h => by
  refine (hg.block g (Array.getElem?_eq_some_iff.1 h).1 (fun e => ?_)).trans h
  obtain ⟨o, ho, hne⟩ := hr g e.symm
  rw [h] at ho
  cases ho
  exact hne _ _ rfl
/-- Where the kids of the part at a lie. -/
def kidsOf (W : World) (a : Addr) : List Addr := match W.cell? ⟨a.block, a.off + 6, none⟩ with
  | some (.slice (some b) n _) => (List.range n).map (fun i => (⟨b.block, b.off + i * 7, none⟩ : Addr))
  | _ => []
/-- The sum of sizes. -/
def sumP (l : List (Addr × Nat)) : Nat := (l.map (·.2)).foldr (· + ·) 0
theorem sumP_append (a b : List (Addr × Nat)) : sumP (a ++ b) = sumP a + sumP b := by
  induction a with
  | nil => simp [sumP]
  | cons x r ih =>
    show x.2 + sumP (r ++ b) = (x.2 + sumP r) + sumP b
    omega
theorem sumP_rev (a : List (Addr × Nat)) : sumP a.reverse = sumP a := by
  induction a with
  | nil => rfl
  | cons x r ih =>
    rw [List.reverse_cons, sumP_append, ih]
    show sumP r + (x.2 + 0) = x.2 + sumP r
    omega
theorem sizesL_map (l : List Lt) (f : Nat → Addr) : sumP ((List.range l.length).map (fun i => (f i, (l[i]?.map Lt.size).getD 0))) = sizesL l := by
  have : (List.range l.length).map (fun i => (l[i]?.map Lt.size).getD 0) = l.map Lt.size := by
    apply List.ext_getElem
    · simp
    · intro i h1 h2
      have : i < l.length := by simpa using h1
      simp [List.getElem?_eq_getElem this]
  unfold sumP sizesL
  rw [List.map_map, ← this]
  rfl
/-- The part at a, and its kids. -/
theorem pt_kids {W : World} {a : Addr} {s : Nat} (h : PtAt W a s) : ∃ (p : Option Addr) (n c : Nat) (ks : List (Addr × Nat)), W.cell? ⟨a.block, a.off + 6, none⟩ = some (.slice p n c) ∧ ks.length = n ∧ (∀ q ∈ ks, PtAt W q.1 q.2) ∧ s = 1 + sumP ks ∧ kidsOf W a = ks.map (·.1) ∧
    (0 < n → ∃ g o, p = some ⟨g, o, none⟩ ∧ ∀ i, i < n → (ks.map (·.1))[i]? = some ⟨g, o + i * 7, none⟩) ∧ a.spot = none := by
  obtain ⟨g, o, cs, fr, t, m, rfl, h2, h3, h4, h5⟩ := h
  cases m with
  | zero => exact h4.elim
  | succ m =>
    obtain ⟨hr, hk⟩ := h4
    have hc : W.cell? ⟨g, o * 7 + 6, none⟩ = some t.kv := by
      simp [World.cell?, h2]
      rw [h3 6 (by omega)]
      rfl
    rw [t.size_eq] at h5
    rcases hr with ⟨hnil, p, c, hv⟩ | ⟨g2, o2, c, cs2, fr2, hv, q2, q3⟩
    · refine ⟨p, 0, c, [], by rw [hc, hv], rfl, ?_, ?_, ?_, fun h => absurd h (by omega), rfl⟩
      · intro q hq
        cases hq
      · rw [← h5, hnil]
        rfl
      · unfold kidsOf
        rw [hc, hv]
        cases p <;> rfl
    · refine ⟨some ⟨g2, o2 * 7, none⟩, t.kids.length, c, (List.range t.kids.length).map (fun i => ((⟨g2, o2 * 7 + i * 7, none⟩ : Addr), (t.kids[i]?.map Lt.size).getD 0)), by rw [hc, hv], by simp, fun q hq => ?_, by rw [sizesL_map, h5], ?_, fun _ => ⟨g2, o2 * 7, rfl, fun i hi => ?_⟩, rfl⟩
      · obtain ⟨i, hi, rfl⟩ := List.mem_map.1 hq
        have hi2 : i < t.kids.length := by simpa using hi
        simp only [List.getElem?_eq_getElem hi2, Option.map_some, Option.getD_some]
        exact ⟨g2, o2 + i, cs2, fr2, t.kids[i], m, by rw [Nat.add_mul], q2, q3 i hi2, hk _ (List.getElem_mem hi2), rfl⟩
      · unfold kidsOf
        rw [hc, hv]
        simp
      · rw [List.getElem?_map, List.getElem?_map, List.getElem?_range hi]
        rfl
theorem sumP_len : ∀ l : List (Addr × Nat), (∀ q ∈ l, 1 ≤ q.2) → l.length ≤ sumP l
  | [], _ => Nat.le_refl _
  | a :: r, h => by
    have h1 := sumP_len r (fun q hq => h q (by simp [hq]))
    have h2 := h a (by simp)
    show r.length + 1 ≤ a.2 + sumP r
    omega
theorem pt_pos {W : World} {a : Addr} {s : Nat} (h : PtAt W a s) : 1 ≤ s := by
  obtain ⟨_, _, _, ks, _, _, _, h4, _⟩ := pt_kids h
  omega
theorem PtAt.cell {W W' : World} (h : PartsStay W W') {a : Addr} {s : Nat} (k : PtAt W a s) (j : Nat) : W'.cell? ⟨a.block, j, none⟩ = W.cell? ⟨a.block, j, none⟩ := by
  obtain ⟨g, o, cs, fr, t, n, rfl, h2, _⟩ := k
  simp only [World.cell?, h2, h _ _ _ h2]
theorem PtAt.kids {W W' : World} (h : PartsStay W W') {a : Addr} {s : Nat} (k : PtAt W a s) : kidsOf W' a = kidsOf W a := by
  unfold kidsOf
  rw [k.cell h]
theorem PartsStay.trans {A B C : World} (h : PartsStay A B) (k : PartsStay B C) : PartsStay A C := fun g cs fr q => k g cs fr (h g cs fr q)
/-- What is still to come, top first. -/
def sig (root : Addr) (pre : List (Addr × List Addr)) (W : World) : List Addr := match pre.getLast? with
  | none => [root]
  | some x => (kidsOf W x.1).reverse ++ x.2
theorem sig_snoc (root : Addr) (pre : List (Addr × List Addr)) (x : Addr × List Addr) (W : World) : sig root (pre ++ [x]) W = (kidsOf W x.1).reverse ++ x.2 := by simp [sig]
/-- A loop by a measure that no frame bears. -/
theorem loop_ghost {F : Fence} {n : Nat} {P : Program} {c : Code} {Q : Exit → Act → World → Prop} (Inv : Nat → Act → World → Prop)
    (h : ∀ m a w, Inv m a w → c.wpIn F n P (Exit.then (fun a' w' => ∃ m', m' < m ∧ Inv m' a' w') Q) a w) {m : Nat} {a : Act} {w : World} (h0 : Inv m a w) : (Code.loop c).wpIn F n P Q a w := by
  have key : ∀ k m a w, m ≤ k → Inv m a w → Code.roundsIn F n P c Q (k + 1) a w := by
    intro k
    induction k with
    | zero =>
      intro m a w hm hi
      rw [roundsIn_succ]
      refine wpIn_mono (h m a w hi) (fun e a' w' q => ?_)
      cases e <;> first | exact q | (obtain ⟨m', h1, _⟩ := q; omega)
    | succ k ih =>
      intro m a w hm hi
      rw [roundsIn_succ]
      refine wpIn_mono (h m a w hi) (fun e a' w' q => ?_)
      cases e <;> first | exact q | (obtain ⟨m', h1, h2⟩ := q; exact ih m' a' w' (by omega) h2)
  exact wpIn_loop_rounds (m + 1) (key m m a w (Nat.le_refl _) h0)
/-- One value in a row of its own. -/
theorem row_lit1 (W : World) (x : Value) (T : TypeId) : (W.alloc (.cells #[x] T)).ownsRow W.heap.size T 1 (.slice (some ⟨W.heap.size, 0, none⟩) 1 1) 1 [x] :=
  ⟨rfl, .inr ⟨W.heap.size, 1, #[x], rfl, Nat.le_refl _, World.alloc_heap_new W _, Nat.le_refl _, by decide, rfl, rfl⟩⟩
/-- A row without its last value. -/
theorem row_pop {W : World} {B : Nat} {T : TypeId} {p : Option Addr} {n c : Nat} {xs : List Value} {x : Value} (h : W.ownsRow B T 1 (.slice p (n + 1) c) (n + 1) (xs ++ [x])) : W.ownsRow B T 1 (.slice p n c) n xs := by
  obtain ⟨h1, h2⟩ := h
  rw [List.length_append] at h1
  simp at h1
  rcases h2 with ⟨e, _⟩ | ⟨g, cap, cur, e, hb, hg, hn, hc, hs, ht⟩
  · cases e
  · injection e with e1 e2 e3
    subst e1 e3
    have hx : xs.length = n := by omega
    refine ⟨by omega, .inr ⟨g, c, cur, rfl, hb, hg, by omega, hc, hs, ?_⟩⟩
    have h2 := congrArg (List.take n) ht
    rw [List.take_take, Nat.mul_one, Nat.min_eq_left (by omega)] at h2
    rw [Nat.mul_one, h2, List.take_left' hx]
end Go.Proofs.Ytjleadlecdcdeaa
