/-
  A range over a function whose iterator tells each round what may come next (Adm), and may turn what Tn says besides.
-/
import Derived.RangeFuncFrom
import Derived.RangeFuncWrites
import Derived.Lib.Hide
namespace Go.Proofs.Ytjleadlecdcdeaa
set_option linter.unusedVariables false
open Go Go.RowKit
variable {F : Fence} {n : Nat} {P : Program}

/-- New blocks, and one block from B on turned of which T holds: J doesn't mind. -/
def Unmoved {β : Type} (T : Obj → Prop) (B : Nat) (J : β → World → Prop) : Prop :=
  ∀ s W W' row, J s W → W.grownBy W' row → (∀ r, row = some r → B ≤ r ∧ ∃ o : Obj, W.heap[r]? = some o ∧ T o) → J s W'
theorem Unmoved.put {β : Type} {T : Obj → Prop} {B : Nat} {J : β → World → Prop} (h : Unmoved T B J) {s : β} {W : World} (k : J s W) {l : Nat} {o : Obj} (o' : Obj) (hl : W.heap[l]? = some o) (hB : B ≤ l) (hT : T o) : J s (W.putObj l o') :=
  h s W _ (some l) k (grownBy_putObj' W l o') (fun r e => by injection e with e; subst e; exact ⟨hB, o, hl, hT⟩)
theorem Unmoved.new {β : Type} {T : Obj → Prop} {B : Nat} {J : β → World → Prop} (h : Unmoved T B J) {s : β} {W : World} (k : J s W) (o : Obj) : J s (W.alloc o) :=
  h s W _ none k (World.grownBy_alloc W o none) (fun r e => by cases e)
theorem Unmoved.and {β : Type} {T : Obj → Prop} {B : Nat} {J K : β → World → Prop} (h : Unmoved T B J) (k : Unmoved T B K) : Unmoved T B (fun s W => J s W ∧ K s W) :=
  fun s W W' row hs hg hr => ⟨h s W W' row hs.1 hg hr, k s W W' row hs.2 hg hr⟩
/-- The iterator's contract. -/
def SeqAdm {α : Type} (Tn : Obj → Prop) (F : Fence) (n : Nat) (P : Program) (g : Nat) (lb : Array Value) (encs : α → Array Value) (Kp : World → World → Prop) (Adm : List α → α → World → Prop) (S Sp : List α → Prop) (w : World) : Prop :=
  ∀ (l : Nat) (J Jx : List α → World → Prop) (W : World), Below w.heap.size w W → Unmoved Tn W.heap.size J → Unmoved Tn W.heap.size Jx →
    (∀ pre x W1, J pre W1 → Adm pre x W1 → YieldAt F (n - 1) P l (encs x) W1 fun e W' =>
      (e = .returned (.bool true) ∧ J (pre ++ [x]) W' ∧ Kp W1 W') ∨ (e = .returned (.bool false) ∧ Jx (pre ++ [x]) W')) →
    J [] W →
    CallsIn F n P g (#[.func (.yield l) #[] #[]] ++ lb) W fun e W' => (∃ v, e = .returned v) ∧ ((∃ xs, S xs ∧ J xs W') ∨ (∃ pre, Sp pre ∧ Jx pre W'))
/-- What a round may turn, and the iterator. -/
def Aside (Tn : Obj → Prop) (o : Obj) : Prop := o.isCells = false ∨ Tn o

set_option maxHeartbeats 1000000 in
theorem wpIn_rangeAdm {α : Type} {Tn : Obj → Prop} {g : Operand} {ps : Array Tmp} {assign body : Code} {Q : Exit → Act → World → Prop} {a : Act} {w : World}
    (hro : F.round = none) (h1 : 1 ≤ n) {gf : Nat} {lb : Array Value} (hg : a.eval g = .func (.func gf) #[] lb) (hFg : F.fn gf) (eg : ∀ args w, (callFunc gf args).run P w = .ok (.enter gf args) w)
    {encs : α → Array Value} {Kp : World → World → Prop} {Adm : List α → α → World → Prop} {S Sp : List α → Prop} {w0 : World} (hseq : SeqAdm Tn F (n - 1) P gf lb encs Kp Adm S Sp w0)
    (hKt : ∀ {A B C : World}, Kp A B → Kp B C → Kp A C) (hKb : ∀ (W : World) (l : Nat) (o o' : Obj), w.heap.size ≤ l → W.heap[l]? = some o → o.isCells = false → o.isWalk = false → Kp W (W.putObj l o')) (hb0 : Below w0.heap.size w0 w) (hps : ∀ x, (encs x).size = ps.size)
    (hA : ∀ pre x (W : World) (l : Nat) (o o' : Obj), Adm pre x W → w.heap.size ≤ l → W.heap[l]? = some o → o.isCells = false → o'.isCells = false → Adm pre x (W.putObj l o'))
    (I : List α → World → Prop) (Ix : Code → List α → World → Prop) (hI : Unmoved (Aside Tn) w.heap.size I) (hIx : ∀ c, Unmoved (Aside Tn) w.heap.size (Ix c)) (h0 : I [] w) (a₁ : α → Act)
    (hassign : ∀ (l : Nat) (x : α) (W : World) (K : Act → World → Prop), K (a₁ x) W →
      assign.wpIn (F.inRound l) (n - 1 - 1) P (Exit.then K (fun _ _ _ => False)) { tmps := (ps.zip (encs x)).foldl (fun t (p, v) => t.setIfInBounds p v) a.tmps, defers := [] } W)
    (hbody : ∀ (l : Nat) (pre : List α) (x : α) (W : World), I pre W → Adm pre x W → body.wpIn (F.inRound l) (n - 1 - 1) P (ownPostK Kp I Ix (pre ++ [x]) W) (a₁ x) W)
    (hdone : ∀ (D : Nat) (xs : List α) (W : World), w.heap.size ≤ D → S xs → I xs W → W.heap[D]? = some (.deferred (some [])) → Q .normal { a with defers := { target := .collected D, args := #[] } :: a.defers } W)
    (hstop : ∀ (D : Nat) (c : Code) (pre : List α) (W : World), w.heap.size ≤ D → Sp pre → Ix c pre W → W.heap[D]? = some (.deferred (some [])) → c.wpIn F n P Q { a with defers := { target := .collected D, args := #[] } :: a.defers } W) :
    (Code.rangeFunc g ps assign body).wpIn F n P Q a w := by
  apply wpIn_rangeFunc
  intro fn hfn
  let rc : LoopState → Option Code → Loop := fun st pe => { state := st, pending := pe, fn, tmps := a.tmps, params := ps, assign, body, defers := w.heap.size }
  have hrun := run_enterLoop_outer (P := P) (w := w) fn a.tmps ps assign body
  rw [← hro] at hrun
  -- the two blocks: of the deferred calls (d), of the record (r)
  have new1 := World.alloc_heap_new w (.deferred (some []))
  have new2 := World.alloc_heap_new (w.alloc (.deferred (some []))) (.loop (rc .ready none))
  have at1 : ((w.alloc (.deferred (some []))).alloc (.loop (rc .ready none))).heap[w.heap.size]? = some (.deferred (some [])) := by
    rw [Below.heap_alloc _ _ _ (by rw [World.size_alloc]; omega)]
    exact new1
  have I1 : I [] ((w.alloc (.deferred (some []))).alloc (.loop (rc .ready none))) := hI.new (hI.new h0 _) _
  have B1 : Below w0.heap.size w0 ((w.alloc (.deferred (some []))).alloc (.loop (rc .ready none))) := (hb0.alloc hb0.size _).alloc (Nat.le_trans hb0.size (by rw [World.size_alloc]; omega)) _
  have s1 : ((w.alloc (.deferred (some []))).alloc (.loop (rc .ready none))).heap.size = w.heap.size + 2 := by rw [World.size_alloc, World.size_alloc]
  rw [World.size_alloc] at new2
  obtain ⟨V, hV⟩ : ∃ V, (w.alloc (.deferred (some []))).alloc (.loop (rc .ready none)) = V := ⟨_, rfl⟩
  change _ = Result.ok _ ((w.alloc (.deferred (some []))).alloc (.loop (rc .ready none))) at hrun
  rw [hV] at hrun new2 at1 I1 B1 s1
  -- the bookkeeping beside an invariant
  have book : ∀ (rr : Loop) {J : List α → World → Prop}, Unmoved (Aside Tn) w.heap.size J → Unmoved Tn V.heap.size (fun s W => J s W ∧ W.heap[w.heap.size + 1]? = some (.loop rr) ∧ W.heap[w.heap.size]? = some (.deferred (some []))) := by
    intro rr J hJ s A B row ⟨k1, k2, k3⟩ hgr hrow
    have keep : ∀ j, j < w.heap.size + 2 → j < A.heap.size → B.heap[j]? = A.heap[j]? := fun j hj hlt => hgr.block j hlt (fun e => by
      have := (hrow j e.symm).1
      omega)
    refine ⟨hJ s A B row k1 hgr (fun r e => ?_), ?_, ?_⟩
    · obtain ⟨q1, o, q2, q3⟩ := hrow r e
      exact ⟨by omega, o, q2, .inr q3⟩
    · rw [keep _ (by omega) (Array.getElem?_eq_some_iff.1 k2).1]
      exact k2
    · rw [keep _ (by omega) (Array.getElem?_eq_some_iff.1 k3).1]
      exact k3
  refine ⟨_, _, V, { target := .fn (.func gf) lb, args := #[.func (.yield (w.heap.size + 1)) #[] #[]] }, V, gf, #[.func (.yield (w.heap.size + 1)) #[] #[]] ++ lb, V, hrun, ?_, ?_, ?_, fun _ => h1, ?_⟩
  · simp only [resolve, hg]
    simp [go_sem]
  · intro f' hf'
    simp [Target.leads] at hf'
    rw [← hf']
    exact hFg
  · simp [invoke, go_sem, eg]
  have called := hseq (w.heap.size + 1)
    (fun pre W => I pre W ∧ W.heap[w.heap.size + 1]? = some (.loop (rc .ready none)) ∧ W.heap[w.heap.size]? = some (.deferred (some [])))
    (fun pre W => ∃ c, Ix c pre W ∧ W.heap[w.heap.size + 1]? = some (.loop (rc .done (some c))) ∧ W.heap[w.heap.size]? = some (.deferred (some [])))
    V B1 (book _ hI) (fun s A B row hs hgr hrow => by
      obtain ⟨c, hc⟩ := hs
      exact ⟨c, book (rc .done (some c)) (hIx c) s A B row hc hgr hrow⟩)
  refine (called ?_ ⟨I1, new2, at1⟩).mono ?_
  · rintro pre x W ⟨hi, hrec, hdef⟩ hadm
    have lt2 : w.heap.size + 1 < W.heap.size := (Array.getElem?_eq_some_iff.1 hrec).1
    have hyield := run_yield (P := P) (args := encs x) hrec (hps x)
    refine ⟨fn, _, assign, body, hyield, roundIn_of_wpIn hfn (hassign _ x W _ ⟨_, run_beginRound hrec rfl, ?_⟩)⟩
    have bz1 : (W.putObj (w.heap.size + 1) (.loop { rc .ready none with state := .busy })).heap[w.heap.size + 1]? = some (.loop { rc .ready none with state := .busy }) := World.putObj_heap_same lt2
    have bz2 : (W.putObj (w.heap.size + 1) (.loop { rc .ready none with state := .busy })).heap[w.heap.size]? = some (.deferred (some [])) := (World.putObj_heap_other (by omega)).trans hdef
    have kp0 := hKb W (w.heap.size + 1) _ (.loop { rc .ready none with state := .busy }) (by omega) hrec rfl rfl
    have walked := hbody (w.heap.size + 1) pre x _ (hI.put hi (.loop { rc .ready none with state := .busy }) hrec (by omega) (.inl rfl)) (hA pre x W _ _ (.loop { rc .ready none with state := .busy }) hadm (by omega) hrec rfl rfl)
    change Kp W (W.putObj (w.heap.size + 1) (.loop { rc .ready none with state := .busy })) at kp0
    obtain ⟨U, hU⟩ : ∃ U, W.putObj (w.heap.size + 1) (.loop { rc .ready none with state := .busy }) = U := ⟨_, rfl⟩
    change body.wpIn _ _ P _ _ (W.putObj (w.heap.size + 1) (.loop { rc .ready none with state := .busy }))
    rw [hU] at bz1 bz2 kp0 walked ⊢
    -- a round's end, by the jump that is pending
    have ends : ∀ (jump : Option Code) (W3 : World), KeepsOthers U W3 →
        (Instr.endRound (w.heap.size + 1) jump).run P W3 = .ok (.bool jump.isNone) (W3.putObj (w.heap.size + 1) (.loop (rc (if jump.isNone then .ready else .done) jump))) ∧
        W3.heap[w.heap.size + 1]? = some (.loop { rc .ready none with state := .busy }) ∧
        (W3.putObj (w.heap.size + 1) (.loop (rc (if jump.isNone then .ready else .done) jump))).heap[w.heap.size + 1]? = some (.loop (rc (if jump.isNone then .ready else .done) jump)) ∧
        (W3.putObj (w.heap.size + 1) (.loop (rc (if jump.isNone then .ready else .done) jump))).heap[w.heap.size]? = some (.deferred (some [])) := by
      intro jump W3 hk
      have e1 := hk.same _ _ bz1 rfl
      have e2 := hk.same _ _ bz2 rfl
      exact ⟨run_endRound (P := P) jump e1, e1, World.putObj_heap_same (Array.getElem?_eq_some_iff.1 e1).1, (World.putObj_heap_other (by omega)).trans e2⟩
    refine wpIn_mono walked ?_
    intro e a3 W3 hp
    cases e with
    | normal =>
      obtain ⟨hk, hkp, hj⟩ := hp
      obtain ⟨r1, r2, r3, r4⟩ := ends none W3 hk
      exact ⟨_, _, r1, .inl ⟨rfl, ⟨hI.put hj _ r2 (by omega) (.inl rfl), r3, r4⟩, hKt (hKt kp0 hkp) (hKb _ _ _ _ (by omega) r2 rfl rfl)⟩⟩
    | ret =>
      obtain ⟨r1, r2, r3, r4⟩ := ends (some .ret) W3 hp.1
      exact ⟨_, _, r1, .inr ⟨rfl, .ret, (hIx _).put hp.2 _ r2 (by omega) (.inl rfl), r3, r4⟩⟩
    | exit id =>
      obtain ⟨r1, r2, r3, r4⟩ := ends (some (.exit id)) W3 hp.1
      exact ⟨_, _, r1, .inr ⟨rfl, .exit id, (hIx _).put hp.2 _ r2 (by omega) (.inl rfl), r3, r4⟩⟩
    | goto t =>
      obtain ⟨r1, r2, r3, r4⟩ := ends (some (.goto t)) W3 hp.1
      exact ⟨_, _, r1, .inr ⟨rfl, .goto t, (hIx _).put hp.2 _ r2 (by omega) (.inl rfl), r3, r4⟩⟩
    | panic ch => exact hp.elim
    | outgrown => exact hp.elim
  · rintro e W2 ⟨⟨v, rfl⟩, hh⟩
    rcases hh with ⟨xs, hS, hi, hl, hk⟩ | ⟨pre, hSp, c, hi, hl, hk⟩
    · have r := run_endLoop (P := P) hl (by simp [rc])
      exact ⟨none, _, r, hdone _ xs _ (Nat.le_refl _) hS (hI.put hi _ hl (by omega) (.inl rfl)) ((World.putObj_heap_other (by omega)).trans hk)⟩
    · have r := run_endLoop (P := P) hl (by simp [rc])
      exact ⟨some c, _, r, hstop _ c pre _ (Nat.le_refl _) hSp ((hIx c).put hi _ hl (by omega) (.inl rfl)) ((World.putObj_heap_other (by omega)).trans hk)⟩
end Go.Proofs.Ytjleadlecdcdeaa
