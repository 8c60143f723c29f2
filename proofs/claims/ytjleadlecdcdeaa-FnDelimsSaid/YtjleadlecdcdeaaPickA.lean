/-
  The draws: one of a list, once in so many.
-/
import Derived.Test.YtjleadlecdcdeaaDrawB
import Derived.Test.YtjleadlecdcdeaaVals
namespace Go.Proofs.Ytjleadlecdcdeaa
set_option linter.unusedVariables false
open Go.RowKit

/-- One of the texts L is drawn. -/
def DrawnPick (K : Code) (w0 : World) (g : Nat) (L : List ByteArray) (w : World) (e : Ending) (w' : World) : Prop :=
  ∃ (s : ByteArray) (i' : Nat) (h' : Int), e = .returned (.string s) ∧ s ∈ L ∧ Cur K w0 w' g i' h' ∧ w.grownBy w' (some g)

set_option maxRecDepth 100000 in
set_option maxHeartbeats 400000 in
theorem pick_any {K : Code} {w0 w : World} {g i : Nat} {h : Int} (c : Cur K w0 w g i h) (v : Value) (L : List ByteArray) (hv : ValsAt w v (L.map Value.string)) (hne : v.ownBlock ≠ some g) (h1 : 0 < L.length) (h2 : L.length ≤ 1000) :
    Calls Try.prog 47 #[.pointer (some ⟨g, 0, none⟩), v] w (DrawnPick K w0 g L w) := by
  rcases hv with ⟨h, _⟩ | ⟨gl, cap, rfl, hgl, hc⟩
  · have := congrArg List.length h
    rw [List.length_map] at this
    simp only [List.length_nil] at this
    omega
  have hgg : gl ≠ g := fun e => hne (by rw [e]; rfl)
  simp only [List.length_map] at hc ⊢
  have C := Lib.hid c
  have HC := Lib.hid hc
  clear c hc hne
  go_enter Try.func47, Try.ntmps47
  go_wp2_with fail
  refine (below_any C.out L.length (by omega) (by omega)).mono ?_
  rintro e w1 ⟨x0, i1, h1', rfl, hx0, hx1, hc1, hg1, _⟩
  obtain ⟨x, rfl⟩ := Int.eq_ofNat_of_zero_le hx0
  have hxl : x < L.length := by omega
  have hcell : w1.cell? ⟨gl, x, none⟩ = some (.string L[x]) := by
    have hb : w1.heap[gl]? = w.heap[gl]? := hg1.block gl hgl (fun e => hgg (Option.some.inj e))
    have := (HC.out x hxl).1
    simp only [World.cell?, hb] at this ⊢
    rw [this, List.getElem?_map, List.getElem?_eq_getElem hxl]
    rfl
  have hmem : L[x] ∈ L := List.getElem_mem _
  generalize L[x] = s at hcell hmem
  have HC1 := Lib.hid hc1
  have HG1 := Lib.hid hg1
  clear hc1 hg1
  go_wp2_with fail
  go_ret
  exact ⟨s, i1, h1', rfl, hmem, HC1.out, HG1.out⟩

theorem valsAt_new (w : World) (l : List Value) (T : TypeId) (n cap : Nat) (hn : n = l.length) : ValsAt (w.alloc (.cells l.toArray T)) (.slice (some ⟨w.heap.size, 0, none⟩) n cap) l := by
  subst hn
  refine .inr ⟨_, cap, rfl, by simp, fun j hj => ⟨?_, ?_⟩⟩
  · simp
  · exact World.frozen?_alloc_new _ _ _ _

/-- A text of at most m bytes is drawn by a cursor that goes on. -/
def DrawnStr (K : Code) (w0 : World) (g m : Nat) (w : World) (e : Ending) (w' : World) : Prop :=
  ∃ (s : ByteArray) (i' : Nat) (h' : Int), e = .returned (.string s) ∧ s.size ≤ m ∧ Cur K w0 w' g i' h' ∧ w.grownBy w' (some g)

def allStr (m : Nat) (cs : Array Value) : Bool := cs.toList.all fun v => match v with | .string s => decide (s.size ≤ m) | _ => false
theorem allStr_list : ∀ (l : List Value) (m : Nat), (l.all fun v => match v with | .string s => decide (s.size ≤ m) | _ => false) = true → ∃ L : List ByteArray, l = L.map Value.string ∧ ∀ s ∈ L, s.size ≤ m
  | [], _, _ => ⟨[], rfl, by simp⟩
  | v :: l, m, h => by
    rw [List.all_cons, Bool.and_eq_true] at h
    obtain ⟨L, h1, h2⟩ := allStr_list l m h.2
    cases v with
    | string s => exact ⟨s :: L, by rw [h1]; rfl, by
        intro t ht
        rcases List.mem_cons.1 ht with rfl | ht
        · simpa using h.1
        · exact h2 t ht⟩
    | _ => simp at h

/-- One of a literal list, just laid. -/
theorem pick_lit {K : Code} {w0 w : World} {g i : Nat} {h : Int} (c : Cur K w0 w g i h) (m : Nat) {cs : Array Value} {n cap : Nat} (hall : allStr m cs = true) (hn : n = cs.size) (h0 : 0 < n) (h9 : n ≤ 1000) :
    Calls Try.prog 47 #[.pointer (some ⟨g, 0, none⟩), .slice (some ⟨w.heap.size, 0, none⟩) n cap] (w.alloc (.cells cs 9)) (DrawnStr K w0 g m w) := by
  obtain ⟨L, h1, h2⟩ := allStr_list _ _ hall
  have hL : L.length = n := by
    have := congrArg List.length h1
    simp at this; omega
  have hv := valsAt_new w (L.map Value.string) 9 n cap (by simp [hL])
  rw [← h1] at hv
  simp only [Array.toArray_toList] at hv
  rw [h1] at hv
  have hcl := c.lt
  refine (pick_any (c.later ((Below.refl _ _).alloc (Nat.le_refl _) _)) _ L hv (by simp [Value.ownBlock]; omega) (by omega) (by omega)).mono ?_
  rintro e w' ⟨s, i', h', e1, e2, e3, e4⟩
  exact ⟨s, i', h', e1, h2 s e2, e3, grownBy_trans (World.grownBy_alloc _ _ _) e4⟩

theorem Cur.alloc {K : Code} {w0 w : World} {g i : Nat} {h : Int} (c : Cur K w0 w g i h) (o : Obj) : Cur K w0 (w.alloc o) g i h := c.later ((Below.refl _ _).alloc (Nat.le_refl _) _)
/-- The cursor's steps leave what lay ahead of the cursor. -/
theorem below_step {w w1 w2 : World} {g : Nat} (hb : Below w.heap.size w w1) (hg : w1.grownBy w2 (some g)) (h : w.heap.size ≤ g) : Below w.heap.size w w2 :=
  hb.grown hg hb.size (fun k e => by cases e; exact h)
end Go.Proofs.Ytjleadlecdcdeaa
