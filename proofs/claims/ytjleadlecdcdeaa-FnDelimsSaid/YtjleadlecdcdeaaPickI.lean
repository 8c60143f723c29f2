/-
  The draws: one of a list of integers.
-/
import Derived.Test.YtjleadlecdcdeaaPickA
namespace Go.Proofs.Ytjleadlecdcdeaa
set_option linter.unusedVariables false
open Go.RowKit

/-- An int for which p holds is drawn by a cursor that goes on. -/
def DrawnInt (K : Code) (w0 : World) (g : Nat) (p : Int → Prop) (w : World) (e : Ending) (w' : World) : Prop :=
  ∃ (x : Int) (i' : Nat) (h' : Int), e = .returned (.int .i64 x) ∧ p x ∧ Cur K w0 w' g i' h' ∧ w.grownBy w' (some g)

set_option maxRecDepth 100000 in
set_option maxHeartbeats 400000 in
theorem pickInt_any {K : Code} {w0 w : World} {g i : Nat} {h : Int} (c : Cur K w0 w g i h) (v : Value) (L : List Int) (p : Int → Prop) (hp : ∀ x ∈ L, p x) (hv : ValsAt w v (L.map (Value.int .i64))) (hne : v.ownBlock ≠ some g) (h1 : 0 < L.length) (h2 : L.length ≤ 1000) :
    Calls Try.prog 39 #[.pointer (some ⟨g, 0, none⟩), v] w (DrawnInt K w0 g p w) := by
  rcases hv with ⟨h, _⟩ | ⟨gl, cap, rfl, hgl, hc⟩
  · have := congrArg List.length h
    rw [List.length_map] at this
    simp only [List.length_nil] at this
    omega
  have hgg : gl ≠ g := fun e => hne (by rw [e]; rfl)
  simp only [List.length_map] at hc ⊢
  have C := Lib.hid c
  have HC := Lib.hid hc
  clear c hc hne
  go_enter Try.func39, Try.ntmps39
  go_wp2_with fail
  refine (below_any C.out L.length (by omega) (by omega)).mono ?_
  rintro e w1 ⟨x0, i1, h1', rfl, hx0, hx1, hc1, hg1, _⟩
  obtain ⟨x, rfl⟩ := Int.eq_ofNat_of_zero_le hx0
  have hxl : x < L.length := by omega
  have hcell : w1.cell? ⟨gl, x, none⟩ = some (.int .i64 L[x]) := by
    have hb : w1.heap[gl]? = w.heap[gl]? := hg1.block gl hgl (fun e => hgg (Option.some.inj e))
    have := (HC.out x hxl).1
    simp only [World.cell?, hb] at this ⊢
    rw [this, List.getElem?_map, List.getElem?_eq_getElem hxl]
    rfl
  have hmem : p L[x] := hp _ (List.getElem_mem _)
  generalize L[x] = s at hcell hmem
  have HC1 := Lib.hid hc1
  have HG1 := Lib.hid hg1
  have HP := Lib.hid hmem
  clear hc1 hg1 hmem
  go_wp2_with fail
  go_ret
  exact ⟨s, i1, h1', rfl, HP.out, HC1.out, HG1.out⟩

theorem pickInt_lit {K : Code} {w0 w : World} {g i : Nat} {h : Int} (c : Cur K w0 w g i h) (L : List Int) (p : Int → Prop) (hp : ∀ x ∈ L, p x) {cs : Array Value} {n cap : Nat} (hcs : cs.toList = L.map (Value.int .i64)) (hn : n = L.length) (h0 : 0 < n) (h9 : n ≤ 1000) :
    Calls Try.prog 39 #[.pointer (some ⟨g, 0, none⟩), .slice (some ⟨w.heap.size, 0, none⟩) n cap] (w.alloc (.cells cs 3)) (DrawnInt K w0 g p w) := by
  have hv := valsAt_new w (L.map (Value.int .i64)) 3 n cap (by simp [hn])
  rw [← hcs] at hv
  simp only [Array.toArray_toList] at hv
  rw [hcs] at hv
  have hcl := c.lt
  refine (pickInt_any (c.alloc _) _ L p hp hv (by simp [Value.ownBlock]; omega) (by omega) (by omega)).mono ?_
  rintro e w' ⟨s, i', h', e1, e2, e3, e4⟩
  exact ⟨s, i', h', e1, e2, e3, grownBy_trans (World.grownBy_alloc _ _ _) e4⟩
end Go.Proofs.Ytjleadlecdcdeaa
