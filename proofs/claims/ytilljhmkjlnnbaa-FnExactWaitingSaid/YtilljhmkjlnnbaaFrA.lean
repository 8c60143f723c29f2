/-
  Framers: a Framer as a value; the walks of the laws' toFramer and szFramer.
-/
import Derived.Test.YtilljhmkjlnnbaaRows
import Derived.WalkKit
import Derived.WalkSpells
import Derived.Lib.Hide
namespace Go.Proofs.Ytilljhmkjlnnbaa
set_option linter.unusedVariables false
open Go.RowKit

structure Fr where
  line : ByteArray
  frm : Int
  need : Int
  skip : Int
  drop : Bool
def Fr.val (f : Fr) : Value := .agg #[.string f.line, .int .i64 f.frm, .int .i64 f.need, .int .i64 f.skip, .bool f.drop]

/-- What every Framer that came in has. -/
def Fr.Ok (f : Fr) : Prop := f.line.size ≤ maxLen ∧ (Lit.int .i64 f.frm).wf = true ∧ (Lit.int .i64 f.need).wf = true ∧ (Lit.int .i64 f.skip).wf = true

/-- A Framer lies in block g. -/
structure FrBox (w : World) (g : Nat) (T : TypeId) (f : Fr) : Prop where
  cell : w.heap[g]? = some (.cells #[.string f.line, .int .i64 f.frm, .int .i64 f.need, .int .i64 f.skip, .bool f.drop] T (0, 0))
theorem FrBox.lt {w : World} {g : Nat} {T : TypeId} {f : Fr} (h : FrBox w g T f) : g < w.heap.size := (Array.getElem?_eq_some_iff.1 h.cell).1
theorem FrBox.cells {w : World} {g : Nat} {T : TypeId} {f : Fr} (h : FrBox w g T f) :
    w.cell? ⟨g, 0, none⟩ = some (.string f.line) ∧ w.cell? ⟨g, 1, none⟩ = some (.int .i64 f.frm) ∧ w.cell? ⟨g, 2, none⟩ = some (.int .i64 f.need) ∧ w.cell? ⟨g, 3, none⟩ = some (.int .i64 f.skip) ∧ w.cell? ⟨g, 4, none⟩ = some (.bool f.drop) := by
  have hg := h.cell
  refine ⟨by simp [World.cell?, hg], by simp [World.cell?, hg], by simp [World.cell?, hg], by simp [World.cell?, hg], by simp [World.cell?, hg]⟩
theorem FrBox.later {w w' : World} {g : Nat} {T : TypeId} {f : Fr} (h : FrBox w g T f) (hb : Below w.heap.size w w') : FrBox w' g T f := ⟨(hb.block g h.lt).trans h.cell⟩
theorem FrBox.new (w : World) (T : TypeId) (f : Fr) : FrBox (w.alloc (.cells #[.string f.line, .int .i64 f.frm, .int .i64 f.need, .int .i64 f.skip, .bool f.drop] T)) w.heap.size T f := ⟨heap_alloc_new _ _⟩
theorem second_block (w : World) (A B C : Obj) : (((w.alloc A).alloc B).alloc C).heap[w.heap.size + 1]? = some B := by
  rw [Below.heap_alloc _ _ _ (by simp)]
  have := heap_alloc_new (w.alloc A) B
  simpa using this

set_option maxRecDepth 100000 in
set_option maxHeartbeats 1000000 in
theorem toFramer_any (f : Fr) (w : World) :
    Calls Try.prog 14 #[f.val] w fun e w' => e = .returned f.val ∧ Below w.heap.size w w' := by
  obtain ⟨l, a, b, c, d⟩ := f
  unfold Fr.val
  dsimp only
  go_enter Try.func14, Try.ntmps14
  go_wp2_with fail
  have hb := second_block w (.cells #[.string l, .int .i64 a, .int .i64 b, .int .i64 c, .bool d] 32) (.cells #[.string l, .int .i64 a, .int .i64 b, .int .i64 c, .bool d] 35) (.cells #[.string l, .int .i64 a, .int .i64 b, .int .i64 c, .bool d] 35)
  generalize hW : ((w.alloc (.cells #[.string l, .int .i64 a, .int .i64 b, .int .i64 c, .bool d] 32)).alloc (.cells #[.string l, .int .i64 a, .int .i64 b, .int .i64 c, .bool d] 35)).alloc (.cells #[.string l, .int .i64 a, .int .i64 b, .int .i64 c, .bool d] 35) = W at hb ⊢
  have hB : Below w.heap.size w W := by
    rw [← hW]
    exact ((((Below.refl _ _).alloc (Nat.le_refl _) _).alloc (by simp) _).alloc (by simp; omega) _)
  have q0 : W.cell? ⟨w.heap.size + 1, 0, none⟩ = some (.string l) := by simp [World.cell?, hb]
  have q1 : W.cell? ⟨w.heap.size + 1, 1, none⟩ = some (.int .i64 a) := by simp [World.cell?, hb]
  have q2 : W.cell? ⟨w.heap.size + 1, 2, none⟩ = some (.int .i64 b) := by simp [World.cell?, hb]
  have q3 : W.cell? ⟨w.heap.size + 1, 3, none⟩ = some (.int .i64 c) := by simp [World.cell?, hb]
  have q4 : W.cell? ⟨w.heap.size + 1, 4, none⟩ = some (.bool d) := by simp [World.cell?, hb]
  exact bodyPost_ret (v := .agg #[.string l, .int .i64 a, .int .i64 b, .int .i64 c, .bool d]) (by simp [results, Try.results14, go_sem, q0, q1, q2, q3, q4]) rfl ⟨rfl, hB⟩

set_option maxHeartbeats 400000 in
theorem szFramer_any (f : Fr) (left : Int) (w : World) (h1 : 0 ≤ left) (h2 : left ≤ 1048576) (h3 : f.line.size ≤ maxLen) :
    Calls Try.prog 12 #[f.val, .int .i64 left] w fun e w' => e = .returned (.int .i64 (if left < f.line.size then -1 else left - f.line.size)) ∧ Below w.heap.size w w' := by
  unfold maxLen at h3
  obtain ⟨l, a, b, c, d⟩ := f
  unfold Fr.val
  dsimp only at h3 ⊢
  by_cases h : left < l.size
  · rw [if_pos h]
    have g1 : decide (left - (l.size : Int) < 0) = true := by simp; omega
    clear h
    go_enter Try.func12, Try.ntmps12
    go_wp2_with fail
    go_ret
    exact ⟨rfl, (Below.refl _ _).alloc (Nat.le_refl _) _⟩
  · rw [if_neg h]
    have g1 : decide (left - (l.size : Int) < 0) = false := by simp; omega
    clear h
    go_enter Try.func12, Try.ntmps12
    go_wp2_with fail
    go_ret
    exact ⟨rfl, (Below.refl _ _).alloc (Nat.le_refl _) _⟩
end Go.Proofs.Ytilljhmkjlnnbaa
