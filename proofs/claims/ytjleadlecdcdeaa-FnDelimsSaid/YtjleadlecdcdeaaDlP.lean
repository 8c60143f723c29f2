/-
  Delimiters: plain.
-/
import Derived.Test.YtjleadlecdcdeaaTrimS
import Derived.Test.YtjleadlecdcdeaaWdO
namespace Go.Proofs.Ytjleadlecdcdeaa
set_option linter.unusedVariables false
open Go.RowKit

/-- A stretch. -/
def sub2 (l : List UInt8) (a b : Nat) : List UInt8 := (l.drop a).take (b - a)
/-- Behind the blanks. -/
def skipB (l : List UInt8) (to : Nat) : Nat → Nat → Nat
  | 0, e => e
  | n + 1, e => if e < to ∧ blankB (l.getD e 0) = true then skipB l to n (e + 1) else e
structure Dl where
  at' : Nat
  fin : Nat
  last : Nat
/-- Whether the second mark stands there. -/
def twoMarks (raw : List UInt8) (e to : Nat) : Bool := decide (e + 2 ≤ to) && (sub2 raw e (e + 2) == [45, 45])
/-- What stands behind the marks. -/
def delimEnd (raw : List UInt8) (at' to e last : Nat) : Option Dl :=
  if skipB raw to (to - e) e = to then some ⟨at', to, last⟩
  else if skipB raw to (to - e) e + 2 ≤ to ∧ sub2 raw (skipB raw to (to - e) e) (skipB raw to (to - e) e + 2) = [13, 10] then some ⟨at', skipB raw to (to - e) e + 2, last⟩ else none
def delimAt (raw : List UInt8) (at' to : Nat) (mark : List UInt8) : Option Dl :=
  if to < at' + (mark.length + 2) ∨ sub2 raw at' (at' + (mark.length + 2)) ≠ 45 :: 45 :: mark then none
  else if twoMarks raw (at' + (mark.length + 2)) to then delimEnd raw at' to (at' + (mark.length + 2) + 2) 1 else delimEnd raw at' to (at' + (mark.length + 2)) 0
/-- Where a delimiter may begin. -/
def mayBegin (raw : List UInt8) (start at' : Nat) : Bool := decide (at' = start) || (decide (start + 2 ≤ at') && (sub2 raw (at' - 2) at' == [13, 10]))
def delimsF (raw : List UInt8) (start to : Nat) (mark : List UInt8) : Nat → Nat → List Dl
  | 0, _ => []
  | n + 1, a => if a < to then
      (if mayBegin raw start a then match delimAt raw a to mark with
        | none => delimsF raw start to mark n (a + 1)
        | some d => if d.last = 1 then [d] else d :: delimsF raw start to mark n (a + 1)
      else delimsF raw start to mark n (a + 1)) else []
/-- The delimiters, in order. -/
def delimsL (raw : List UInt8) (start to : Int) (mark : List UInt8) : List Dl :=
  if start < 0 ∨ to < start ∨ (raw.length : Int) < to ∨ mark.length < 1 ∨ 70 < mark.length then [] else delimsF raw start.toNat to.toNat mark (to.toNat - start.toNat) start.toNat
theorem skipB_step (l : List UInt8) (to e : Nat) (h : e < to) (hb : blankB (l.getD e 0) = true) : skipB l to (to - e) e = skipB l to (to - (e + 1)) (e + 1) := by
  rw [show to - e = (to - (e + 1)) + 1 by omega, skipB, if_pos ⟨h, hb⟩]
theorem skipB_stop (l : List UInt8) (to e : Nat) (h : e < to) (hb : blankB (l.getD e 0) = false) : skipB l to (to - e) e = e := by
  rw [show to - e = (to - (e + 1)) + 1 by omega, skipB, if_neg (by rw [hb]; simp)]
theorem skipB_end (l : List UInt8) (to : Nat) : skipB l to (to - to) to = to := by
  rw [Nat.sub_self]
  rfl
theorem skipB_le (l : List UInt8) (to : Nat) : ∀ (n e : Nat), e ≤ to → skipB l to n e ≤ to ∧ e ≤ skipB l to n e
  | 0, e, h => ⟨h, Nat.le_refl _⟩
  | n + 1, e, h => by
    rw [skipB]
    split
    · rename_i h1
      have := skipB_le l to n (e + 1) (by omega)
      omega
    · omega
def dlCells (l : List Dl) : List Value := l.flatMap fun d => [.int .i64 (d.at' : Int), .int .i64 (d.fin : Int), .int .i64 (d.last : Int)]
theorem dlCells_append (a b : List Dl) : dlCells (a ++ b) = dlCells a ++ dlCells b := by simp [dlCells]
theorem dlCells_len (l : List Dl) : (dlCells l).length = l.length * 3 := by
  induction l with
  | nil => rfl
  | cons a r ih => simp [dlCells] at ih ⊢; omega
theorem dlCells_at : ∀ (l : List Dl) (k : Nat) (h : k < l.length), (dlCells l)[k * 3]? = some (.int .i64 (l[k].at' : Int)) ∧ (dlCells l)[k * 3 + 1]? = some (.int .i64 (l[k].fin : Int)) ∧ (dlCells l)[k * 3 + 2]? = some (.int .i64 (l[k].last : Int))
  | [], k, h => absurd h (by simp)
  | a :: r, 0, h => ⟨rfl, rfl, rfl⟩
  | a :: r, k + 1, h => by
    have := dlCells_at r k (by simpa using h)
    rw [show (k + 1) * 3 = k * 3 + 1 + 1 + 1 by omega, show dlCells (a :: r) = .int .i64 (a.at' : Int) :: .int .i64 (a.fin : Int) :: .int .i64 (a.last : Int) :: dlCells r from rfl]
    simpa using this
theorem delimEnd_le {raw : List UInt8} {a to e last : Nat} {d : Dl} (he : e ≤ to) (h : delimEnd raw a to e last = some d) : d.at' = a ∧ e ≤ d.fin ∧ d.fin ≤ to ∧ d.last = last := by
  have := skipB_le raw to (to - e) e he
  unfold delimEnd at h
  split at h
  · have e1 := Option.some.inj h
    subst e1
    refine ⟨rfl, ?_, ?_, rfl⟩
    · show e ≤ to
      exact he
    · exact Nat.le_refl _
  · split at h
    · have e1 := Option.some.inj h
      subst e1
      refine ⟨rfl, ?_, ?_, rfl⟩
      · show e ≤ skipB raw to (to - e) e + 2
        omega
      · show skipB raw to (to - e) e + 2 ≤ to
        rename_i h2
        exact h2.1
    · cases h
theorem delimAt_le {raw : List UInt8} {a to : Nat} {mark : List UInt8} {d : Dl} (h : delimAt raw a to mark = some d) : d.at' = a ∧ a + (mark.length + 2) ≤ d.fin ∧ d.fin ≤ to ∧ d.last ≤ 1 := by
  unfold delimAt at h
  split at h
  · cases h
  · rename_i h1
    split at h
    · rename_i h2
      unfold twoMarks at h2
      simp at h2
      have := delimEnd_le (by omega) h
      omega
    · have := delimEnd_le (by omega) h
      omega
end Go.Proofs.Ytjleadlecdcdeaa
