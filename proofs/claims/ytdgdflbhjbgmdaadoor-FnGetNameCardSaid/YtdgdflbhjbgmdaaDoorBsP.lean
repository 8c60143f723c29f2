/-
  Bytes in signs of six bits: plain lists of bytes.
-/
import Derived.Test.YtdgdflbhjbgmdaaDoorRows
namespace Go.Proofs.YtdgdflbhjbgmdaaDoor
set_option linter.unusedVariables false

/-- The sign of a number below 64. -/
def sg (k : Nat) : UInt8 := UInt8.ofNat (if k < 26 then 65 + k else if k < 52 then 71 + k else if k < 62 then k - 4 else if k = 62 then 43 else 47)
def byteAt (l : List UInt8) (i : Nat) : Nat := (l.getD i 0).toNat
theorem byteAt_lt (l : List UInt8) (i : Nat) : byteAt l i < 256 := UInt8.toNat_lt _
theorem byteAt_out (l : List UInt8) (i : Nat) (h : l.length ≤ i) : byteAt l i = 0 := by
  unfold byteAt
  rw [List.getD_eq_getElem?_getD, List.getElem?_eq_none h]
  rfl
/-- The number of j bytes from i on. -/
def nAt (l : List UInt8) (i : Nat) : Nat → Nat
  | 0 => 0
  | j + 1 => nAt l i j * 256 + byteAt l (i + j)
theorem nAt_lt (l : List UInt8) (i : Nat) : ∀ j, nAt l i j < 256 ^ j := by
  intro j
  induction j with
  | zero => exact Nat.one_pos
  | succ j ih =>
    have h := byteAt_lt l (i + j)
    show nAt l i j * 256 + byteAt l (i + j) < 256 ^ (j + 1)
    rw [Nat.pow_succ]
    omega
/-- The signs of three bytes from i on, as many as are there. -/
def sixAt (n k : Nat) : Nat := n / 2 ^ (18 - 6 * k) % 64
def grp (n h : Nat) : List UInt8 := (List.range h).map fun k => sg (sixAt n k)
theorem grp_succ (n h : Nat) : grp n (h + 1) = grp n h ++ [sg (sixAt n h)] := by simp [grp, List.range_succ]
theorem grp_len (n h : Nat) : (grp n h).length = h := by simp [grp]
def preB (l : List UInt8) : Nat → List UInt8
  | 0 => []
  | m + 1 => preB l m ++ grp (nAt l (3 * m) 3) (min 3 (l.length - 3 * m) + 1)
theorem preB_len (l : List UInt8) : ∀ m, (preB l m).length ≤ 4 * m := by
  intro m
  induction m with
  | zero => simp [preB]
  | succ m ih =>
    simp only [preB, List.length_append, grp_len]
    omega
def b64 (l : List UInt8) : List UInt8 := preB l ((l.length + 2) / 3)
end Go.Proofs.YtdgdflbhjbgmdaaDoor
