/-
  Fields put together: plain.
-/
import Derived.Test.YtfgfbdfijpecfaaFlA
namespace Go.Proofs.Ytfgfbdfijpecfaa
set_option linter.unusedVariables false
open Go.RowKit

def putF (f : Fl) : List UInt8 := f.name ++ [58, 32] ++ f.body ++ [13, 10]
def putL (l : List Fl) : List UInt8 := l.flatMap putF
theorem putL_cons (f : Fl) (l : List Fl) : putL (f :: l) = putF f ++ putL l := rfl
theorem putL_append (a b : List Fl) : putL (a ++ b) = putL a ++ putL b := by simp [putL]
theorem putL_snoc (a : List Fl) (f : Fl) : putL (a ++ [f]) = putL a ++ putF f := by simp [putL]
theorem putF_len (f : Fl) : (putF f).length = f.name.length + f.body.length + 4 := by simp [putF]; omega
theorem putL_take (l : List Fl) (k : Nat) (h : k < l.length) : putL (l.take (k + 1)) = putL (l.take k) ++ putF l[k] := by
  rw [List.take_add_one, List.getElem?_eq_getElem h]
  exact putL_snoc _ _
theorem putL_take_le (l : List Fl) (k : Nat) : (putL (l.take k)).length ≤ (putL l).length := by
  have : putL l = putL (l.take k) ++ putL (l.drop k) := by rw [← putL_append, List.take_append_drop]
  rw [this, List.length_append]
  omega
theorem putF_bytes (f : Fl) : mkB f.name ++ ⟨#[58, 32]⟩ ++ mkB f.body ++ ⟨#[13, 10]⟩ = mkB (putF f) := by
  apply ByteArray.ext
  simp [mkB, putF]
end Go.Proofs.Ytfgfbdfijpecfaa
