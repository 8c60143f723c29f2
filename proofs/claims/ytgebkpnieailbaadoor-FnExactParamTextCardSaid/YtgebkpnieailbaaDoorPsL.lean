/-
  Strings' texts: how long they are; plain.
-/
import Derived.Test.YtgebkpnieailbaaDoorPsP
namespace Go.Proofs.YtgebkpnieailbaaDoor
set_option linter.unusedVariables false
open Go.RowKit

theorem putStr_len (l : List UInt8) (h : l.length ≤ 67108864) : (putStr l).length ≤ 2 * l.length + 30 := by
  unfold putStr
  split
  · simp
  · split
    · have := quote_len l
      omega
    · have := itoa_len l.length h
      simp
      omega
theorem nstr_len (b : Bool) (l : List UInt8) (h : l.length ≤ 67108864) : (nstr b l).length ≤ 2 * l.length + 30 := by
  unfold nstr
  split
  · exact putStr_len l h
  · simp [nilL]
end Go.Proofs.YtgebkpnieailbaaDoor
