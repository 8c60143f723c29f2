/-
  NARROWER THAN 'FOR EVERY INPUT', by the rows' own cells (each row's printed sentence says how): FnExactPartAt: loops · FnExactCount: loops.
  DERIVED. THE GIVEN ROWS OF THIS SEAT. 6 by the template 'for every input the law returns true; each argument reads behind the call as it read before'; 0 by the template 'total and deterministic' (their statements: YtjleadlecdcdeaaTotals.lean).
  GIVEN WITH THE SEED: the statements are not yours to turn. If you find one false, say at which input.
  Laid BY PROGRAM, IN A SANDBOX (cutbox-rows.mjs): the forced cells as the released guide's own fill.sh prints them over the translation 806569f79b0b1565… (all of the seat's roots in one cut). By AI agents, Wed Nov 11 2026. No macro, syntax, notation, axiom, sorry.
-/
import Derived.Test.YtjleadlecdcdeaaChecked
import GoSem.Claim
import GoSem.ClaimJoined
import GoSem.ClaimMapViews
import Derived.JoinedTies
import Derived.KernelRfl
namespace Go.Proofs.Ytjleadlecdcdeaa
/- THE CELL 'sum', in the pinned program and in every row, IS THE sha256 OF THE DUMP (.gsa) THAT YtjleadlecdcdeaaProg.lean LOADS. Nothing in Lean hashes anything: it is a label: what it is worth is what the hold of that sum in a sandbox is worth. -/
noncomputable def Try.pinned : Pinned := { name := "ytjleadlecdcdeaa", sum := "806569f79b0b1565fa723a8d829e3b69822f44c4288cd9b04e43b9fbbf39a04a", checked := Try.checked }
namespace Rows
def none {H : Type} : Left H := { results := [], args := [] }

/-- 'laws.FnPath': WHATEVER THE INPUT: true; the input reads as it did. -/
def fnPathSpec : ChangeSpec := { name := "fnPath", fn := fun _ => fun
  | [d] => { results := [.lit (.bool true)], args := [d] }
  | _ => none }
def fnPathRow : OpenClaim := { program := "ytjleadlecdcdeaa", sum := "806569f79b0b1565fa723a8d829e3b69822f44c4288cd9b04e43b9fbbf39a04a", func := "loop.example/g00785/laws.FnPath", spec := "fnPath", unfollowed := true, recurses := true, apart := false }
def FnPathSaid : Prop := fnPathRow.holds Try.pinned (OpenSpec.ofChange fnPathSpec)

/-- ITS FALSE NEIGHBOUR: 'it returns false'. Refute it at one input. -/
def fnPathWrong : ChangeSpec := { name := "fnPath", fn := fun _ => fun
  | [d] => { results := [.lit (.bool false)], args := [d] }
  | _ => none }
def FnPathWrongFalsely : Prop := fnPathRow.holds Try.pinned (OpenSpec.ofChange fnPathWrong)

/-- 'laws.FnDelims': WHATEVER THE INPUT: true; the input reads as it did. -/
def fnDelimsSpec : ChangeSpec := { name := "fnDelims", fn := fun _ => fun
  | [d] => { results := [.lit (.bool true)], args := [d] }
  | _ => none }
def fnDelimsRow : OpenClaim := { program := "ytjleadlecdcdeaa", sum := "806569f79b0b1565fa723a8d829e3b69822f44c4288cd9b04e43b9fbbf39a04a", func := "loop.example/g00785/laws.FnDelims", spec := "fnDelims", inPlace := ["internal/bytealg.IndexByteString", "internal/bytealg.IndexString"], unfollowed := true, recurses := true, named := ["internal/bytealg.MaxLen"], apart := false }
def FnDelimsSaid : Prop := fnDelimsRow.holds Try.pinned (OpenSpec.ofChange fnDelimsSpec)

/-- ITS FALSE NEIGHBOUR: 'it returns false'. Refute it at one input. -/
def fnDelimsWrong : ChangeSpec := { name := "fnDelims", fn := fun _ => fun
  | [d] => { results := [.lit (.bool false)], args := [d] }
  | _ => none }
def FnDelimsWrongFalsely : Prop := fnDelimsRow.holds Try.pinned (OpenSpec.ofChange fnDelimsWrong)

/-- 'laws.FnExactParamOf': WHATEVER THE INPUT: true; the input reads as it did. -/
def fnExactParamOfSpec : ChangeSpec := { name := "fnExactParamOf", fn := fun _ => fun
  | [d1, d2] => { results := [.lit (.bool true)], args := [d1, d2] }
  | _ => none }
def fnExactParamOfRow : OpenClaim := { program := "ytjleadlecdcdeaa", sum := "806569f79b0b1565fa723a8d829e3b69822f44c4288cd9b04e43b9fbbf39a04a", func := "loop.example/g00785/laws.FnExactParamOf", spec := "fnExactParamOf", apart := false }
def FnExactParamOfSaid : Prop := fnExactParamOfRow.holds Try.pinned (OpenSpec.ofChange fnExactParamOfSpec)

/-- ITS FALSE NEIGHBOUR: 'it returns false'. Refute it at one input. -/
def fnExactParamOfWrong : ChangeSpec := { name := "fnExactParamOf", fn := fun _ => fun
  | [d1, d2] => { results := [.lit (.bool false)], args := [d1, d2] }
  | _ => none }
def FnExactParamOfWrongFalsely : Prop := fnExactParamOfRow.holds Try.pinned (OpenSpec.ofChange fnExactParamOfWrong)

/-- 'laws.FnExactDelims': WHATEVER THE INPUT: true; the input reads as it did. -/
def fnExactDelimsSpec : ChangeSpec := { name := "fnExactDelims", fn := fun _ => fun
  | [d1, d2, d3, d4] => { results := [.lit (.bool true)], args := [d1, d2, d3, d4] }
  | _ => none }
def fnExactDelimsRow : OpenClaim := { program := "ytjleadlecdcdeaa", sum := "806569f79b0b1565fa723a8d829e3b69822f44c4288cd9b04e43b9fbbf39a04a", func := "loop.example/g00785/laws.FnExactDelims", spec := "fnExactDelims", inPlace := ["internal/bytealg.IndexByteString", "internal/bytealg.IndexString"], unfollowed := true, recurses := true, named := ["internal/bytealg.MaxLen"], apart := false }
def FnExactDelimsSaid : Prop := fnExactDelimsRow.holds Try.pinned (OpenSpec.ofChange fnExactDelimsSpec)

/-- ITS FALSE NEIGHBOUR: 'it returns false'. Refute it at one input. -/
def fnExactDelimsWrong : ChangeSpec := { name := "fnExactDelims", fn := fun _ => fun
  | [d1, d2, d3, d4] => { results := [.lit (.bool false)], args := [d1, d2, d3, d4] }
  | _ => none }
def FnExactDelimsWrongFalsely : Prop := fnExactDelimsRow.holds Try.pinned (OpenSpec.ofChange fnExactDelimsWrong)

/-- 'laws.FnExactPartAt': WHATEVER THE INPUT: true; the input reads as it did. -/
def fnExactPartAtSpec : ChangeSpec := { name := "fnExactPartAt", fn := fun _ => fun
  | [d1, d2] => { results := [.lit (.bool true)], args := [d1, d2] }
  | _ => none }
def fnExactPartAtRow : OpenClaim := { program := "ytjleadlecdcdeaa", sum := "806569f79b0b1565fa723a8d829e3b69822f44c4288cd9b04e43b9fbbf39a04a", func := "loop.example/g00785/laws.FnExactPartAt", spec := "fnExactPartAt", unfollowed := true, recurses := true, loops := true, apart := false }
def FnExactPartAtSaid : Prop := fnExactPartAtRow.holds Try.pinned (OpenSpec.ofChange fnExactPartAtSpec)

/-- ITS FALSE NEIGHBOUR: 'it returns false'. Refute it at one input. -/
def fnExactPartAtWrong : ChangeSpec := { name := "fnExactPartAt", fn := fun _ => fun
  | [d1, d2] => { results := [.lit (.bool false)], args := [d1, d2] }
  | _ => none }
def FnExactPartAtWrongFalsely : Prop := fnExactPartAtRow.holds Try.pinned (OpenSpec.ofChange fnExactPartAtWrong)

/-- 'laws.FnExactCount': WHATEVER THE INPUT: true; the input reads as it did. -/
def fnExactCountSpec : ChangeSpec := { name := "fnExactCount", fn := fun _ => fun
  | [d] => { results := [.lit (.bool true)], args := [d] }
  | _ => none }
def fnExactCountRow : OpenClaim := { program := "ytjleadlecdcdeaa", sum := "806569f79b0b1565fa723a8d829e3b69822f44c4288cd9b04e43b9fbbf39a04a", func := "loop.example/g00785/laws.FnExactCount", spec := "fnExactCount", unfollowed := true, recurses := true, loops := true, apart := false }
def FnExactCountSaid : Prop := fnExactCountRow.holds Try.pinned (OpenSpec.ofChange fnExactCountSpec)

/-- ITS FALSE NEIGHBOUR: 'it returns false'. Refute it at one input. -/
def fnExactCountWrong : ChangeSpec := { name := "fnExactCount", fn := fun _ => fun
  | [d] => { results := [.lit (.bool false)], args := [d] }
  | _ => none }
def FnExactCountWrongFalsely : Prop := fnExactCountRow.holds Try.pinned (OpenSpec.ofChange fnExactCountWrong)

/- THE SECOND FORM. 'bulk': how many values and letters a reading holds, each counted each time it is reached (what is shared counts as often as it is met; a slice's spare places count too). A statement '..UptoSaid' is the law's where the arguments, and the package variables that the reading takes, are together of bulk at most 1048576: NARROWER than '..Said'. Prove '..Said' where nothing that the law and all that it calls make is longer than what came in: it says more and counts as full. Else prove '..UptoSaid'. A law counts once. -/
mutual
def uptoBulk {H : Type} : DataW H → Nat
  | .lit (.string bytes) => bytes.length + 1
  | .lit _ => 1
  | .nil => 1
  | .ptr d => uptoBulk d + 1
  | .slice elems spare => uptoBulkAll elems + uptoBulkAll spare + 1
  | .agg parts => uptoBulkAll parts + 1
  | .iface _ d => uptoBulk d + 1
  | .map entries => uptoBulkEntries entries + 1
  | .held _ => 1
def uptoBulkAll {H : Type} : List (DataW H) → Nat
  | [] => 0
  | d :: r => uptoBulk d + uptoBulkAll r
def uptoBulkEntries {H : Type} : List (Lit × DataW H) → Nat
  | [] => 0
  | x :: r => uptoBulkEntry x + uptoBulkEntries r
def uptoBulkEntry {H : Type} : Lit × DataW H → Nat
  | (.string bytes, d) => bytes.length + uptoBulk d + 1
  | (_, d) => uptoBulk d + 1
 end
def uptoSmall : (H : Type) → List (DataW H) → Bool := fun _ ds => decide (uptoBulkAll ds ≤ 1048576)
def OpenSpec.upto (s : _root_.Go.ChangeSpec) : _root_.Go.OpenSpec := { _root_.Go.OpenSpec.ofChange s with cond := some uptoSmall }

/-- 'laws.FnPath', WHERE WHAT IT READS IS OF BULK AT MOST 1048576: true; the input reads as it did. -/
def fnPathUptoRow : OpenClaim := { program := "ytjleadlecdcdeaa", sum := "806569f79b0b1565fa723a8d829e3b69822f44c4288cd9b04e43b9fbbf39a04a", func := "loop.example/g00785/laws.FnPath", spec := "fnPath", unfollowed := true, recurses := true, apart := false, narrowed := true }
def FnPathUptoSaid : Prop := fnPathUptoRow.holds Try.pinned (OpenSpec.upto fnPathSpec)

/-- 'laws.FnDelims', WHERE WHAT IT READS IS OF BULK AT MOST 1048576: true; the input reads as it did. -/
def fnDelimsUptoRow : OpenClaim := { program := "ytjleadlecdcdeaa", sum := "806569f79b0b1565fa723a8d829e3b69822f44c4288cd9b04e43b9fbbf39a04a", func := "loop.example/g00785/laws.FnDelims", spec := "fnDelims", inPlace := ["internal/bytealg.IndexByteString", "internal/bytealg.IndexString"], unfollowed := true, recurses := true, named := ["internal/bytealg.MaxLen"], apart := false, narrowed := true }
def FnDelimsUptoSaid : Prop := fnDelimsUptoRow.holds Try.pinned (OpenSpec.upto fnDelimsSpec)

/-- 'laws.FnExactParamOf', WHERE WHAT IT READS IS OF BULK AT MOST 1048576: true; the input reads as it did. -/
def fnExactParamOfUptoRow : OpenClaim := { program := "ytjleadlecdcdeaa", sum := "806569f79b0b1565fa723a8d829e3b69822f44c4288cd9b04e43b9fbbf39a04a", func := "loop.example/g00785/laws.FnExactParamOf", spec := "fnExactParamOf", apart := false, narrowed := true }
def FnExactParamOfUptoSaid : Prop := fnExactParamOfUptoRow.holds Try.pinned (OpenSpec.upto fnExactParamOfSpec)

/-- 'laws.FnExactDelims', WHERE WHAT IT READS IS OF BULK AT MOST 1048576: true; the input reads as it did. -/
def fnExactDelimsUptoRow : OpenClaim := { program := "ytjleadlecdcdeaa", sum := "806569f79b0b1565fa723a8d829e3b69822f44c4288cd9b04e43b9fbbf39a04a", func := "loop.example/g00785/laws.FnExactDelims", spec := "fnExactDelims", inPlace := ["internal/bytealg.IndexByteString", "internal/bytealg.IndexString"], unfollowed := true, recurses := true, named := ["internal/bytealg.MaxLen"], apart := false, narrowed := true }
def FnExactDelimsUptoSaid : Prop := fnExactDelimsUptoRow.holds Try.pinned (OpenSpec.upto fnExactDelimsSpec)

/-- 'laws.FnExactPartAt', WHERE WHAT IT READS IS OF BULK AT MOST 1048576: true; the input reads as it did. -/
def fnExactPartAtUptoRow : OpenClaim := { program := "ytjleadlecdcdeaa", sum := "806569f79b0b1565fa723a8d829e3b69822f44c4288cd9b04e43b9fbbf39a04a", func := "loop.example/g00785/laws.FnExactPartAt", spec := "fnExactPartAt", unfollowed := true, recurses := true, loops := true, apart := false, narrowed := true }
def FnExactPartAtUptoSaid : Prop := fnExactPartAtUptoRow.holds Try.pinned (OpenSpec.upto fnExactPartAtSpec)

/-- 'laws.FnExactCount', WHERE WHAT IT READS IS OF BULK AT MOST 1048576: true; the input reads as it did. -/
def fnExactCountUptoRow : OpenClaim := { program := "ytjleadlecdcdeaa", sum := "806569f79b0b1565fa723a8d829e3b69822f44c4288cd9b04e43b9fbbf39a04a", func := "loop.example/g00785/laws.FnExactCount", spec := "fnExactCount", unfollowed := true, recurses := true, loops := true, apart := false, narrowed := true }
def FnExactCountUptoSaid : Prop := fnExactCountUptoRow.holds Try.pinned (OpenSpec.upto fnExactCountSpec)

end Rows
end Go.Proofs.Ytjleadlecdcdeaa
