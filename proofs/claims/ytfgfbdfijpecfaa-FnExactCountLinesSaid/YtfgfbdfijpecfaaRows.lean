/-
  No cell of these rows narrows 'for every input' (looked for: loops, veiled, ifaces, maps, wideKeys, modest, calm, conditions, laid).
  DERIVED. THE GIVEN ROWS OF THIS SEAT. 7 by the template 'for every input the law returns true; each argument reads behind the call as it read before'; 0 by the template 'total and deterministic' (their statements: YtfgfbdfijpecfaaTotals.lean).
  GIVEN WITH THE SEED: the statements are not yours to turn. If you find one false, say at which input.
  Laid BY PROGRAM, IN A SANDBOX (cutbox-rows.mjs): the forced cells as the released guide's own fill.sh prints them over the translation ce510f6fb236566d… (all of the seat's roots in one cut). By AI agents, Wed Nov 11 2026. No macro, syntax, notation, axiom, sorry.
-/
import Derived.Test.YtfgfbdfijpecfaaChecked
import GoSem.Claim
import GoSem.ClaimJoined
import GoSem.ClaimMapViews
import Derived.JoinedTies
import Derived.KernelRfl
namespace Go.Proofs.Ytfgfbdfijpecfaa
/- THE CELL 'sum', in the pinned program and in every row, IS THE sha256 OF THE DUMP (.gsa) THAT YtfgfbdfijpecfaaProg.lean LOADS. Nothing in Lean hashes anything: it is a label: what it is worth is what the hold of that sum in a sandbox is worth. -/
noncomputable def Try.pinned : Pinned := { name := "ytfgfbdfijpecfaa", sum := "ce510f6fb236566d1dfca157f54c6f44cf34a05eea193bccd3e8409e0fc99fed", checked := Try.checked }
namespace Rows
def none {H : Type} : Left H := { results := [], args := [] }

/-- 'laws.FnHeadEnd': WHATEVER THE INPUT: true; the input reads as it did. -/
def fnHeadEndSpec : ChangeSpec := { name := "fnHeadEnd", fn := fun _ => fun
  | [d] => { results := [.lit (.bool true)], args := [d] }
  | _ => none }
def fnHeadEndRow : OpenClaim := { program := "ytfgfbdfijpecfaa", sum := "ce510f6fb236566d1dfca157f54c6f44cf34a05eea193bccd3e8409e0fc99fed", func := "loop.example/g00785/laws.FnHeadEnd", spec := "fnHeadEnd", inPlace := ["internal/bytealg.IndexByteString", "internal/bytealg.IndexString"], named := ["internal/bytealg.MaxLen"], apart := false }
def FnHeadEndSaid : Prop := fnHeadEndRow.holds Try.pinned (OpenSpec.ofChange fnHeadEndSpec)

/-- ITS FALSE NEIGHBOUR: 'it returns false'. Refute it at one input. -/
def fnHeadEndWrong : ChangeSpec := { name := "fnHeadEnd", fn := fun _ => fun
  | [d] => { results := [.lit (.bool false)], args := [d] }
  | _ => none }
def FnHeadEndWrongFalsely : Prop := fnHeadEndRow.holds Try.pinned (OpenSpec.ofChange fnHeadEndWrong)

/-- 'laws.FnBodyOf': WHATEVER THE INPUT: true; the input reads as it did. -/
def fnBodyOfSpec : ChangeSpec := { name := "fnBodyOf", fn := fun _ => fun
  | [d] => { results := [.lit (.bool true)], args := [d] }
  | _ => none }
def fnBodyOfRow : OpenClaim := { program := "ytfgfbdfijpecfaa", sum := "ce510f6fb236566d1dfca157f54c6f44cf34a05eea193bccd3e8409e0fc99fed", func := "loop.example/g00785/laws.FnBodyOf", spec := "fnBodyOf", unfollowed := true, recurses := true, apart := false }
def FnBodyOfSaid : Prop := fnBodyOfRow.holds Try.pinned (OpenSpec.ofChange fnBodyOfSpec)

/-- ITS FALSE NEIGHBOUR: 'it returns false'. Refute it at one input. -/
def fnBodyOfWrong : ChangeSpec := { name := "fnBodyOf", fn := fun _ => fun
  | [d] => { results := [.lit (.bool false)], args := [d] }
  | _ => none }
def FnBodyOfWrongFalsely : Prop := fnBodyOfRow.holds Try.pinned (OpenSpec.ofChange fnBodyOfWrong)

/-- 'laws.FnExactHeadEnd': WHATEVER THE INPUT: true; the input reads as it did. -/
def fnExactHeadEndSpec : ChangeSpec := { name := "fnExactHeadEnd", fn := fun _ => fun
  | [d] => { results := [.lit (.bool true)], args := [d] }
  | _ => none }
def fnExactHeadEndRow : OpenClaim := { program := "ytfgfbdfijpecfaa", sum := "ce510f6fb236566d1dfca157f54c6f44cf34a05eea193bccd3e8409e0fc99fed", func := "loop.example/g00785/laws.FnExactHeadEnd", spec := "fnExactHeadEnd", inPlace := ["internal/bytealg.IndexByteString", "internal/bytealg.IndexString"], named := ["internal/bytealg.MaxLen"], apart := false }
def FnExactHeadEndSaid : Prop := fnExactHeadEndRow.holds Try.pinned (OpenSpec.ofChange fnExactHeadEndSpec)

/-- ITS FALSE NEIGHBOUR: 'it returns false'. Refute it at one input. -/
def fnExactHeadEndWrong : ChangeSpec := { name := "fnExactHeadEnd", fn := fun _ => fun
  | [d] => { results := [.lit (.bool false)], args := [d] }
  | _ => none }
def FnExactHeadEndWrongFalsely : Prop := fnExactHeadEndRow.holds Try.pinned (OpenSpec.ofChange fnExactHeadEndWrong)

/-- 'laws.FnExactBodyOf': WHATEVER THE INPUT: true; the input reads as it did. -/
def fnExactBodyOfSpec : ChangeSpec := { name := "fnExactBodyOf", fn := fun _ => fun
  | [d1, d2] => { results := [.lit (.bool true)], args := [d1, d2] }
  | _ => none }
def fnExactBodyOfRow : OpenClaim := { program := "ytfgfbdfijpecfaa", sum := "ce510f6fb236566d1dfca157f54c6f44cf34a05eea193bccd3e8409e0fc99fed", func := "loop.example/g00785/laws.FnExactBodyOf", spec := "fnExactBodyOf", unfollowed := true, recurses := true, apart := false }
def FnExactBodyOfSaid : Prop := fnExactBodyOfRow.holds Try.pinned (OpenSpec.ofChange fnExactBodyOfSpec)

/-- ITS FALSE NEIGHBOUR: 'it returns false'. Refute it at one input. -/
def fnExactBodyOfWrong : ChangeSpec := { name := "fnExactBodyOf", fn := fun _ => fun
  | [d1, d2] => { results := [.lit (.bool false)], args := [d1, d2] }
  | _ => none }
def FnExactBodyOfWrongFalsely : Prop := fnExactBodyOfRow.holds Try.pinned (OpenSpec.ofChange fnExactBodyOfWrong)

/-- 'laws.FnExactPutFields': WHATEVER THE INPUT: true; the input reads as it did. -/
def fnExactPutFieldsSpec : ChangeSpec := { name := "fnExactPutFields", fn := fun _ => fun
  | [d] => { results := [.lit (.bool true)], args := [d] }
  | _ => none }
def fnExactPutFieldsRow : OpenClaim := { program := "ytfgfbdfijpecfaa", sum := "ce510f6fb236566d1dfca157f54c6f44cf34a05eea193bccd3e8409e0fc99fed", func := "loop.example/g00785/laws.FnExactPutFields", spec := "fnExactPutFields", apart := false }
def FnExactPutFieldsSaid : Prop := fnExactPutFieldsRow.holds Try.pinned (OpenSpec.ofChange fnExactPutFieldsSpec)

/-- ITS FALSE NEIGHBOUR: 'it returns false'. Refute it at one input. -/
def fnExactPutFieldsWrong : ChangeSpec := { name := "fnExactPutFields", fn := fun _ => fun
  | [d] => { results := [.lit (.bool false)], args := [d] }
  | _ => none }
def FnExactPutFieldsWrongFalsely : Prop := fnExactPutFieldsRow.holds Try.pinned (OpenSpec.ofChange fnExactPutFieldsWrong)

/-- 'laws.FnCountLines': WHATEVER THE INPUT: true; the input reads as it did. -/
def fnCountLinesSpec : ChangeSpec := { name := "fnCountLines", fn := fun _ => fun
  | [d] => { results := [.lit (.bool true)], args := [d] }
  | _ => none }
def fnCountLinesRow : OpenClaim := { program := "ytfgfbdfijpecfaa", sum := "ce510f6fb236566d1dfca157f54c6f44cf34a05eea193bccd3e8409e0fc99fed", func := "loop.example/g00785/laws.FnCountLines", spec := "fnCountLines", inPlace := ["internal/bytealg.IndexByteString", "internal/bytealg.IndexString"], unfollowed := true, recurses := true, named := ["internal/bytealg.MaxLen"], apart := false }
def FnCountLinesSaid : Prop := fnCountLinesRow.holds Try.pinned (OpenSpec.ofChange fnCountLinesSpec)

/-- ITS FALSE NEIGHBOUR: 'it returns false'. Refute it at one input. -/
def fnCountLinesWrong : ChangeSpec := { name := "fnCountLines", fn := fun _ => fun
  | [d] => { results := [.lit (.bool false)], args := [d] }
  | _ => none }
def FnCountLinesWrongFalsely : Prop := fnCountLinesRow.holds Try.pinned (OpenSpec.ofChange fnCountLinesWrong)

/-- 'laws.FnExactCountLines': WHATEVER THE INPUT: true; the input reads as it did. -/
def fnExactCountLinesSpec : ChangeSpec := { name := "fnExactCountLines", fn := fun _ => fun
  | [d] => { results := [.lit (.bool true)], args := [d] }
  | _ => none }
def fnExactCountLinesRow : OpenClaim := { program := "ytfgfbdfijpecfaa", sum := "ce510f6fb236566d1dfca157f54c6f44cf34a05eea193bccd3e8409e0fc99fed", func := "loop.example/g00785/laws.FnExactCountLines", spec := "fnExactCountLines", inPlace := ["internal/bytealg.IndexByteString", "internal/bytealg.IndexString"], unfollowed := true, recurses := true, named := ["internal/bytealg.MaxLen"], apart := false }
def FnExactCountLinesSaid : Prop := fnExactCountLinesRow.holds Try.pinned (OpenSpec.ofChange fnExactCountLinesSpec)

/-- ITS FALSE NEIGHBOUR: 'it returns false'. Refute it at one input. -/
def fnExactCountLinesWrong : ChangeSpec := { name := "fnExactCountLines", fn := fun _ => fun
  | [d] => { results := [.lit (.bool false)], args := [d] }
  | _ => none }
def FnExactCountLinesWrongFalsely : Prop := fnExactCountLinesRow.holds Try.pinned (OpenSpec.ofChange fnExactCountLinesWrong)

/- THE SECOND FORM. 'bulk': how many values and letters a reading holds, each counted each time it is reached (what is shared counts as often as it is met; a slice's spare places count too). A statement '..UptoSaid' is the law's where the arguments, and the package variables that the reading takes, are together of bulk at most 1048576: NARROWER than '..Said'. Prove '..Said' where nothing that the law and all that it calls make is longer than what came in: it says more and counts as full. Else prove '..UptoSaid'. A law counts once. -/
mutual
def uptoBulk {H : Type} : DataW H → Nat
  | .lit (.string bytes) => bytes.length + 1
  | .lit _ => 1
  | .nil => 1
  | .ptr d => uptoBulk d + 1
  | .slice elems spare => uptoBulkAll elems + uptoBulkAll spare + 1
  | .agg parts => uptoBulkAll parts + 1
  | .iface _ d => uptoBulk d + 1
  | .map entries => uptoBulkEntries entries + 1
  | .held _ => 1
def uptoBulkAll {H : Type} : List (DataW H) → Nat
  | [] => 0
  | d :: r => uptoBulk d + uptoBulkAll r
def uptoBulkEntries {H : Type} : List (Lit × DataW H) → Nat
  | [] => 0
  | x :: r => uptoBulkEntry x + uptoBulkEntries r
def uptoBulkEntry {H : Type} : Lit × DataW H → Nat
  | (.string bytes, d) => bytes.length + uptoBulk d + 1
  | (_, d) => uptoBulk d + 1
 end
def uptoSmall : (H : Type) → List (DataW H) → Bool := fun _ ds => decide (uptoBulkAll ds ≤ 1048576)
def OpenSpec.upto (s : _root_.Go.ChangeSpec) : _root_.Go.OpenSpec := { _root_.Go.OpenSpec.ofChange s with cond := some uptoSmall }

/-- 'laws.FnHeadEnd', WHERE WHAT IT READS IS OF BULK AT MOST 1048576: true; the input reads as it did. -/
def fnHeadEndUptoRow : OpenClaim := { program := "ytfgfbdfijpecfaa", sum := "ce510f6fb236566d1dfca157f54c6f44cf34a05eea193bccd3e8409e0fc99fed", func := "loop.example/g00785/laws.FnHeadEnd", spec := "fnHeadEnd", inPlace := ["internal/bytealg.IndexByteString", "internal/bytealg.IndexString"], named := ["internal/bytealg.MaxLen"], apart := false, narrowed := true }
def FnHeadEndUptoSaid : Prop := fnHeadEndUptoRow.holds Try.pinned (OpenSpec.upto fnHeadEndSpec)

/-- 'laws.FnBodyOf', WHERE WHAT IT READS IS OF BULK AT MOST 1048576: true; the input reads as it did. -/
def fnBodyOfUptoRow : OpenClaim := { program := "ytfgfbdfijpecfaa", sum := "ce510f6fb236566d1dfca157f54c6f44cf34a05eea193bccd3e8409e0fc99fed", func := "loop.example/g00785/laws.FnBodyOf", spec := "fnBodyOf", unfollowed := true, recurses := true, apart := false, narrowed := true }
def FnBodyOfUptoSaid : Prop := fnBodyOfUptoRow.holds Try.pinned (OpenSpec.upto fnBodyOfSpec)

/-- 'laws.FnExactHeadEnd', WHERE WHAT IT READS IS OF BULK AT MOST 1048576: true; the input reads as it did. -/
def fnExactHeadEndUptoRow : OpenClaim := { program := "ytfgfbdfijpecfaa", sum := "ce510f6fb236566d1dfca157f54c6f44cf34a05eea193bccd3e8409e0fc99fed", func := "loop.example/g00785/laws.FnExactHeadEnd", spec := "fnExactHeadEnd", inPlace := ["internal/bytealg.IndexByteString", "internal/bytealg.IndexString"], named := ["internal/bytealg.MaxLen"], apart := false, narrowed := true }
def FnExactHeadEndUptoSaid : Prop := fnExactHeadEndUptoRow.holds Try.pinned (OpenSpec.upto fnExactHeadEndSpec)

/-- 'laws.FnExactBodyOf', WHERE WHAT IT READS IS OF BULK AT MOST 1048576: true; the input reads as it did. -/
def fnExactBodyOfUptoRow : OpenClaim := { program := "ytfgfbdfijpecfaa", sum := "ce510f6fb236566d1dfca157f54c6f44cf34a05eea193bccd3e8409e0fc99fed", func := "loop.example/g00785/laws.FnExactBodyOf", spec := "fnExactBodyOf", unfollowed := true, recurses := true, apart := false, narrowed := true }
def FnExactBodyOfUptoSaid : Prop := fnExactBodyOfUptoRow.holds Try.pinned (OpenSpec.upto fnExactBodyOfSpec)

/-- 'laws.FnExactPutFields', WHERE WHAT IT READS IS OF BULK AT MOST 1048576: true; the input reads as it did. -/
def fnExactPutFieldsUptoRow : OpenClaim := { program := "ytfgfbdfijpecfaa", sum := "ce510f6fb236566d1dfca157f54c6f44cf34a05eea193bccd3e8409e0fc99fed", func := "loop.example/g00785/laws.FnExactPutFields", spec := "fnExactPutFields", apart := false, narrowed := true }
def FnExactPutFieldsUptoSaid : Prop := fnExactPutFieldsUptoRow.holds Try.pinned (OpenSpec.upto fnExactPutFieldsSpec)

/-- 'laws.FnCountLines', WHERE WHAT IT READS IS OF BULK AT MOST 1048576: true; the input reads as it did. -/
def fnCountLinesUptoRow : OpenClaim := { program := "ytfgfbdfijpecfaa", sum := "ce510f6fb236566d1dfca157f54c6f44cf34a05eea193bccd3e8409e0fc99fed", func := "loop.example/g00785/laws.FnCountLines", spec := "fnCountLines", inPlace := ["internal/bytealg.IndexByteString", "internal/bytealg.IndexString"], unfollowed := true, recurses := true, named := ["internal/bytealg.MaxLen"], apart := false, narrowed := true }
def FnCountLinesUptoSaid : Prop := fnCountLinesUptoRow.holds Try.pinned (OpenSpec.upto fnCountLinesSpec)

/-- 'laws.FnExactCountLines', WHERE WHAT IT READS IS OF BULK AT MOST 1048576: true; the input reads as it did. -/
def fnExactCountLinesUptoRow : OpenClaim := { program := "ytfgfbdfijpecfaa", sum := "ce510f6fb236566d1dfca157f54c6f44cf34a05eea193bccd3e8409e0fc99fed", func := "loop.example/g00785/laws.FnExactCountLines", spec := "fnExactCountLines", inPlace := ["internal/bytealg.IndexByteString", "internal/bytealg.IndexString"], unfollowed := true, recurses := true, named := ["internal/bytealg.MaxLen"], apart := false, narrowed := true }
def FnExactCountLinesUptoSaid : Prop := fnExactCountLinesUptoRow.holds Try.pinned (OpenSpec.upto fnExactCountLinesSpec)

end Rows
end Go.Proofs.Ytfgfbdfijpecfaa
