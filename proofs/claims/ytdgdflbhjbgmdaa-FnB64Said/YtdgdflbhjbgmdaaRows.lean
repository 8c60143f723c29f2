/-
  No cell of these rows narrows 'for every input' (looked for: loops, veiled, ifaces, maps, wideKeys, modest, calm, conditions, laid).
  DERIVED. THE GIVEN ROWS OF THIS SEAT. 3 by the template 'for every input the law returns true; each argument reads behind the call as it read before'; 0 by the template 'total and deterministic' (their statements: YtdgdflbhjbgmdaaTotals.lean).
  GIVEN WITH THE SEED: the statements are not yours to turn. If you find one false, say at which input.
  Laid BY PROGRAM, IN A SANDBOX (cutbox-rows.mjs): the forced cells as the released guide's own fill.sh prints them over the translation e690d281e368d61c… (all of the seat's roots in one cut). By AI agents, Wed Nov 11 2026. No macro, syntax, notation, axiom, sorry.
-/
import Derived.Test.YtdgdflbhjbgmdaaChecked
import GoSem.Claim
import GoSem.ClaimJoined
import GoSem.ClaimMapViews
import Derived.JoinedTies
import Derived.KernelRfl
namespace Go.Proofs.Ytdgdflbhjbgmdaa
/- THE CELL 'sum', in the pinned program and in every row, IS THE sha256 OF THE DUMP (.gsa) THAT YtdgdflbhjbgmdaaProg.lean LOADS. Nothing in Lean hashes anything: it is a label: what it is worth is what the hold of that sum in a sandbox is worth. -/
noncomputable def Try.pinned : Pinned := { name := "ytdgdflbhjbgmdaa", sum := "e690d281e368d61cd56e64f0fa3dde61aea54d8f7f87831aca1b401a3bb5f9df", checked := Try.checked }
namespace Rows
def none {H : Type} : Left H := { results := [], args := [] }

/-- 'laws.FnB64': WHATEVER THE INPUT: true; the input reads as it did. -/
def fnB64Spec : ChangeSpec := { name := "fnB64", fn := fun _ => fun
  | [d] => { results := [.lit (.bool true)], args := [d] }
  | _ => none }
def fnB64Row : OpenClaim := { program := "ytdgdflbhjbgmdaa", sum := "e690d281e368d61cd56e64f0fa3dde61aea54d8f7f87831aca1b401a3bb5f9df", func := "loop.example/g00785/laws.FnB64", spec := "fnB64", inPlace := ["internal/bytealg.IndexByteString"], apart := false }
def FnB64Said : Prop := fnB64Row.holds Try.pinned (OpenSpec.ofChange fnB64Spec)

/-- ITS FALSE NEIGHBOUR: 'it returns false'. Refute it at one input. -/
def fnB64Wrong : ChangeSpec := { name := "fnB64", fn := fun _ => fun
  | [d] => { results := [.lit (.bool false)], args := [d] }
  | _ => none }
def FnB64WrongFalsely : Prop := fnB64Row.holds Try.pinned (OpenSpec.ofChange fnB64Wrong)

/-- 'laws.FnExactPutB64': WHATEVER THE INPUT: true; the input reads as it did. -/
def fnExactPutB64Spec : ChangeSpec := { name := "fnExactPutB64", fn := fun _ => fun
  | [d] => { results := [.lit (.bool true)], args := [d] }
  | _ => none }
def fnExactPutB64Row : OpenClaim := { program := "ytdgdflbhjbgmdaa", sum := "e690d281e368d61cd56e64f0fa3dde61aea54d8f7f87831aca1b401a3bb5f9df", func := "loop.example/g00785/laws.FnExactPutB64", spec := "fnExactPutB64", apart := false }
def FnExactPutB64Said : Prop := fnExactPutB64Row.holds Try.pinned (OpenSpec.ofChange fnExactPutB64Spec)

/-- ITS FALSE NEIGHBOUR: 'it returns false'. Refute it at one input. -/
def fnExactPutB64Wrong : ChangeSpec := { name := "fnExactPutB64", fn := fun _ => fun
  | [d] => { results := [.lit (.bool false)], args := [d] }
  | _ => none }
def FnExactPutB64WrongFalsely : Prop := fnExactPutB64Row.holds Try.pinned (OpenSpec.ofChange fnExactPutB64Wrong)

/-- 'laws.FnExactGetB64': WHATEVER THE INPUT: true; the input reads as it did. -/
def fnExactGetB64Spec : ChangeSpec := { name := "fnExactGetB64", fn := fun _ => fun
  | [d] => { results := [.lit (.bool true)], args := [d] }
  | _ => none }
def fnExactGetB64Row : OpenClaim := { program := "ytdgdflbhjbgmdaa", sum := "e690d281e368d61cd56e64f0fa3dde61aea54d8f7f87831aca1b401a3bb5f9df", func := "loop.example/g00785/laws.FnExactGetB64", spec := "fnExactGetB64", inPlace := ["internal/bytealg.IndexByteString"], apart := false }
def FnExactGetB64Said : Prop := fnExactGetB64Row.holds Try.pinned (OpenSpec.ofChange fnExactGetB64Spec)

/-- ITS FALSE NEIGHBOUR: 'it returns false'. Refute it at one input. -/
def fnExactGetB64Wrong : ChangeSpec := { name := "fnExactGetB64", fn := fun _ => fun
  | [d] => { results := [.lit (.bool false)], args := [d] }
  | _ => none }
def FnExactGetB64WrongFalsely : Prop := fnExactGetB64Row.holds Try.pinned (OpenSpec.ofChange fnExactGetB64Wrong)

/- THE SECOND FORM. 'bulk': how many values and letters a reading holds, each counted each time it is reached (what is shared counts as often as it is met; a slice's spare places count too). A statement '..UptoSaid' is the law's where the arguments, and the package variables that the reading takes, are together of bulk at most 1048576: NARROWER than '..Said'. Prove '..Said' where nothing that the law and all that it calls make is longer than what came in: it says more and counts as full. Else prove '..UptoSaid'. A law counts once. -/
mutual
def uptoBulk {H : Type} : DataW H → Nat
  | .lit (.string bytes) => bytes.length + 1
  | .lit _ => 1
  | .nil => 1
  | .ptr d => uptoBulk d + 1
  | .slice elems spare => uptoBulkAll elems + uptoBulkAll spare + 1
  | .agg parts => uptoBulkAll parts + 1
  | .iface _ d => uptoBulk d + 1
  | .map entries => uptoBulkEntries entries + 1
  | .held _ => 1
def uptoBulkAll {H : Type} : List (DataW H) → Nat
  | [] => 0
  | d :: r => uptoBulk d + uptoBulkAll r
def uptoBulkEntries {H : Type} : List (Lit × DataW H) → Nat
  | [] => 0
  | x :: r => uptoBulkEntry x + uptoBulkEntries r
def uptoBulkEntry {H : Type} : Lit × DataW H → Nat
  | (.string bytes, d) => bytes.length + uptoBulk d + 1
  | (_, d) => uptoBulk d + 1
 end
def uptoSmall : (H : Type) → List (DataW H) → Bool := fun _ ds => decide (uptoBulkAll ds ≤ 1048576)
def OpenSpec.upto (s : _root_.Go.ChangeSpec) : _root_.Go.OpenSpec := { _root_.Go.OpenSpec.ofChange s with cond := some uptoSmall }

/-- 'laws.FnB64', WHERE WHAT IT READS IS OF BULK AT MOST 1048576: true; the input reads as it did. -/
def fnB64UptoRow : OpenClaim := { program := "ytdgdflbhjbgmdaa", sum := "e690d281e368d61cd56e64f0fa3dde61aea54d8f7f87831aca1b401a3bb5f9df", func := "loop.example/g00785/laws.FnB64", spec := "fnB64", inPlace := ["internal/bytealg.IndexByteString"], apart := false, narrowed := true }
def FnB64UptoSaid : Prop := fnB64UptoRow.holds Try.pinned (OpenSpec.upto fnB64Spec)

/-- 'laws.FnExactPutB64', WHERE WHAT IT READS IS OF BULK AT MOST 1048576: true; the input reads as it did. -/
def fnExactPutB64UptoRow : OpenClaim := { program := "ytdgdflbhjbgmdaa", sum := "e690d281e368d61cd56e64f0fa3dde61aea54d8f7f87831aca1b401a3bb5f9df", func := "loop.example/g00785/laws.FnExactPutB64", spec := "fnExactPutB64", apart := false, narrowed := true }
def FnExactPutB64UptoSaid : Prop := fnExactPutB64UptoRow.holds Try.pinned (OpenSpec.upto fnExactPutB64Spec)

/-- 'laws.FnExactGetB64', WHERE WHAT IT READS IS OF BULK AT MOST 1048576: true; the input reads as it did. -/
def fnExactGetB64UptoRow : OpenClaim := { program := "ytdgdflbhjbgmdaa", sum := "e690d281e368d61cd56e64f0fa3dde61aea54d8f7f87831aca1b401a3bb5f9df", func := "loop.example/g00785/laws.FnExactGetB64", spec := "fnExactGetB64", inPlace := ["internal/bytealg.IndexByteString"], apart := false, narrowed := true }
def FnExactGetB64UptoSaid : Prop := fnExactGetB64UptoRow.holds Try.pinned (OpenSpec.upto fnExactGetB64Spec)

end Rows
end Go.Proofs.Ytdgdflbhjbgmdaa
