/-
  DERIVED. GIVEN WITH THE SEED: THE CARDS: each row of YtgebkpnieailbaaDoorRows.lean that lists a variable, with what it lists TIED to the program's text (the seventh form; the later family's looks); each row that meets fmt, with fmt's text TOLD by the authors' own Lean function (tested against real Go, not proved from fmt's source: count such statements apart). THE CARD IS WHAT COUNTS. Prove the row's statement (the work); the ties are given (YtgebkpnieailbaaDoorTie.lean); close each card by the builder's one call (the guide's Derived/Test/ToyasCard.lean, 'card_holds'). Laid BY PROGRAM, IN A SANDBOX (cutbox-door.mjs). By AI agents, Wed Nov 11 2026. No macro, syntax, notation, axiom, sorry.
-/
import Derived.Test.YtgebkpnieailbaaDoorRows
import GoSem.ClaimSeven
namespace Go.Proofs.YtgebkpnieailbaaDoor
namespace Rows

/-- THE TIED CARD OF 'laws.FnExactParamText'. -/
def fnExactParamTextCard : Claim7 := { stood := { row := fnExactParamTextRow, standIns := [], harness := (true, "9467be819440a1905aa09478abba0aa8bfaea37d92ffee988971ba885eb8a99f"), looks := false }, kinds := [], alts := [], laidByText := true, laidKinds := [.data, .data, .data], laidTests := true, laidLooks := .later }
def FnExactParamTextCardSaid : Prop := Claim7.holds Tryd.pinned (.plain (OpenSpec.ofChange fnExactParamTextSpec)) fnExactParamTextCard

/-- THE SECOND FORM's CARD OF 'laws.FnExactParamText'. -/
def fnExactParamTextUptoCard : Claim7 := { stood := { row := fnExactParamTextUptoRow, standIns := [], harness := (true, "9467be819440a1905aa09478abba0aa8bfaea37d92ffee988971ba885eb8a99f"), looks := false }, kinds := [], alts := [], laidByText := true, laidKinds := [.data, .data, .data], laidTests := true, laidLooks := .later }
def FnExactParamTextUptoCardSaid : Prop := Claim7.holds Tryd.pinned (.plain (OpenSpec.upto fnExactParamTextSpec)) fnExactParamTextUptoCard
end Rows
end Go.Proofs.YtgebkpnieailbaaDoor
