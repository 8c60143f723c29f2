/-
  DERIVED. GIVEN WITH THE SEED: THE CARDS: each row of YtjleadlecdcdeaaDoorRows.lean that lists a variable, with what it lists TIED to the program's text (the seventh form; the later family's looks); each row that meets fmt, with fmt's text TOLD by the authors' own Lean function (tested against real Go, not proved from fmt's source: count such statements apart). THE CARD IS WHAT COUNTS. Prove the row's statement (the work); the ties are given (YtjleadlecdcdeaaDoorTie.lean); close each card by the builder's one call (the guide's Derived/Test/ToyasCard.lean, 'card_holds'). Laid BY PROGRAM, IN A SANDBOX (cutbox-door.mjs). By AI agents, Wed Nov 11 2026. No macro, syntax, notation, axiom, sorry.
-/
import Derived.Test.YtjleadlecdcdeaaDoorRows
import GoSem.ClaimSeven
namespace Go.Proofs.YtjleadlecdcdeaaDoor
namespace Rows

/-- THE TIED CARD OF 'laws.FnKind'. -/
def fnKindCard : Claim7 := { stood := { row := fnKindRow, standIns := [], harness := (true, "dc9399f1af93f2a3645a600e0deedd0c09759e51843b9fd2470188e962aeae10"), looks := false }, kinds := [], alts := [], laidByText := true, laidKinds := [.data, .pinned], laidTests := true, laidLooks := .later }
def FnKindCardSaid : Prop := Claim7.holds Tryd.pinned (.plain (OpenSpec.ofChange fnKindSpec)) fnKindCard

/-- THE TIED CARD OF 'laws.FnExactReadKind'. -/
def fnExactReadKindCard : Claim7 := { stood := { row := fnExactReadKindRow, standIns := [], harness := (true, "dc9399f1af93f2a3645a600e0deedd0c09759e51843b9fd2470188e962aeae10"), looks := false }, kinds := [], alts := [], laidByText := true, laidKinds := [.data, .pinned], laidTests := true, laidLooks := .later }
def FnExactReadKindCardSaid : Prop := Claim7.holds Tryd.pinned (.plain (OpenSpec.ofChange fnExactReadKindSpec)) fnExactReadKindCard

/-- THE SECOND FORM's CARD OF 'laws.FnKind'. -/
def fnKindUptoCard : Claim7 := { stood := { row := fnKindUptoRow, standIns := [], harness := (true, "dc9399f1af93f2a3645a600e0deedd0c09759e51843b9fd2470188e962aeae10"), looks := false }, kinds := [], alts := [], laidByText := true, laidKinds := [.data, .pinned], laidTests := true, laidLooks := .later }
def FnKindUptoCardSaid : Prop := Claim7.holds Tryd.pinned (.plain (OpenSpec.upto fnKindSpec)) fnKindUptoCard

/-- THE SECOND FORM's CARD OF 'laws.FnExactReadKind'. -/
def fnExactReadKindUptoCard : Claim7 := { stood := { row := fnExactReadKindUptoRow, standIns := [], harness := (true, "dc9399f1af93f2a3645a600e0deedd0c09759e51843b9fd2470188e962aeae10"), looks := false }, kinds := [], alts := [], laidByText := true, laidKinds := [.data, .pinned], laidTests := true, laidLooks := .later }
def FnExactReadKindUptoCardSaid : Prop := Claim7.holds Tryd.pinned (.plain (OpenSpec.upto fnExactReadKindSpec)) fnExactReadKindUptoCard
end Rows
end Go.Proofs.YtjleadlecdcdeaaDoor
