/-
  DERIVED. GIVEN WITH THE SEED: THE CARDS: each row of YtgebkpnieailbaaGreatDoorRows.lean that lists a variable, with what it lists TIED to the program's text (the seventh form; the later family's looks); each row that meets fmt, with fmt's text TOLD by the authors' own Lean function (tested against real Go, not proved from fmt's source: count such statements apart). THE CARD IS WHAT COUNTS. Prove the row's statement (the work); the ties are given (YtgebkpnieailbaaGreatDoorTie.lean); close each card by the builder's one call (the guide's Derived/Test/ToyasCard.lean, 'card_holds'). Laid BY PROGRAM, IN A SANDBOX (cutbox-door.mjs). By AI agents, Wed Nov 11 2026. No macro, syntax, notation, axiom, sorry.
-/
import Derived.Test.YtgebkpnieailbaaGreatDoorRows
import GoSem.ClaimSeven
namespace Go.Proofs.YtgebkpnieailbaaGreatDoor
namespace Rows

/-- THE TIED CARD OF 'laws.FnTree'. -/
def fnTreeCard : Claim7 := { stood := { row := fnTreeRow, standIns := [], harness := (true, "ff3a7487747a5aabbf58a3aead905196c51a8c8a744453690ceee15335f3d196"), looks := true }, kinds := [], alts := [], laidByText := true, laidKinds := [.data, .pinned], laidTests := true, laidLooks := .later }
def FnTreeCardSaid : Prop := Claim7.holds Tryz.pinned (.plain (OpenSpec.ofChange fnTreeSpec)) fnTreeCard

/-- THE TIED CARD OF 'laws.FnPart'. -/
def fnPartCard : Claim7 := { stood := { row := fnPartRow, standIns := [], harness := (true, "ff3a7487747a5aabbf58a3aead905196c51a8c8a744453690ceee15335f3d196"), looks := true }, kinds := [], alts := [], laidByText := true, laidKinds := [.data, .pinned], laidTests := true, laidLooks := .later }
def FnPartCardSaid : Prop := Claim7.holds Tryz.pinned (.plain (OpenSpec.ofChange fnPartSpec)) fnPartCard

/-- THE TIED CARD OF 'laws.FnEnvelope'. -/
def fnEnvelopeCard : Claim7 := { stood := { row := fnEnvelopeRow, standIns := [], harness := (true, "ff3a7487747a5aabbf58a3aead905196c51a8c8a744453690ceee15335f3d196"), looks := true }, kinds := [], alts := [], laidByText := true, laidKinds := [.data, .data, .data, .data, .pinned], laidTests := true, laidLooks := .later }
def FnEnvelopeCardSaid : Prop := Claim7.holds Tryz.pinned (.plain (OpenSpec.ofChange fnEnvelopeSpec)) fnEnvelopeCard

/-- THE TIED CARD OF 'laws.FnShape'. -/
def fnShapeCard : Claim7 := { stood := { row := fnShapeRow, standIns := [], harness := (true, "ff3a7487747a5aabbf58a3aead905196c51a8c8a744453690ceee15335f3d196"), looks := true }, kinds := [], alts := [], laidByText := true, laidKinds := [.data, .data, .data, .data, .pinned], laidTests := true, laidLooks := .later }
def FnShapeCardSaid : Prop := Claim7.holds Tryz.pinned (.plain (OpenSpec.ofChange fnShapeSpec)) fnShapeCard

/-- THE TIED CARD OF 'laws.FnNested'. -/
def fnNestedCard : Claim7 := { stood := { row := fnNestedRow, standIns := [], harness := (true, "ff3a7487747a5aabbf58a3aead905196c51a8c8a744453690ceee15335f3d196"), looks := true }, kinds := [], alts := [], laidByText := true, laidKinds := [.data, .data, .data, .data, .pinned], laidTests := true, laidLooks := .later }
def FnNestedCardSaid : Prop := Claim7.holds Tryz.pinned (.plain (OpenSpec.ofChange fnNestedSpec)) fnNestedCard

/-- THE TIED CARD OF 'laws.FnKids'. -/
def fnKidsCard : Claim7 := { stood := { row := fnKidsRow, standIns := [], harness := (true, "ff3a7487747a5aabbf58a3aead905196c51a8c8a744453690ceee15335f3d196"), looks := true }, kinds := [], alts := [], laidByText := true, laidKinds := [.data, .data, .data, .data, .pinned], laidTests := true, laidLooks := .later }
def FnKidsCardSaid : Prop := Claim7.holds Tryz.pinned (.plain (OpenSpec.ofChange fnKidsSpec)) fnKidsCard

/-- THE TIED CARD OF 'laws.FnExactEnvelope'. -/
def fnExactEnvelopeCard : Claim7 := { stood := { row := fnExactEnvelopeRow, standIns := [], harness := (true, "ff3a7487747a5aabbf58a3aead905196c51a8c8a744453690ceee15335f3d196"), looks := true }, kinds := [], alts := [], laidByText := true, laidKinds := [.data, .data, .data, .data, .pinned], laidTests := true, laidLooks := .later }
def FnExactEnvelopeCardSaid : Prop := Claim7.holds Tryz.pinned (.plain (OpenSpec.ofChange fnExactEnvelopeSpec)) fnExactEnvelopeCard

/-- THE TIED CARD OF 'laws.FnExactShape'. -/
def fnExactShapeCard : Claim7 := { stood := { row := fnExactShapeRow, standIns := [], harness := (true, "ff3a7487747a5aabbf58a3aead905196c51a8c8a744453690ceee15335f3d196"), looks := true }, kinds := [], alts := [], laidByText := true, laidKinds := [.data, .data, .data, .data, .pinned], laidTests := true, laidLooks := .later }
def FnExactShapeCardSaid : Prop := Claim7.holds Tryz.pinned (.plain (OpenSpec.ofChange fnExactShapeSpec)) fnExactShapeCard

/-- THE SECOND FORM's CARD OF 'laws.FnTree'. -/
def fnTreeUptoCard : Claim7 := { stood := { row := fnTreeUptoRow, standIns := [], harness := (true, "ff3a7487747a5aabbf58a3aead905196c51a8c8a744453690ceee15335f3d196"), looks := true }, kinds := [], alts := [], laidByText := true, laidKinds := [.data, .pinned], laidTests := true, laidLooks := .later }
def FnTreeUptoCardSaid : Prop := Claim7.holds Tryz.pinned (.plain (OpenSpec.upto fnTreeSpec)) fnTreeUptoCard

/-- THE SECOND FORM's CARD OF 'laws.FnPart'. -/
def fnPartUptoCard : Claim7 := { stood := { row := fnPartUptoRow, standIns := [], harness := (true, "ff3a7487747a5aabbf58a3aead905196c51a8c8a744453690ceee15335f3d196"), looks := true }, kinds := [], alts := [], laidByText := true, laidKinds := [.data, .pinned], laidTests := true, laidLooks := .later }
def FnPartUptoCardSaid : Prop := Claim7.holds Tryz.pinned (.plain (OpenSpec.upto fnPartSpec)) fnPartUptoCard

/-- THE SECOND FORM's CARD OF 'laws.FnEnvelope'. -/
def fnEnvelopeUptoCard : Claim7 := { stood := { row := fnEnvelopeUptoRow, standIns := [], harness := (true, "ff3a7487747a5aabbf58a3aead905196c51a8c8a744453690ceee15335f3d196"), looks := true }, kinds := [], alts := [], laidByText := true, laidKinds := [.data, .data, .data, .data, .pinned], laidTests := true, laidLooks := .later }
def FnEnvelopeUptoCardSaid : Prop := Claim7.holds Tryz.pinned (.plain (OpenSpec.upto fnEnvelopeSpec)) fnEnvelopeUptoCard

/-- THE SECOND FORM's CARD OF 'laws.FnShape'. -/
def fnShapeUptoCard : Claim7 := { stood := { row := fnShapeUptoRow, standIns := [], harness := (true, "ff3a7487747a5aabbf58a3aead905196c51a8c8a744453690ceee15335f3d196"), looks := true }, kinds := [], alts := [], laidByText := true, laidKinds := [.data, .data, .data, .data, .pinned], laidTests := true, laidLooks := .later }
def FnShapeUptoCardSaid : Prop := Claim7.holds Tryz.pinned (.plain (OpenSpec.upto fnShapeSpec)) fnShapeUptoCard

/-- THE SECOND FORM's CARD OF 'laws.FnNested'. -/
def fnNestedUptoCard : Claim7 := { stood := { row := fnNestedUptoRow, standIns := [], harness := (true, "ff3a7487747a5aabbf58a3aead905196c51a8c8a744453690ceee15335f3d196"), looks := true }, kinds := [], alts := [], laidByText := true, laidKinds := [.data, .data, .data, .data, .pinned], laidTests := true, laidLooks := .later }
def FnNestedUptoCardSaid : Prop := Claim7.holds Tryz.pinned (.plain (OpenSpec.upto fnNestedSpec)) fnNestedUptoCard

/-- THE SECOND FORM's CARD OF 'laws.FnKids'. -/
def fnKidsUptoCard : Claim7 := { stood := { row := fnKidsUptoRow, standIns := [], harness := (true, "ff3a7487747a5aabbf58a3aead905196c51a8c8a744453690ceee15335f3d196"), looks := true }, kinds := [], alts := [], laidByText := true, laidKinds := [.data, .data, .data, .data, .pinned], laidTests := true, laidLooks := .later }
def FnKidsUptoCardSaid : Prop := Claim7.holds Tryz.pinned (.plain (OpenSpec.upto fnKidsSpec)) fnKidsUptoCard

/-- THE SECOND FORM's CARD OF 'laws.FnExactEnvelope'. -/
def fnExactEnvelopeUptoCard : Claim7 := { stood := { row := fnExactEnvelopeUptoRow, standIns := [], harness := (true, "ff3a7487747a5aabbf58a3aead905196c51a8c8a744453690ceee15335f3d196"), looks := true }, kinds := [], alts := [], laidByText := true, laidKinds := [.data, .data, .data, .data, .pinned], laidTests := true, laidLooks := .later }
def FnExactEnvelopeUptoCardSaid : Prop := Claim7.holds Tryz.pinned (.plain (OpenSpec.upto fnExactEnvelopeSpec)) fnExactEnvelopeUptoCard

/-- THE SECOND FORM's CARD OF 'laws.FnExactShape'. -/
def fnExactShapeUptoCard : Claim7 := { stood := { row := fnExactShapeUptoRow, standIns := [], harness := (true, "ff3a7487747a5aabbf58a3aead905196c51a8c8a744453690ceee15335f3d196"), looks := true }, kinds := [], alts := [], laidByText := true, laidKinds := [.data, .data, .data, .data, .pinned], laidTests := true, laidLooks := .later }
def FnExactShapeUptoCardSaid : Prop := Claim7.holds Tryz.pinned (.plain (OpenSpec.upto fnExactShapeSpec)) fnExactShapeUptoCard
end Rows
end Go.Proofs.YtgebkpnieailbaaGreatDoor
