/-
  DERIVED. GIVEN WITH THE SEED: THE CARDS: each row of YtconopkmiicjeaaDoorRows.lean that lists a variable, with what it lists TIED to the program's text (the seventh form; the later family's looks); each row that meets fmt, with fmt's text TOLD by the authors' own Lean function (tested against real Go, not proved from fmt's source: count such statements apart). THE CARD IS WHAT COUNTS. Prove the row's statement (the work); the ties are given (YtconopkmiicjeaaDoorTie.lean); close each card by the builder's one call (the guide's Derived/Test/ToyasCard.lean, 'card_holds'). Laid BY PROGRAM, IN A SANDBOX (cutbox-door.mjs). By AI agents, Wed Nov 11 2026. No macro, syntax, notation, axiom, sorry.
-/
import Derived.Test.YtconopkmiicjeaaDoorRows
import GoSem.ClaimSeven
namespace Go.Proofs.YtconopkmiicjeaaDoor
namespace Rows

/-- THE TIED CARD OF 'laws.FnString'. -/
def fnStringCard : Claim7 := { stood := { row := fnStringRow, standIns := [], harness := (true, "78ae9b92565017ea641b3cc2339682f73612a2a0ba558d86725f631f48f16562"), looks := true }, kinds := [], alts := [], laidByText := true, laidKinds := [.data, .data, .data, .sentinel, .sentinel], laidTests := true, laidLooks := .later }
def FnStringCardSaid : Prop := Claim7.holds Tryd.pinned (.plain (OpenSpec.ofChange fnStringSpec)) fnStringCard

/-- THE TIED CARD OF 'laws.FnWord'. -/
def fnWordCard : Claim7 := { stood := { row := fnWordRow, standIns := [], harness := (true, "78ae9b92565017ea641b3cc2339682f73612a2a0ba558d86725f631f48f16562"), looks := true }, kinds := [], alts := [], laidByText := true, laidKinds := [.data, .data, .data, .sentinel, .sentinel], laidTests := true, laidLooks := .later }
def FnWordCardSaid : Prop := Claim7.holds Tryd.pinned (.plain (OpenSpec.ofChange fnWordSpec)) fnWordCard

/-- THE TIED CARD OF 'laws.FnAtom'. -/
def fnAtomCard : Claim7 := { stood := { row := fnAtomRow, standIns := [], harness := (true, "78ae9b92565017ea641b3cc2339682f73612a2a0ba558d86725f631f48f16562"), looks := true }, kinds := [], alts := [], laidByText := true, laidKinds := [.data, .data, .data], laidTests := true, laidLooks := .later }
def FnAtomCardSaid : Prop := Claim7.holds Tryd.pinned (.plain (OpenSpec.ofChange fnAtomSpec)) fnAtomCard

/-- THE TIED CARD OF 'laws.FnPair'. -/
def fnPairCard : Claim7 := { stood := { row := fnPairRow, standIns := [], harness := (true, "78ae9b92565017ea641b3cc2339682f73612a2a0ba558d86725f631f48f16562"), looks := true }, kinds := [], alts := [], laidByText := true, laidKinds := [.data, .data, .data, .sentinel, .sentinel], laidTests := true, laidLooks := .later }
def FnPairCardSaid : Prop := Claim7.holds Tryd.pinned (.plain (OpenSpec.ofChange fnPairSpec)) fnPairCard

/-- THE TIED CARD OF 'laws.FnExactPutString'. -/
def fnExactPutStringCard : Claim7 := { stood := { row := fnExactPutStringRow, standIns := [], harness := (true, "78ae9b92565017ea641b3cc2339682f73612a2a0ba558d86725f631f48f16562"), looks := true }, kinds := [], alts := [], laidByText := true, laidKinds := [.data, .data, .data], laidTests := true, laidLooks := .later }
def FnExactPutStringCardSaid : Prop := Claim7.holds Tryd.pinned (.plain (OpenSpec.ofChange fnExactPutStringSpec)) fnExactPutStringCard

/-- THE TIED CARD OF 'laws.FnExactPutWord'. -/
def fnExactPutWordCard : Claim7 := { stood := { row := fnExactPutWordRow, standIns := [], harness := (true, "78ae9b92565017ea641b3cc2339682f73612a2a0ba558d86725f631f48f16562"), looks := true }, kinds := [], alts := [], laidByText := true, laidKinds := [.data, .data, .data], laidTests := true, laidLooks := .later }
def FnExactPutWordCardSaid : Prop := Claim7.holds Tryd.pinned (.plain (OpenSpec.ofChange fnExactPutWordSpec)) fnExactPutWordCard

/-- THE TIED CARD OF 'laws.FnExactGetWord'. -/
def fnExactGetWordCard : Claim7 := { stood := { row := fnExactGetWordRow, standIns := [], harness := (true, "78ae9b92565017ea641b3cc2339682f73612a2a0ba558d86725f631f48f16562"), looks := true }, kinds := [], alts := [], laidByText := true, laidKinds := [.data, .data, .data, .sentinel, .sentinel], laidTests := true, laidLooks := .later }
def FnExactGetWordCardSaid : Prop := Claim7.holds Tryd.pinned (.plain (OpenSpec.ofChange fnExactGetWordSpec)) fnExactGetWordCard

/-- THE TIED CARD OF 'laws.FnExactNString'. -/
def fnExactNStringCard : Claim7 := { stood := { row := fnExactNStringRow, standIns := [], harness := (true, "78ae9b92565017ea641b3cc2339682f73612a2a0ba558d86725f631f48f16562"), looks := true }, kinds := [], alts := [], laidByText := true, laidKinds := [.data, .data, .data], laidTests := true, laidLooks := .later }
def FnExactNStringCardSaid : Prop := Claim7.holds Tryd.pinned (.plain (OpenSpec.ofChange fnExactNStringSpec)) fnExactNStringCard

/-- THE SECOND FORM's CARD OF 'laws.FnString'. -/
def fnStringUptoCard : Claim7 := { stood := { row := fnStringUptoRow, standIns := [], harness := (true, "78ae9b92565017ea641b3cc2339682f73612a2a0ba558d86725f631f48f16562"), looks := true }, kinds := [], alts := [], laidByText := true, laidKinds := [.data, .data, .data, .sentinel, .sentinel], laidTests := true, laidLooks := .later }
def FnStringUptoCardSaid : Prop := Claim7.holds Tryd.pinned (.plain (OpenSpec.upto fnStringSpec)) fnStringUptoCard

/-- THE SECOND FORM's CARD OF 'laws.FnWord'. -/
def fnWordUptoCard : Claim7 := { stood := { row := fnWordUptoRow, standIns := [], harness := (true, "78ae9b92565017ea641b3cc2339682f73612a2a0ba558d86725f631f48f16562"), looks := true }, kinds := [], alts := [], laidByText := true, laidKinds := [.data, .data, .data, .sentinel, .sentinel], laidTests := true, laidLooks := .later }
def FnWordUptoCardSaid : Prop := Claim7.holds Tryd.pinned (.plain (OpenSpec.upto fnWordSpec)) fnWordUptoCard

/-- THE SECOND FORM's CARD OF 'laws.FnAtom'. -/
def fnAtomUptoCard : Claim7 := { stood := { row := fnAtomUptoRow, standIns := [], harness := (true, "78ae9b92565017ea641b3cc2339682f73612a2a0ba558d86725f631f48f16562"), looks := true }, kinds := [], alts := [], laidByText := true, laidKinds := [.data, .data, .data], laidTests := true, laidLooks := .later }
def FnAtomUptoCardSaid : Prop := Claim7.holds Tryd.pinned (.plain (OpenSpec.upto fnAtomSpec)) fnAtomUptoCard

/-- THE SECOND FORM's CARD OF 'laws.FnPair'. -/
def fnPairUptoCard : Claim7 := { stood := { row := fnPairUptoRow, standIns := [], harness := (true, "78ae9b92565017ea641b3cc2339682f73612a2a0ba558d86725f631f48f16562"), looks := true }, kinds := [], alts := [], laidByText := true, laidKinds := [.data, .data, .data, .sentinel, .sentinel], laidTests := true, laidLooks := .later }
def FnPairUptoCardSaid : Prop := Claim7.holds Tryd.pinned (.plain (OpenSpec.upto fnPairSpec)) fnPairUptoCard

/-- THE SECOND FORM's CARD OF 'laws.FnExactPutString'. -/
def fnExactPutStringUptoCard : Claim7 := { stood := { row := fnExactPutStringUptoRow, standIns := [], harness := (true, "78ae9b92565017ea641b3cc2339682f73612a2a0ba558d86725f631f48f16562"), looks := true }, kinds := [], alts := [], laidByText := true, laidKinds := [.data, .data, .data], laidTests := true, laidLooks := .later }
def FnExactPutStringUptoCardSaid : Prop := Claim7.holds Tryd.pinned (.plain (OpenSpec.upto fnExactPutStringSpec)) fnExactPutStringUptoCard

/-- THE SECOND FORM's CARD OF 'laws.FnExactPutWord'. -/
def fnExactPutWordUptoCard : Claim7 := { stood := { row := fnExactPutWordUptoRow, standIns := [], harness := (true, "78ae9b92565017ea641b3cc2339682f73612a2a0ba558d86725f631f48f16562"), looks := true }, kinds := [], alts := [], laidByText := true, laidKinds := [.data, .data, .data], laidTests := true, laidLooks := .later }
def FnExactPutWordUptoCardSaid : Prop := Claim7.holds Tryd.pinned (.plain (OpenSpec.upto fnExactPutWordSpec)) fnExactPutWordUptoCard

/-- THE SECOND FORM's CARD OF 'laws.FnExactGetWord'. -/
def fnExactGetWordUptoCard : Claim7 := { stood := { row := fnExactGetWordUptoRow, standIns := [], harness := (true, "78ae9b92565017ea641b3cc2339682f73612a2a0ba558d86725f631f48f16562"), looks := true }, kinds := [], alts := [], laidByText := true, laidKinds := [.data, .data, .data, .sentinel, .sentinel], laidTests := true, laidLooks := .later }
def FnExactGetWordUptoCardSaid : Prop := Claim7.holds Tryd.pinned (.plain (OpenSpec.upto fnExactGetWordSpec)) fnExactGetWordUptoCard

/-- THE SECOND FORM's CARD OF 'laws.FnExactNString'. -/
def fnExactNStringUptoCard : Claim7 := { stood := { row := fnExactNStringUptoRow, standIns := [], harness := (true, "78ae9b92565017ea641b3cc2339682f73612a2a0ba558d86725f631f48f16562"), looks := true }, kinds := [], alts := [], laidByText := true, laidKinds := [.data, .data, .data], laidTests := true, laidLooks := .later }
def FnExactNStringUptoCardSaid : Prop := Claim7.holds Tryd.pinned (.plain (OpenSpec.upto fnExactNStringSpec)) fnExactNStringUptoCard
end Rows
end Go.Proofs.YtconopkmiicjeaaDoor
