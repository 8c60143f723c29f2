/-
  DERIVED. GIVEN WITH THE SEED: THE CARDS: each row of YtplaomiegkaaiaaDoorRows.lean that lists a variable, with what it lists TIED to the program's text (the seventh form; the later family's looks); each row that meets fmt, with fmt's text TOLD by the authors' own Lean function (tested against real Go, not proved from fmt's source: count such statements apart). THE CARD IS WHAT COUNTS. Prove the row's statement (the work); the ties are given (YtplaomiegkaaiaaDoorTie.lean); close each card by the builder's one call (the guide's Derived/Test/ToyasCard.lean, 'card_holds'). Laid BY PROGRAM, IN A SANDBOX (cutbox-door.mjs). By AI agents, Wed Nov 11 2026. No macro, syntax, notation, axiom, sorry.
-/
import Derived.Test.YtplaomiegkaaiaaDoorRows
import GoSem.ClaimSeven
namespace Go.Proofs.YtplaomiegkaaiaaDoor
namespace Rows

/-- THE TIED CARD OF 'laws.FnAddrs'. -/
def fnAddrsCard : Claim7 := { stood := { row := fnAddrsRow, standIns := [], harness := (true, "8819138a6c90440023ba833ccefbd8d4c912cd277141f5bd7aff6c1587ae717e"), looks := false }, kinds := [], alts := [], laidByText := true, laidKinds := [.data, .pinned], laidTests := true, laidLooks := .later }
def FnAddrsCardSaid : Prop := Claim7.holds Tryd.pinned (.plain (OpenSpec.ofChange fnAddrsSpec)) fnAddrsCard

/-- THE TIED CARD OF 'laws.FnCommas'. -/
def fnCommasCard : Claim7 := { stood := { row := fnCommasRow, standIns := [], harness := (true, "8819138a6c90440023ba833ccefbd8d4c912cd277141f5bd7aff6c1587ae717e"), looks := false }, kinds := [], alts := [], laidByText := true, laidKinds := [.data, .pinned], laidTests := true, laidLooks := .later }
def FnCommasCardSaid : Prop := Claim7.holds Tryd.pinned (.plain (OpenSpec.ofChange fnCommasSpec)) fnCommasCard

/-- THE TIED CARD OF 'laws.FnAddrText'. -/
def fnAddrTextCard : Claim7 := { stood := { row := fnAddrTextRow, standIns := [], harness := (true, "8819138a6c90440023ba833ccefbd8d4c912cd277141f5bd7aff6c1587ae717e"), looks := false }, kinds := [], alts := [], laidByText := true, laidKinds := [.data, .data, .data], laidTests := true, laidLooks := .later }
def FnAddrTextCardSaid : Prop := Claim7.holds Tryd.pinned (.plain (OpenSpec.ofChange fnAddrTextSpec)) fnAddrTextCard

/-- THE TIED CARD OF 'laws.FnExactUnquote'. -/
def fnExactUnquoteCard : Claim7 := { stood := { row := fnExactUnquoteRow, standIns := [], harness := (true, "8819138a6c90440023ba833ccefbd8d4c912cd277141f5bd7aff6c1587ae717e"), looks := false }, kinds := [], alts := [], laidByText := true, laidKinds := [.data, .pinned], laidTests := true, laidLooks := .later }
def FnExactUnquoteCardSaid : Prop := Claim7.holds Tryd.pinned (.plain (OpenSpec.ofChange fnExactUnquoteSpec)) fnExactUnquoteCard

/-- THE TIED CARD OF 'laws.FnExactCommas'. -/
def fnExactCommasCard : Claim7 := { stood := { row := fnExactCommasRow, standIns := [], harness := (true, "8819138a6c90440023ba833ccefbd8d4c912cd277141f5bd7aff6c1587ae717e"), looks := false }, kinds := [], alts := [], laidByText := true, laidKinds := [.data, .pinned], laidTests := true, laidLooks := .later }
def FnExactCommasCardSaid : Prop := Claim7.holds Tryd.pinned (.plain (OpenSpec.ofChange fnExactCommasSpec)) fnExactCommasCard

/-- THE TIED CARD OF 'laws.FnExactReadAddrs'. -/
def fnExactReadAddrsCard : Claim7 := { stood := { row := fnExactReadAddrsRow, standIns := [], harness := (true, "8819138a6c90440023ba833ccefbd8d4c912cd277141f5bd7aff6c1587ae717e"), looks := false }, kinds := [], alts := [], laidByText := true, laidKinds := [.data, .pinned], laidTests := true, laidLooks := .later }
def FnExactReadAddrsCardSaid : Prop := Claim7.holds Tryd.pinned (.plain (OpenSpec.ofChange fnExactReadAddrsSpec)) fnExactReadAddrsCard

/-- THE TIED CARD OF 'laws.FnExactAddrText'. -/
def fnExactAddrTextCard : Claim7 := { stood := { row := fnExactAddrTextRow, standIns := [], harness := (true, "8819138a6c90440023ba833ccefbd8d4c912cd277141f5bd7aff6c1587ae717e"), looks := false }, kinds := [], alts := [], laidByText := true, laidKinds := [.data, .data, .data], laidTests := true, laidLooks := .later }
def FnExactAddrTextCardSaid : Prop := Claim7.holds Tryd.pinned (.plain (OpenSpec.ofChange fnExactAddrTextSpec)) fnExactAddrTextCard

/-- THE SECOND FORM's CARD OF 'laws.FnAddrs'. -/
def fnAddrsUptoCard : Claim7 := { stood := { row := fnAddrsUptoRow, standIns := [], harness := (true, "8819138a6c90440023ba833ccefbd8d4c912cd277141f5bd7aff6c1587ae717e"), looks := false }, kinds := [], alts := [], laidByText := true, laidKinds := [.data, .pinned], laidTests := true, laidLooks := .later }
def FnAddrsUptoCardSaid : Prop := Claim7.holds Tryd.pinned (.plain (OpenSpec.upto fnAddrsSpec)) fnAddrsUptoCard

/-- THE SECOND FORM's CARD OF 'laws.FnCommas'. -/
def fnCommasUptoCard : Claim7 := { stood := { row := fnCommasUptoRow, standIns := [], harness := (true, "8819138a6c90440023ba833ccefbd8d4c912cd277141f5bd7aff6c1587ae717e"), looks := false }, kinds := [], alts := [], laidByText := true, laidKinds := [.data, .pinned], laidTests := true, laidLooks := .later }
def FnCommasUptoCardSaid : Prop := Claim7.holds Tryd.pinned (.plain (OpenSpec.upto fnCommasSpec)) fnCommasUptoCard

/-- THE SECOND FORM's CARD OF 'laws.FnAddrText'. -/
def fnAddrTextUptoCard : Claim7 := { stood := { row := fnAddrTextUptoRow, standIns := [], harness := (true, "8819138a6c90440023ba833ccefbd8d4c912cd277141f5bd7aff6c1587ae717e"), looks := false }, kinds := [], alts := [], laidByText := true, laidKinds := [.data, .data, .data], laidTests := true, laidLooks := .later }
def FnAddrTextUptoCardSaid : Prop := Claim7.holds Tryd.pinned (.plain (OpenSpec.upto fnAddrTextSpec)) fnAddrTextUptoCard

/-- THE SECOND FORM's CARD OF 'laws.FnExactUnquote'. -/
def fnExactUnquoteUptoCard : Claim7 := { stood := { row := fnExactUnquoteUptoRow, standIns := [], harness := (true, "8819138a6c90440023ba833ccefbd8d4c912cd277141f5bd7aff6c1587ae717e"), looks := false }, kinds := [], alts := [], laidByText := true, laidKinds := [.data, .pinned], laidTests := true, laidLooks := .later }
def FnExactUnquoteUptoCardSaid : Prop := Claim7.holds Tryd.pinned (.plain (OpenSpec.upto fnExactUnquoteSpec)) fnExactUnquoteUptoCard

/-- THE SECOND FORM's CARD OF 'laws.FnExactCommas'. -/
def fnExactCommasUptoCard : Claim7 := { stood := { row := fnExactCommasUptoRow, standIns := [], harness := (true, "8819138a6c90440023ba833ccefbd8d4c912cd277141f5bd7aff6c1587ae717e"), looks := false }, kinds := [], alts := [], laidByText := true, laidKinds := [.data, .pinned], laidTests := true, laidLooks := .later }
def FnExactCommasUptoCardSaid : Prop := Claim7.holds Tryd.pinned (.plain (OpenSpec.upto fnExactCommasSpec)) fnExactCommasUptoCard

/-- THE SECOND FORM's CARD OF 'laws.FnExactReadAddrs'. -/
def fnExactReadAddrsUptoCard : Claim7 := { stood := { row := fnExactReadAddrsUptoRow, standIns := [], harness := (true, "8819138a6c90440023ba833ccefbd8d4c912cd277141f5bd7aff6c1587ae717e"), looks := false }, kinds := [], alts := [], laidByText := true, laidKinds := [.data, .pinned], laidTests := true, laidLooks := .later }
def FnExactReadAddrsUptoCardSaid : Prop := Claim7.holds Tryd.pinned (.plain (OpenSpec.upto fnExactReadAddrsSpec)) fnExactReadAddrsUptoCard

/-- THE SECOND FORM's CARD OF 'laws.FnExactAddrText'. -/
def fnExactAddrTextUptoCard : Claim7 := { stood := { row := fnExactAddrTextUptoRow, standIns := [], harness := (true, "8819138a6c90440023ba833ccefbd8d4c912cd277141f5bd7aff6c1587ae717e"), looks := false }, kinds := [], alts := [], laidByText := true, laidKinds := [.data, .data, .data], laidTests := true, laidLooks := .later }
def FnExactAddrTextUptoCardSaid : Prop := Claim7.holds Tryd.pinned (.plain (OpenSpec.upto fnExactAddrTextSpec)) fnExactAddrTextUptoCard
end Rows
end Go.Proofs.YtplaomiegkaaiaaDoor
