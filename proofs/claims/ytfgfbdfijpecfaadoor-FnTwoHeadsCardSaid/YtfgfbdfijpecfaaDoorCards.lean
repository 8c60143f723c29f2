/-
  DERIVED. GIVEN WITH THE SEED: THE CARDS: each row of YtfgfbdfijpecfaaDoorRows.lean that lists a variable, with what it lists TIED to the program's text (the seventh form; the later family's looks); each row that meets fmt, with fmt's text TOLD by the authors' own Lean function (tested against real Go, not proved from fmt's source: count such statements apart). THE CARD IS WHAT COUNTS. Prove the row's statement (the work); the ties are given (YtfgfbdfijpecfaaDoorTie.lean); close each card by the builder's one call (the guide's Derived/Test/ToyasCard.lean, 'card_holds'). Laid BY PROGRAM, IN A SANDBOX (cutbox-door.mjs). By AI agents, Wed Nov 11 2026. No macro, syntax, notation, axiom, sorry.
-/
import Derived.Test.YtfgfbdfijpecfaaDoorRows
import GoSem.ClaimSeven
namespace Go.Proofs.YtfgfbdfijpecfaaDoor
namespace Rows

/-- THE TIED CARD OF 'laws.FnFields'. -/
def fnFieldsCard : Claim7 := { stood := { row := fnFieldsRow, standIns := [], harness := (true, "f8806dcdf980c5c65c8d27781c24ddf534d76d55355bde4d5c0015f87ee69397"), looks := false }, kinds := [], alts := [], laidByText := true, laidKinds := [.data, .pinned], laidTests := true, laidLooks := .later }
def FnFieldsCardSaid : Prop := Claim7.holds Tryd.pinned (.plain (OpenSpec.ofChange fnFieldsSpec)) fnFieldsCard

/-- THE TIED CARD OF 'laws.FnTwoHeads'. -/
def fnTwoHeadsCard : Claim7 := { stood := { row := fnTwoHeadsRow, standIns := [], harness := (true, "f8806dcdf980c5c65c8d27781c24ddf534d76d55355bde4d5c0015f87ee69397"), looks := false }, kinds := [], alts := [], laidByText := true, laidKinds := [.data, .pinned], laidTests := true, laidLooks := .later }
def FnTwoHeadsCardSaid : Prop := Claim7.holds Tryd.pinned (.plain (OpenSpec.ofChange fnTwoHeadsSpec)) fnTwoHeadsCard

/-- THE TIED CARD OF 'laws.FnExactFields'. -/
def fnExactFieldsCard : Claim7 := { stood := { row := fnExactFieldsRow, standIns := [], harness := (true, "f8806dcdf980c5c65c8d27781c24ddf534d76d55355bde4d5c0015f87ee69397"), looks := false }, kinds := [], alts := [], laidByText := true, laidKinds := [.data, .pinned], laidTests := true, laidLooks := .later }
def FnExactFieldsCardSaid : Prop := Claim7.holds Tryd.pinned (.plain (OpenSpec.ofChange fnExactFieldsSpec)) fnExactFieldsCard

/-- THE SECOND FORM's CARD OF 'laws.FnFields'. -/
def fnFieldsUptoCard : Claim7 := { stood := { row := fnFieldsUptoRow, standIns := [], harness := (true, "f8806dcdf980c5c65c8d27781c24ddf534d76d55355bde4d5c0015f87ee69397"), looks := false }, kinds := [], alts := [], laidByText := true, laidKinds := [.data, .pinned], laidTests := true, laidLooks := .later }
def FnFieldsUptoCardSaid : Prop := Claim7.holds Tryd.pinned (.plain (OpenSpec.upto fnFieldsSpec)) fnFieldsUptoCard

/-- THE SECOND FORM's CARD OF 'laws.FnTwoHeads'. -/
def fnTwoHeadsUptoCard : Claim7 := { stood := { row := fnTwoHeadsUptoRow, standIns := [], harness := (true, "f8806dcdf980c5c65c8d27781c24ddf534d76d55355bde4d5c0015f87ee69397"), looks := false }, kinds := [], alts := [], laidByText := true, laidKinds := [.data, .pinned], laidTests := true, laidLooks := .later }
def FnTwoHeadsUptoCardSaid : Prop := Claim7.holds Tryd.pinned (.plain (OpenSpec.upto fnTwoHeadsSpec)) fnTwoHeadsUptoCard

/-- THE SECOND FORM's CARD OF 'laws.FnExactFields'. -/
def fnExactFieldsUptoCard : Claim7 := { stood := { row := fnExactFieldsUptoRow, standIns := [], harness := (true, "f8806dcdf980c5c65c8d27781c24ddf534d76d55355bde4d5c0015f87ee69397"), looks := false }, kinds := [], alts := [], laidByText := true, laidKinds := [.data, .pinned], laidTests := true, laidLooks := .later }
def FnExactFieldsUptoCardSaid : Prop := Claim7.holds Tryd.pinned (.plain (OpenSpec.upto fnExactFieldsSpec)) fnExactFieldsUptoCard
end Rows
end Go.Proofs.YtfgfbdfijpecfaaDoor
