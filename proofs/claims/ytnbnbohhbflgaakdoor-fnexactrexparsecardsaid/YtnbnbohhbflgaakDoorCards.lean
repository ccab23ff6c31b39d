/-
  DERIVED. GIVEN WITH THE SEED: THE CARDS: each row of YtnbnbohhbflgaakDoorRows.lean that lists a variable, with what it lists TIED to the program's text (the seventh form; the later family's looks); each row that meets fmt, with fmt's text TOLD by the authors' own Lean function (tested against real Go, not proved from fmt's source: count such statements apart). THE CARD IS WHAT COUNTS. Prove the row's statement (the work); the ties are given (YtnbnbohhbflgaakDoorTie.lean); close each card by the builder's one call (the guide's Derived/Test/ToyasCard.lean, 'card_holds'). Laid BY PROGRAM, IN A SANDBOX (cutbox-door.mjs). By AI agents, Wed Nov 11 2026. No macro, syntax, notation, axiom, sorry.
-/
import Derived.Test.YtnbnbohhbflgaakDoorRows
import GoSem.ClaimSeven
namespace Go.Proofs.YtnbnbohhbflgaakDoor
namespace Rows

/-- THE TIED CARD OF 'laws.FnExactDecText'. -/
def fnExactDecTextCard : Claim7 := { stood := { row := fnExactDecTextRow, standIns := [], harness := (true, "cde8bfc4007ccb0a72b3655df69570f083cf0e606c0ed38ac0fd6c751be2fcf1"), looks := true }, kinds := [], alts := [], laidByText := true, laidKinds := [.data, .data, .data, .data, .sentinel, .pinned], laidTests := true, laidLooks := .later }
def FnExactDecTextCardSaid : Prop := Claim7.holds Tryd.pinned (.plain (OpenSpec.ofChange fnExactDecTextSpec)) fnExactDecTextCard

/-- THE TIED CARD OF 'laws.FnExactDecFront'. -/
def fnExactDecFrontCard : Claim7 := { stood := { row := fnExactDecFrontRow, standIns := [], harness := (true, "cde8bfc4007ccb0a72b3655df69570f083cf0e606c0ed38ac0fd6c751be2fcf1"), looks := true }, kinds := [], alts := [], laidByText := true, laidKinds := [.sentinel], laidTests := true, laidLooks := .later }
def FnExactDecFrontCardSaid : Prop := Claim7.holds Tryd.pinned (.plain (OpenSpec.ofChange fnExactDecFrontSpec)) fnExactDecFrontCard

/-- THE TIED CARD OF 'laws.FnExactDecLooks'. -/
def fnExactDecLooksCard : Claim7 := { stood := { row := fnExactDecLooksRow, standIns := [], harness := (true, "cde8bfc4007ccb0a72b3655df69570f083cf0e606c0ed38ac0fd6c751be2fcf1"), looks := true }, kinds := [], alts := [], laidByText := true, laidKinds := [.sentinel], laidTests := true, laidLooks := .later }
def FnExactDecLooksCardSaid : Prop := Claim7.holds Tryd.pinned (.plain (OpenSpec.ofChange fnExactDecLooksSpec)) fnExactDecLooksCard

/-- THE TIED CARD OF 'laws.FnExactRexParse'. -/
def fnExactRexParseCard : Claim7 := { stood := { row := fnExactRexParseRow, standIns := [], harness := (true, "cde8bfc4007ccb0a72b3655df69570f083cf0e606c0ed38ac0fd6c751be2fcf1"), looks := true }, kinds := [], alts := [], laidByText := true, laidKinds := [.sentinel], laidTests := true, laidLooks := .later }
def FnExactRexParseCardSaid : Prop := Claim7.holds Tryd.pinned (.plain (OpenSpec.ofChange fnExactRexParseSpec)) fnExactRexParseCard

/-- THE TIED CARD OF 'laws.FnExactRexOk'. -/
def fnExactRexOkCard : Claim7 := { stood := { row := fnExactRexOkRow, standIns := [], harness := (true, "cde8bfc4007ccb0a72b3655df69570f083cf0e606c0ed38ac0fd6c751be2fcf1"), looks := true }, kinds := [], alts := [], laidByText := true, laidKinds := [.sentinel], laidTests := true, laidLooks := .later }
def FnExactRexOkCardSaid : Prop := Claim7.holds Tryd.pinned (.plain (OpenSpec.ofChange fnExactRexOkSpec)) fnExactRexOkCard

/-- THE SECOND FORM's CARD OF 'laws.FnExactDecText'. -/
def fnExactDecTextUptoCard : Claim7 := { stood := { row := fnExactDecTextUptoRow, standIns := [], harness := (true, "cde8bfc4007ccb0a72b3655df69570f083cf0e606c0ed38ac0fd6c751be2fcf1"), looks := true }, kinds := [], alts := [], laidByText := true, laidKinds := [.data, .data, .data, .data, .sentinel, .pinned], laidTests := true, laidLooks := .later }
def FnExactDecTextUptoCardSaid : Prop := Claim7.holds Tryd.pinned (.plain (OpenSpec.upto fnExactDecTextSpec)) fnExactDecTextUptoCard

/-- THE SECOND FORM's CARD OF 'laws.FnExactDecFront'. -/
def fnExactDecFrontUptoCard : Claim7 := { stood := { row := fnExactDecFrontUptoRow, standIns := [], harness := (true, "cde8bfc4007ccb0a72b3655df69570f083cf0e606c0ed38ac0fd6c751be2fcf1"), looks := true }, kinds := [], alts := [], laidByText := true, laidKinds := [.sentinel], laidTests := true, laidLooks := .later }
def FnExactDecFrontUptoCardSaid : Prop := Claim7.holds Tryd.pinned (.plain (OpenSpec.upto fnExactDecFrontSpec)) fnExactDecFrontUptoCard

/-- THE SECOND FORM's CARD OF 'laws.FnExactDecLooks'. -/
def fnExactDecLooksUptoCard : Claim7 := { stood := { row := fnExactDecLooksUptoRow, standIns := [], harness := (true, "cde8bfc4007ccb0a72b3655df69570f083cf0e606c0ed38ac0fd6c751be2fcf1"), looks := true }, kinds := [], alts := [], laidByText := true, laidKinds := [.sentinel], laidTests := true, laidLooks := .later }
def FnExactDecLooksUptoCardSaid : Prop := Claim7.holds Tryd.pinned (.plain (OpenSpec.upto fnExactDecLooksSpec)) fnExactDecLooksUptoCard

/-- THE SECOND FORM's CARD OF 'laws.FnExactRexParse'. -/
def fnExactRexParseUptoCard : Claim7 := { stood := { row := fnExactRexParseUptoRow, standIns := [], harness := (true, "cde8bfc4007ccb0a72b3655df69570f083cf0e606c0ed38ac0fd6c751be2fcf1"), looks := true }, kinds := [], alts := [], laidByText := true, laidKinds := [.sentinel], laidTests := true, laidLooks := .later }
def FnExactRexParseUptoCardSaid : Prop := Claim7.holds Tryd.pinned (.plain (OpenSpec.upto fnExactRexParseSpec)) fnExactRexParseUptoCard

/-- THE SECOND FORM's CARD OF 'laws.FnExactRexOk'. -/
def fnExactRexOkUptoCard : Claim7 := { stood := { row := fnExactRexOkUptoRow, standIns := [], harness := (true, "cde8bfc4007ccb0a72b3655df69570f083cf0e606c0ed38ac0fd6c751be2fcf1"), looks := true }, kinds := [], alts := [], laidByText := true, laidKinds := [.sentinel], laidTests := true, laidLooks := .later }
def FnExactRexOkUptoCardSaid : Prop := Claim7.holds Tryd.pinned (.plain (OpenSpec.upto fnExactRexOkSpec)) fnExactRexOkUptoCard
end Rows
end Go.Proofs.YtnbnbohhbflgaakDoor
