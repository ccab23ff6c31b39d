/-
  DERIVED. GIVEN WITH THE SEED: THE CARDS: each row of YtgdnlmaacnnfiaaGreatDoorRows.lean that lists a variable, with what it lists TIED to the program's text (the seventh form; the later family's looks); each row that meets fmt, with fmt's text TOLD by the authors' own Lean function (tested against real Go, not proved from fmt's source: count such statements apart). THE CARD IS WHAT COUNTS. Prove the row's statement (the work); the ties are given (YtgdnlmaacnnfiaaGreatDoorTie.lean); close each card by the builder's one call (the guide's Derived/Test/ToyasCard.lean, 'card_holds'). Laid BY PROGRAM, IN A SANDBOX (cutbox-door.mjs). By AI agents, Wed Nov 11 2026. No macro, syntax, notation, axiom, sorry.
-/
import Derived.Test.YtgdnlmaacnnfiaaGreatDoorRows
import GoSem.ClaimSeven
namespace Go.Proofs.YtgdnlmaacnnfiaaGreatDoor
namespace Rows

/-- THE TIED CARD OF 'laws.FnFits'. -/
def fnFitsCard : Claim7 := { stood := { row := fnFitsRow, standIns := [], harness := (true, "fe4468ccb676d172a0146aca2a82de756b5a055f8546ed8741f17ad64b59f971"), looks := true }, kinds := [], alts := [], laidByText := true, laidKinds := [.sentinel], laidTests := true, laidLooks := .later }
def FnFitsCardSaid : Prop := Claim7.holds Tryz.pinned (.plain (OpenSpec.ofChange fnFitsSpec)) fnFitsCard

/-- THE TIED CARD OF 'laws.FnUnions'. -/
def fnUnionsCard : Claim7 := { stood := { row := fnUnionsRow, standIns := [], harness := (true, "fe4468ccb676d172a0146aca2a82de756b5a055f8546ed8741f17ad64b59f971"), looks := true }, kinds := [], alts := [], laidByText := true, laidKinds := [.sentinel], laidTests := true, laidLooks := .later }
def FnUnionsCardSaid : Prop := Claim7.holds Tryz.pinned (.plain (OpenSpec.ofChange fnUnionsSpec)) fnUnionsCard

/-- THE SECOND FORM's CARD OF 'laws.FnFits'. -/
def fnFitsUptoCard : Claim7 := { stood := { row := fnFitsUptoRow, standIns := [], harness := (true, "fe4468ccb676d172a0146aca2a82de756b5a055f8546ed8741f17ad64b59f971"), looks := true }, kinds := [], alts := [], laidByText := true, laidKinds := [.sentinel], laidTests := true, laidLooks := .later }
def FnFitsUptoCardSaid : Prop := Claim7.holds Tryz.pinned (.plain (OpenSpec.upto fnFitsSpec)) fnFitsUptoCard

/-- THE SECOND FORM's CARD OF 'laws.FnUnions'. -/
def fnUnionsUptoCard : Claim7 := { stood := { row := fnUnionsUptoRow, standIns := [], harness := (true, "fe4468ccb676d172a0146aca2a82de756b5a055f8546ed8741f17ad64b59f971"), looks := true }, kinds := [], alts := [], laidByText := true, laidKinds := [.sentinel], laidTests := true, laidLooks := .later }
def FnUnionsUptoCardSaid : Prop := Claim7.holds Tryz.pinned (.plain (OpenSpec.upto fnUnionsSpec)) fnUnionsUptoCard
end Rows
end Go.Proofs.YtgdnlmaacnnfiaaGreatDoor
