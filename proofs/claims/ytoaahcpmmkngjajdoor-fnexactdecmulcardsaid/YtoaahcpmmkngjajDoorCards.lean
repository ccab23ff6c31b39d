/-
  DERIVED. GIVEN WITH THE SEED: THE CARDS: each row of YtoaahcpmmkngjajDoorRows.lean that lists a variable, with what it lists TIED to the program's text (the seventh form; the later family's looks); each row that meets fmt, with fmt's text TOLD by the authors' own Lean function (tested against real Go, not proved from fmt's source: count such statements apart). THE CARD IS WHAT COUNTS. Prove the row's statement (the work); the ties are given (YtoaahcpmmkngjajDoorTie.lean); close each card by the builder's one call (the guide's Derived/Test/ToyasCard.lean, 'card_holds'). Laid BY PROGRAM, IN A SANDBOX (cutbox-door.mjs). By AI agents, Wed Nov 11 2026. No macro, syntax, notation, axiom, sorry.
-/
import Derived.Test.YtoaahcpmmkngjajDoorRows
import GoSem.ClaimSeven
namespace Go.Proofs.YtoaahcpmmkngjajDoor
namespace Rows

/-- THE TIED CARD OF 'laws.FnExactDecOk'. -/
def fnExactDecOkCard : Claim7 := { stood := { row := fnExactDecOkRow, standIns := [], harness := (true, "3b279bd45cea1e7389b83f5a4d3be19bd7cada59d4f441746384fce062845071"), looks := true }, kinds := [], alts := [], laidByText := true, laidKinds := [.sentinel], laidTests := true, laidLooks := .later }
def FnExactDecOkCardSaid : Prop := Claim7.holds Tryd.pinned (.plain (OpenSpec.ofChange fnExactDecOkSpec)) fnExactDecOkCard

/-- THE TIED CARD OF 'laws.FnExactDecAdd'. -/
def fnExactDecAddCard : Claim7 := { stood := { row := fnExactDecAddRow, standIns := [], harness := (true, "3b279bd45cea1e7389b83f5a4d3be19bd7cada59d4f441746384fce062845071"), looks := true }, kinds := [], alts := [], laidByText := true, laidKinds := [.sentinel], laidTests := true, laidLooks := .later }
def FnExactDecAddCardSaid : Prop := Claim7.holds Tryd.pinned (.plain (OpenSpec.ofChange fnExactDecAddSpec)) fnExactDecAddCard

/-- THE TIED CARD OF 'laws.FnExactDecSub'. -/
def fnExactDecSubCard : Claim7 := { stood := { row := fnExactDecSubRow, standIns := [], harness := (true, "3b279bd45cea1e7389b83f5a4d3be19bd7cada59d4f441746384fce062845071"), looks := true }, kinds := [], alts := [], laidByText := true, laidKinds := [.sentinel], laidTests := true, laidLooks := .later }
def FnExactDecSubCardSaid : Prop := Claim7.holds Tryd.pinned (.plain (OpenSpec.ofChange fnExactDecSubSpec)) fnExactDecSubCard

/-- THE TIED CARD OF 'laws.FnExactDecMul'. -/
def fnExactDecMulCard : Claim7 := { stood := { row := fnExactDecMulRow, standIns := [], harness := (true, "3b279bd45cea1e7389b83f5a4d3be19bd7cada59d4f441746384fce062845071"), looks := true }, kinds := [], alts := [], laidByText := true, laidKinds := [.sentinel], laidTests := true, laidLooks := .later }
def FnExactDecMulCardSaid : Prop := Claim7.holds Tryd.pinned (.plain (OpenSpec.ofChange fnExactDecMulSpec)) fnExactDecMulCard

/-- THE TIED CARD OF 'laws.FnExactDecDiv'. -/
def fnExactDecDivCard : Claim7 := { stood := { row := fnExactDecDivRow, standIns := [], harness := (true, "3b279bd45cea1e7389b83f5a4d3be19bd7cada59d4f441746384fce062845071"), looks := true }, kinds := [], alts := [], laidByText := true, laidKinds := [.sentinel], laidTests := true, laidLooks := .later }
def FnExactDecDivCardSaid : Prop := Claim7.holds Tryd.pinned (.plain (OpenSpec.ofChange fnExactDecDivSpec)) fnExactDecDivCard

/-- THE SECOND FORM's CARD OF 'laws.FnExactDecOk'. -/
def fnExactDecOkUptoCard : Claim7 := { stood := { row := fnExactDecOkUptoRow, standIns := [], harness := (true, "3b279bd45cea1e7389b83f5a4d3be19bd7cada59d4f441746384fce062845071"), looks := true }, kinds := [], alts := [], laidByText := true, laidKinds := [.sentinel], laidTests := true, laidLooks := .later }
def FnExactDecOkUptoCardSaid : Prop := Claim7.holds Tryd.pinned (.plain (OpenSpec.upto fnExactDecOkSpec)) fnExactDecOkUptoCard

/-- THE SECOND FORM's CARD OF 'laws.FnExactDecAdd'. -/
def fnExactDecAddUptoCard : Claim7 := { stood := { row := fnExactDecAddUptoRow, standIns := [], harness := (true, "3b279bd45cea1e7389b83f5a4d3be19bd7cada59d4f441746384fce062845071"), looks := true }, kinds := [], alts := [], laidByText := true, laidKinds := [.sentinel], laidTests := true, laidLooks := .later }
def FnExactDecAddUptoCardSaid : Prop := Claim7.holds Tryd.pinned (.plain (OpenSpec.upto fnExactDecAddSpec)) fnExactDecAddUptoCard

/-- THE SECOND FORM's CARD OF 'laws.FnExactDecSub'. -/
def fnExactDecSubUptoCard : Claim7 := { stood := { row := fnExactDecSubUptoRow, standIns := [], harness := (true, "3b279bd45cea1e7389b83f5a4d3be19bd7cada59d4f441746384fce062845071"), looks := true }, kinds := [], alts := [], laidByText := true, laidKinds := [.sentinel], laidTests := true, laidLooks := .later }
def FnExactDecSubUptoCardSaid : Prop := Claim7.holds Tryd.pinned (.plain (OpenSpec.upto fnExactDecSubSpec)) fnExactDecSubUptoCard

/-- THE SECOND FORM's CARD OF 'laws.FnExactDecMul'. -/
def fnExactDecMulUptoCard : Claim7 := { stood := { row := fnExactDecMulUptoRow, standIns := [], harness := (true, "3b279bd45cea1e7389b83f5a4d3be19bd7cada59d4f441746384fce062845071"), looks := true }, kinds := [], alts := [], laidByText := true, laidKinds := [.sentinel], laidTests := true, laidLooks := .later }
def FnExactDecMulUptoCardSaid : Prop := Claim7.holds Tryd.pinned (.plain (OpenSpec.upto fnExactDecMulSpec)) fnExactDecMulUptoCard

/-- THE SECOND FORM's CARD OF 'laws.FnExactDecDiv'. -/
def fnExactDecDivUptoCard : Claim7 := { stood := { row := fnExactDecDivUptoRow, standIns := [], harness := (true, "3b279bd45cea1e7389b83f5a4d3be19bd7cada59d4f441746384fce062845071"), looks := true }, kinds := [], alts := [], laidByText := true, laidKinds := [.sentinel], laidTests := true, laidLooks := .later }
def FnExactDecDivUptoCardSaid : Prop := Claim7.holds Tryd.pinned (.plain (OpenSpec.upto fnExactDecDivSpec)) fnExactDecDivUptoCard
end Rows
end Go.Proofs.YtoaahcpmmkngjajDoor
