/-
  DERIVED. GIVEN WITH THE SEED: THE CARDS: each row of YtkhoccjfkkfipaaGreatDoorRows.lean that lists a variable, with what it lists TIED to the program's text (the seventh form; the later family's looks); each row that meets fmt, with fmt's text TOLD by the authors' own Lean function (tested against real Go, not proved from fmt's source: count such statements apart). THE CARD IS WHAT COUNTS. Prove the row's statement (the work); the ties are given (YtkhoccjfkkfipaaGreatDoorTie.lean); close each card by the builder's one call (the guide's Derived/Test/ToyasCard.lean, 'card_holds'). Laid BY PROGRAM, IN A SANDBOX (cutbox-door.mjs). By AI agents, Wed Nov 11 2026. No macro, syntax, notation, axiom, sorry.
-/
import Derived.Test.YtkhoccjfkkfipaaGreatDoorRows
import GoSem.ClaimSeven
namespace Go.Proofs.YtkhoccjfkkfipaaGreatDoor
namespace Rows

/-- THE TIED CARD OF 'laws.FnExactMachBytes'. -/
def fnExactMachBytesCard : Claim7 := { stood := { row := fnExactMachBytesRow, standIns := [], harness := (true, "85ccc661ab22a9a60ac99c46a5e47b76d62436f87f2e6a04e1d23fc4aa3b6e21"), looks := true }, kinds := [], alts := [], laidByText := true, laidKinds := [.sentinel, .sentinel], laidTests := true, laidLooks := .later }
def FnExactMachBytesCardSaid : Prop := Claim7.holds Tryz.pinned (.plain (OpenSpec.ofChange fnExactMachBytesSpec)) fnExactMachBytesCard

/-- THE SECOND FORM's CARD OF 'laws.FnExactMachBytes'. -/
def fnExactMachBytesUptoCard : Claim7 := { stood := { row := fnExactMachBytesUptoRow, standIns := [], harness := (true, "85ccc661ab22a9a60ac99c46a5e47b76d62436f87f2e6a04e1d23fc4aa3b6e21"), looks := true }, kinds := [], alts := [], laidByText := true, laidKinds := [.sentinel, .sentinel], laidTests := true, laidLooks := .later }
def FnExactMachBytesUptoCardSaid : Prop := Claim7.holds Tryz.pinned (.plain (OpenSpec.upto fnExactMachBytesSpec)) fnExactMachBytesUptoCard
end Rows
end Go.Proofs.YtkhoccjfkkfipaaGreatDoor
