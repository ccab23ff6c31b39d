/-
  DERIVED. GIVEN WITH THE SEED: THE CARDS: each row of YtcaaanbajmlcjaaGreatDoorRows.lean that lists a variable, with what it lists TIED to the program's text (the seventh form; the later family's looks); each row that meets fmt, with fmt's text TOLD by the authors' own Lean function (tested against real Go, not proved from fmt's source: count such statements apart). THE CARD IS WHAT COUNTS. Prove the row's statement (the work); the ties are given (YtcaaanbajmlcjaaGreatDoorTie.lean); close each card by the builder's one call (the guide's Derived/Test/ToyasCard.lean, 'card_holds'). Laid BY PROGRAM, IN A SANDBOX (cutbox-door.mjs). By AI agents, Wed Nov 11 2026. No macro, syntax, notation, axiom, sorry.
-/
import Derived.Test.YtcaaanbajmlcjaaGreatDoorRows
import GoSem.ClaimSeven
namespace Go.Proofs.YtcaaanbajmlcjaaGreatDoor
namespace Rows

/-- THE TIED CARD OF 'laws.FnExactOpsOk'. -/
def fnExactOpsOkCard : Claim7 := { stood := { row := fnExactOpsOkRow, standIns := [], harness := (true, "b7c30d9e57479691595869bef97b2be57f7d4e6fbc83496701872a7c5ad91790"), looks := true }, kinds := [], alts := [], laidByText := true, laidKinds := [.sentinel, .sentinel], laidTests := true, laidLooks := .later }
def FnExactOpsOkCardSaid : Prop := Claim7.holds Tryz.pinned (.plain (OpenSpec.ofChange fnExactOpsOkSpec)) fnExactOpsOkCard

/-- THE SECOND FORM's CARD OF 'laws.FnExactOpsOk'. -/
def fnExactOpsOkUptoCard : Claim7 := { stood := { row := fnExactOpsOkUptoRow, standIns := [], harness := (true, "b7c30d9e57479691595869bef97b2be57f7d4e6fbc83496701872a7c5ad91790"), looks := true }, kinds := [], alts := [], laidByText := true, laidKinds := [.sentinel, .sentinel], laidTests := true, laidLooks := .later }
def FnExactOpsOkUptoCardSaid : Prop := Claim7.holds Tryz.pinned (.plain (OpenSpec.upto fnExactOpsOkSpec)) fnExactOpsOkUptoCard
end Rows
end Go.Proofs.YtcaaanbajmlcjaaGreatDoor
