/-
  DERIVED. GIVEN WITH THE SEED: THE CARDS: each row of YtjdohfdkkppnpaaDoorRows.lean that lists a variable, with what it lists TIED to the program's text (the seventh form; the later family's looks); each row that meets fmt, with fmt's text TOLD by the authors' own Lean function (tested against real Go, not proved from fmt's source: count such statements apart). THE CARD IS WHAT COUNTS. Prove the row's statement (the work); the ties are given (YtjdohfdkkppnpaaDoorTie.lean); close each card by the builder's one call (the guide's Derived/Test/ToyasCard.lean, 'card_holds'). Laid BY PROGRAM, IN A SANDBOX (cutbox-door.mjs). By AI agents, Wed Nov 11 2026. No macro, syntax, notation, axiom, sorry.
-/
import Derived.Test.YtjdohfdkkppnpaaDoorRows
import GoSem.ClaimSeven
namespace Go.Proofs.YtjdohfdkkppnpaaDoor
namespace Rows

/-- THE TIED CARD OF 'laws.FnExactTidy'. -/
def fnExactTidyCard : Claim7 := { stood := { row := fnExactTidyRow, standIns := [], harness := (true, "8a97638262f00fc74854eae5c47efc62807d43b13e3e570f3b67a7df55a62126"), looks := true }, kinds := [], alts := [], laidByText := true, laidKinds := [.sentinel], laidTests := true, laidLooks := .later }
def FnExactTidyCardSaid : Prop := Claim7.holds Tryd.pinned (.plain (OpenSpec.ofChange fnExactTidySpec)) fnExactTidyCard

/-- THE SECOND FORM's CARD OF 'laws.FnExactTidy'. -/
def fnExactTidyUptoCard : Claim7 := { stood := { row := fnExactTidyUptoRow, standIns := [], harness := (true, "8a97638262f00fc74854eae5c47efc62807d43b13e3e570f3b67a7df55a62126"), looks := true }, kinds := [], alts := [], laidByText := true, laidKinds := [.sentinel], laidTests := true, laidLooks := .later }
def FnExactTidyUptoCardSaid : Prop := Claim7.holds Tryd.pinned (.plain (OpenSpec.upto fnExactTidySpec)) fnExactTidyUptoCard
end Rows
end Go.Proofs.YtjdohfdkkppnpaaDoor
