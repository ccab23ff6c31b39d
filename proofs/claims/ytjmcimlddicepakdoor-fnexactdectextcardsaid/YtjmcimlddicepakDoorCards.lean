/-
  DERIVED. GIVEN WITH THE SEED: THE CARDS: each row of YtjmcimlddicepakDoorRows.lean that lists a variable, with what it lists TIED to the program's text (the seventh form; the later family's looks); each row that meets fmt, with fmt's text TOLD by the authors' own Lean function (tested against real Go, not proved from fmt's source: count such statements apart). THE CARD IS WHAT COUNTS. Prove the row's statement (the work); the ties are given (YtjmcimlddicepakDoorTie.lean); close each card by the builder's one call (the guide's Derived/Test/ToyasCard.lean, 'card_holds'). Laid BY PROGRAM, IN A SANDBOX (cutbox-door.mjs). By AI agents, Wed Nov 11 2026. No macro, syntax, notation, axiom, sorry.
-/
import Derived.Test.YtjmcimlddicepakDoorRows
import GoSem.ClaimSeven
namespace Go.Proofs.YtjmcimlddicepakDoor
namespace Rows

/-- THE TIED CARD OF 'laws.FnExactDecText'. -/
def fnExactDecTextCard : Claim7 := { stood := { row := fnExactDecTextRow, standIns := [], harness := (true, "258399ca519b8cd1aad1595fc142af0bf27385e11a7ffa4622342f8024196295"), looks := true }, kinds := [], alts := [], laidByText := true, laidKinds := [.data, .data, .data, .data, .sentinel, .pinned], laidTests := true, laidLooks := .later }
def FnExactDecTextCardSaid : Prop := Claim7.holds Tryd.pinned (.plain (OpenSpec.ofChange fnExactDecTextSpec)) fnExactDecTextCard

/-- THE TIED CARD OF 'laws.FnExactDecFront'. -/
def fnExactDecFrontCard : Claim7 := { stood := { row := fnExactDecFrontRow, standIns := [], harness := (true, "258399ca519b8cd1aad1595fc142af0bf27385e11a7ffa4622342f8024196295"), looks := true }, kinds := [], alts := [], laidByText := true, laidKinds := [.sentinel], laidTests := true, laidLooks := .later }
def FnExactDecFrontCardSaid : Prop := Claim7.holds Tryd.pinned (.plain (OpenSpec.ofChange fnExactDecFrontSpec)) fnExactDecFrontCard

/-- THE TIED CARD OF 'laws.FnExactDecLooks'. -/
def fnExactDecLooksCard : Claim7 := { stood := { row := fnExactDecLooksRow, standIns := [], harness := (true, "258399ca519b8cd1aad1595fc142af0bf27385e11a7ffa4622342f8024196295"), looks := true }, kinds := [], alts := [], laidByText := true, laidKinds := [.sentinel], laidTests := true, laidLooks := .later }
def FnExactDecLooksCardSaid : Prop := Claim7.holds Tryd.pinned (.plain (OpenSpec.ofChange fnExactDecLooksSpec)) fnExactDecLooksCard

/-- THE SECOND FORM's CARD OF 'laws.FnExactDecText'. -/
def fnExactDecTextUptoCard : Claim7 := { stood := { row := fnExactDecTextUptoRow, standIns := [], harness := (true, "258399ca519b8cd1aad1595fc142af0bf27385e11a7ffa4622342f8024196295"), looks := true }, kinds := [], alts := [], laidByText := true, laidKinds := [.data, .data, .data, .data, .sentinel, .pinned], laidTests := true, laidLooks := .later }
def FnExactDecTextUptoCardSaid : Prop := Claim7.holds Tryd.pinned (.plain (OpenSpec.upto fnExactDecTextSpec)) fnExactDecTextUptoCard

/-- THE SECOND FORM's CARD OF 'laws.FnExactDecFront'. -/
def fnExactDecFrontUptoCard : Claim7 := { stood := { row := fnExactDecFrontUptoRow, standIns := [], harness := (true, "258399ca519b8cd1aad1595fc142af0bf27385e11a7ffa4622342f8024196295"), looks := true }, kinds := [], alts := [], laidByText := true, laidKinds := [.sentinel], laidTests := true, laidLooks := .later }
def FnExactDecFrontUptoCardSaid : Prop := Claim7.holds Tryd.pinned (.plain (OpenSpec.upto fnExactDecFrontSpec)) fnExactDecFrontUptoCard

/-- THE SECOND FORM's CARD OF 'laws.FnExactDecLooks'. -/
def fnExactDecLooksUptoCard : Claim7 := { stood := { row := fnExactDecLooksUptoRow, standIns := [], harness := (true, "258399ca519b8cd1aad1595fc142af0bf27385e11a7ffa4622342f8024196295"), looks := true }, kinds := [], alts := [], laidByText := true, laidKinds := [.sentinel], laidTests := true, laidLooks := .later }
def FnExactDecLooksUptoCardSaid : Prop := Claim7.holds Tryd.pinned (.plain (OpenSpec.upto fnExactDecLooksSpec)) fnExactDecLooksUptoCard
end Rows
end Go.Proofs.YtjmcimlddicepakDoor
