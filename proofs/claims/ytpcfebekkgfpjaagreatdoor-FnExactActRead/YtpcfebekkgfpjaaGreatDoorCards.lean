/-
  DERIVED. GIVEN WITH THE SEED: THE CARDS: each row of YtpcfebekkgfpjaaGreatDoorRows.lean that lists a variable, with what it lists TIED to the program's text (the seventh form; the later family's looks); each row that meets fmt, with fmt's text TOLD by the authors' own Lean function (tested against real Go, not proved from fmt's source: count such statements apart). THE CARD IS WHAT COUNTS. Prove the row's statement (the work); the ties are given (YtpcfebekkgfpjaaGreatDoorTie.lean); close each card by the builder's one call (the guide's Derived/Test/ToyasCard.lean, 'card_holds'). Laid BY PROGRAM, IN A SANDBOX (cutbox-door.mjs). By AI agents, Wed Nov 11 2026. No macro, syntax, notation, axiom, sorry.
-/
import Derived.Test.YtpcfebekkgfpjaaGreatDoorRows
import GoSem.ClaimSeven
namespace Go.Proofs.YtpcfebekkgfpjaaGreatDoor
namespace Rows

/-- THE TIED CARD OF 'laws.FnAct'. -/
def fnActCard : Claim7 := { stood := { row := fnActRow, standIns := [], harness := (true, "e1cd632a8f3f7f42453f0029bf4d6b4c25a7cedb3441a90b2cfb522c8a080382"), looks := true }, kinds := [], alts := [], laidByText := true, laidKinds := [.data, .data, .data, .data, .pinned], laidTests := true, laidLooks := .later }
def FnActCardSaid : Prop := Claim7.holds Tryz.pinned (.plain (OpenSpec.ofChange fnActSpec)) fnActCard

/-- THE TIED CARD OF 'laws.FnExactActRead'. -/
def fnExactActReadCard : Claim7 := { stood := { row := fnExactActReadRow, standIns := [], harness := (true, "e1cd632a8f3f7f42453f0029bf4d6b4c25a7cedb3441a90b2cfb522c8a080382"), looks := true }, kinds := [], alts := [], laidByText := true, laidKinds := [.data, .data, .data, .data, .pinned], laidTests := true, laidLooks := .later }
def FnExactActReadCardSaid : Prop := Claim7.holds Tryz.pinned (.plain (OpenSpec.ofChange fnExactActReadSpec)) fnExactActReadCard

/-- THE SECOND FORM's CARD OF 'laws.FnAct'. -/
def fnActUptoCard : Claim7 := { stood := { row := fnActUptoRow, standIns := [], harness := (true, "e1cd632a8f3f7f42453f0029bf4d6b4c25a7cedb3441a90b2cfb522c8a080382"), looks := true }, kinds := [], alts := [], laidByText := true, laidKinds := [.data, .data, .data, .data, .pinned], laidTests := true, laidLooks := .later }
def FnActUptoCardSaid : Prop := Claim7.holds Tryz.pinned (.plain (OpenSpec.upto fnActSpec)) fnActUptoCard

/-- THE SECOND FORM's CARD OF 'laws.FnExactActRead'. -/
def fnExactActReadUptoCard : Claim7 := { stood := { row := fnExactActReadUptoRow, standIns := [], harness := (true, "e1cd632a8f3f7f42453f0029bf4d6b4c25a7cedb3441a90b2cfb522c8a080382"), looks := true }, kinds := [], alts := [], laidByText := true, laidKinds := [.data, .data, .data, .data, .pinned], laidTests := true, laidLooks := .later }
def FnExactActReadUptoCardSaid : Prop := Claim7.holds Tryz.pinned (.plain (OpenSpec.upto fnExactActReadSpec)) fnExactActReadUptoCard
end Rows
end Go.Proofs.YtpcfebekkgfpjaaGreatDoor
