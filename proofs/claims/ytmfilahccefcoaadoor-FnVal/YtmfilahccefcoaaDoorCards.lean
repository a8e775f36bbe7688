/-
  DERIVED. GIVEN WITH THE SEED: THE CARDS: each row of YtmfilahccefcoaaDoorRows.lean that lists a variable, with what it lists TIED to the program's text (the seventh form; the later family's looks); each row that meets fmt, with fmt's text TOLD by the authors' own Lean function (tested against real Go, not proved from fmt's source: count such statements apart). THE CARD IS WHAT COUNTS. Prove the row's statement (the work); the ties are given (YtmfilahccefcoaaDoorTie.lean); close each card by the builder's one call (the guide's Derived/Test/ToyasCard.lean, 'card_holds'). Laid BY PROGRAM, IN A SANDBOX (cutbox-door.mjs). By AI agents, Wed Nov 11 2026. No macro, syntax, notation, axiom, sorry.
-/
import Derived.Test.YtmfilahccefcoaaDoorRows
import GoSem.ClaimSeven
namespace Go.Proofs.YtmfilahccefcoaaDoor
namespace Rows

/-- THE TIED CARD OF 'laws.FnVal'. -/
def fnValCard : Claim7 := { stood := { row := fnValRow, standIns := [], harness := (true, "3695a254bb93c780c65fdc46c443c7ed310cc6b1e8e1eac77931540c9a41b8ff"), looks := false }, kinds := [], alts := [], laidByText := true, laidKinds := [.data, .data, .data], laidTests := true, laidLooks := .later }
def FnValCardSaid : Prop := Claim7.holds Tryd.pinned (.plain (OpenSpec.ofChange fnValSpec)) fnValCard

/-- THE TIED CARD OF 'laws.FnValNum'. -/
def fnValNumCard : Claim7 := { stood := { row := fnValNumRow, standIns := [], harness := (true, "3695a254bb93c780c65fdc46c443c7ed310cc6b1e8e1eac77931540c9a41b8ff"), looks := false }, kinds := [], alts := [], laidByText := true, laidKinds := [.data, .data, .data], laidTests := true, laidLooks := .later }
def FnValNumCardSaid : Prop := Claim7.holds Tryd.pinned (.plain (OpenSpec.ofChange fnValNumSpec)) fnValNumCard

/-- THE SECOND FORM's CARD OF 'laws.FnVal'. -/
def fnValUptoCard : Claim7 := { stood := { row := fnValUptoRow, standIns := [], harness := (true, "3695a254bb93c780c65fdc46c443c7ed310cc6b1e8e1eac77931540c9a41b8ff"), looks := false }, kinds := [], alts := [], laidByText := true, laidKinds := [.data, .data, .data], laidTests := true, laidLooks := .later }
def FnValUptoCardSaid : Prop := Claim7.holds Tryd.pinned (.plain (OpenSpec.upto fnValSpec)) fnValUptoCard

/-- THE SECOND FORM's CARD OF 'laws.FnValNum'. -/
def fnValNumUptoCard : Claim7 := { stood := { row := fnValNumUptoRow, standIns := [], harness := (true, "3695a254bb93c780c65fdc46c443c7ed310cc6b1e8e1eac77931540c9a41b8ff"), looks := false }, kinds := [], alts := [], laidByText := true, laidKinds := [.data, .data, .data], laidTests := true, laidLooks := .later }
def FnValNumUptoCardSaid : Prop := Claim7.holds Tryd.pinned (.plain (OpenSpec.upto fnValNumSpec)) fnValNumUptoCard
end Rows
end Go.Proofs.YtmfilahccefcoaaDoor
