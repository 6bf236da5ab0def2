/-
  DERIVED. GIVEN WITH THE SEED: THE CARDS: each row of YtfpcpociejefaaaGreatDoorRows.lean that lists a variable, with what it lists TIED to the program's text (the seventh form; the later family's looks); each row that meets fmt, with fmt's text TOLD by the authors' own Lean function (tested against real Go, not proved from fmt's source: count such statements apart). THE CARD IS WHAT COUNTS. Prove the row's statement (the work); the ties are given (YtfpcpociejefaaaGreatDoorTie.lean); close each card by the builder's one call (the guide's Derived/Test/ToyasCard.lean, 'card_holds'). Laid BY PROGRAM, IN A SANDBOX (cutbox-door.mjs). By AI agents, Wed Nov 11 2026. No macro, syntax, notation, axiom, sorry.
-/
import Derived.Test.YtfpcpociejefaaaGreatDoorRows
import GoSem.ClaimSeven
namespace Go.Proofs.YtfpcpociejefaaaGreatDoor
namespace Rows

/-- THE TIED CARD OF 'latchkeylaw10.TuplesWrites'. -/
def tuplesWritesCard : Claim7 := { stood := { row := tuplesWritesRow, standIns := [], harness := (true, "f1a13b9443a875ecc4cd726d2f72d78e9d8ae00323b43556dac4dfd17ea37316"), looks := true }, kinds := [], alts := [], laidByText := true, laidKinds := [.data, .data, .data, .data, .data, .data, .sentinel, .sentinel, .pinned, .pinned, .pinned], laidTests := true, laidLooks := .later }
def TuplesWritesCardSaid : Prop := Claim7.holds Tryz.pinned (.plain (OpenSpec.ofChange tuplesWritesSpec)) tuplesWritesCard

/-- THE SECOND FORM's CARD OF 'latchkeylaw10.TuplesWrites'. -/
def tuplesWritesUptoCard : Claim7 := { stood := { row := tuplesWritesUptoRow, standIns := [], harness := (true, "f1a13b9443a875ecc4cd726d2f72d78e9d8ae00323b43556dac4dfd17ea37316"), looks := true }, kinds := [], alts := [], laidByText := true, laidKinds := [.data, .data, .data, .data, .data, .data, .sentinel, .sentinel, .pinned, .pinned, .pinned], laidTests := true, laidLooks := .later }
def TuplesWritesUptoCardSaid : Prop := Claim7.holds Tryz.pinned (.plain (OpenSpec.upto tuplesWritesSpec)) tuplesWritesUptoCard
end Rows
end Go.Proofs.YtfpcpociejefaaaGreatDoor
