/-
  DERIVED. GIVEN WITH THE SEED: THE CARDS: each row of YtclapbpkkaljgaaGreatDoorRows.lean that lists a variable, with what it lists TIED to the program's text (the seventh form; the later family's looks); each row that meets fmt, with fmt's text TOLD by the authors' own Lean function (tested against real Go, not proved from fmt's source: count such statements apart). THE CARD IS WHAT COUNTS. Prove the row's statement (the work); the ties are given (YtclapbpkkaljgaaGreatDoorTie.lean); close each card by the builder's one call (the guide's Derived/Test/ToyasCard.lean, 'card_holds'). Laid BY PROGRAM, IN A SANDBOX (cutbox-door.mjs). By AI agents, Wed Nov 11 2026. No macro, syntax, notation, axiom, sorry.
-/
import Derived.Test.YtclapbpkkaljgaaGreatDoorRows
import GoSem.ClaimSeven
namespace Go.Proofs.YtclapbpkkaljgaaGreatDoor
namespace Rows

/-- THE TIED CARD OF 'latchkeylaw10.TuplesOrder'. -/
def tuplesOrderCard : Claim7 := { stood := { row := tuplesOrderRow, standIns := [], harness := (true, "4bc4b73dbbb26dbf2a0804154c3417c8488b26127f6c0caa0c9b1dd005f331b0"), looks := true }, kinds := [], alts := [], laidByText := true, laidKinds := [.data, .data, .widerDeep, .widerDeep, .data, .data, .data, .data, .data, .data, .sentinel, .sentinel, .pinned, .pinned, .pinned], laidTests := true, laidLooks := .later }
def TuplesOrderCardSaid : Prop := Claim7.holds Tryz.pinned (.plain (OpenSpec.ofChange tuplesOrderSpec)) tuplesOrderCard

/-- THE SECOND FORM's CARD OF 'latchkeylaw10.TuplesOrder'. -/
def tuplesOrderUptoCard : Claim7 := { stood := { row := tuplesOrderUptoRow, standIns := [], harness := (true, "4bc4b73dbbb26dbf2a0804154c3417c8488b26127f6c0caa0c9b1dd005f331b0"), looks := true }, kinds := [], alts := [], laidByText := true, laidKinds := [.data, .data, .widerDeep, .widerDeep, .data, .data, .data, .data, .data, .data, .sentinel, .sentinel, .pinned, .pinned, .pinned], laidTests := true, laidLooks := .later }
def TuplesOrderUptoCardSaid : Prop := Claim7.holds Tryz.pinned (.plain (OpenSpec.upto tuplesOrderSpec)) tuplesOrderUptoCard
end Rows
end Go.Proofs.YtclapbpkkaljgaaGreatDoor
