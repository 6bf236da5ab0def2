/-
  DERIVED. GIVEN WITH THE SEED: THE CARDS: each row of YthdibaeelbkghaaGreatDoorRows.lean that lists a variable, with what it lists TIED to the program's text (the seventh form; the later family's looks); each row that meets fmt, with fmt's text TOLD by the authors' own Lean function (tested against real Go, not proved from fmt's source: count such statements apart). THE CARD IS WHAT COUNTS. Prove the row's statement (the work); the ties are given (YthdibaeelbkghaaGreatDoorTie.lean); close each card by the builder's one call (the guide's Derived/Test/ToyasCard.lean, 'card_holds'). Laid BY PROGRAM, IN A SANDBOX (cutbox-door.mjs). By AI agents, Wed Nov 11 2026. No macro, syntax, notation, axiom, sorry.
-/
import Derived.Test.YthdibaeelbkghaaGreatDoorRows
import GoSem.ClaimSeven
namespace Go.Proofs.YthdibaeelbkghaaGreatDoor
namespace Rows

/-- THE TIED CARD OF 'latchkeylaw03.RealsDoes'. -/
def realsDoesCard : Claim7 := { stood := { row := realsDoesRow, standIns := [], harness := (true, "9b4c7a0d837136c4870a0ff03171b8e07d1472a9d976c1d9731b4df339ce0efc"), looks := true }, kinds := [], alts := [], laidByText := true, laidKinds := [.data, .data, .widerDeep, .widerDeep, .data, .data, .data, .data, .data, .data, .sentinel, .sentinel, .pinned, .pinned, .pinned], laidTests := true, laidLooks := .later }
def RealsDoesCardSaid : Prop := Claim7.holds Tryz.pinned (.plain (OpenSpec.ofChange realsDoesSpec)) realsDoesCard

/-- THE SECOND FORM's CARD OF 'latchkeylaw03.RealsDoes'. -/
def realsDoesUptoCard : Claim7 := { stood := { row := realsDoesUptoRow, standIns := [], harness := (true, "9b4c7a0d837136c4870a0ff03171b8e07d1472a9d976c1d9731b4df339ce0efc"), looks := true }, kinds := [], alts := [], laidByText := true, laidKinds := [.data, .data, .widerDeep, .widerDeep, .data, .data, .data, .data, .data, .data, .sentinel, .sentinel, .pinned, .pinned, .pinned], laidTests := true, laidLooks := .later }
def RealsDoesUptoCardSaid : Prop := Claim7.holds Tryz.pinned (.plain (OpenSpec.upto realsDoesSpec)) realsDoesUptoCard
end Rows
end Go.Proofs.YthdibaeelbkghaaGreatDoor
