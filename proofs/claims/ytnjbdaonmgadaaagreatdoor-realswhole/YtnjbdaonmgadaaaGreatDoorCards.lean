/-
  DERIVED. GIVEN WITH THE SEED: THE CARDS: each row of YtnjbdaonmgadaaaGreatDoorRows.lean that lists a variable, with what it lists TIED to the program's text (the seventh form; the later family's looks); each row that meets fmt, with fmt's text TOLD by the authors' own Lean function (tested against real Go, not proved from fmt's source: count such statements apart). THE CARD IS WHAT COUNTS. Prove the row's statement (the work); the ties are given (YtnjbdaonmgadaaaGreatDoorTie.lean); close each card by the builder's one call (the guide's Derived/Test/ToyasCard.lean, 'card_holds'). Laid BY PROGRAM, IN A SANDBOX (cutbox-door.mjs). By AI agents, Wed Nov 11 2026. No macro, syntax, notation, axiom, sorry.
-/
import Derived.Test.YtnjbdaonmgadaaaGreatDoorRows
import GoSem.ClaimSeven
namespace Go.Proofs.YtnjbdaonmgadaaaGreatDoor
namespace Rows

/-- THE TIED CARD OF 'latchkeylaw03.RealsWhole'. -/
def realsWholeCard : Claim7 := { stood := { row := realsWholeRow, standIns := [], harness := (true, "45b73558d1178cd9fc3e02770e66ce7a229f35272825e5902b0d34be934657fc"), looks := true }, kinds := [], alts := [], laidByText := true, laidKinds := [.data, .data, .widerDeep, .widerDeep, .data, .data, .data, .data, .data, .data, .sentinel, .sentinel, .pinned, .pinned, .pinned], laidTests := true, laidLooks := .later }
def RealsWholeCardSaid : Prop := Claim7.holds Tryz.pinned (.plain (OpenSpec.ofChange realsWholeSpec)) realsWholeCard

/-- THE SECOND FORM's CARD OF 'latchkeylaw03.RealsWhole'. -/
def realsWholeUptoCard : Claim7 := { stood := { row := realsWholeUptoRow, standIns := [], harness := (true, "45b73558d1178cd9fc3e02770e66ce7a229f35272825e5902b0d34be934657fc"), looks := true }, kinds := [], alts := [], laidByText := true, laidKinds := [.data, .data, .widerDeep, .widerDeep, .data, .data, .data, .data, .data, .data, .sentinel, .sentinel, .pinned, .pinned, .pinned], laidTests := true, laidLooks := .later }
def RealsWholeUptoCardSaid : Prop := Claim7.holds Tryz.pinned (.plain (OpenSpec.upto realsWholeSpec)) realsWholeUptoCard
end Rows
end Go.Proofs.YtnjbdaonmgadaaaGreatDoor
