/-
  DERIVED. GIVEN WITH THE SEED: THE CARDS: each row of YtncbanpimfhhbaaGreatDoorRows.lean that lists a variable, with what it lists TIED to the program's text (the seventh form; the later family's looks); each row that meets fmt, with fmt's text TOLD by the authors' own Lean function (tested against real Go, not proved from fmt's source: count such statements apart). THE CARD IS WHAT COUNTS. Prove the row's statement (the work); the ties are given (YtncbanpimfhhbaaGreatDoorTie.lean); close each card by the builder's one call (the guide's Derived/Test/ToyasCard.lean, 'card_holds'). Laid BY PROGRAM, IN A SANDBOX (cutbox-door.mjs). By AI agents, Wed Nov 11 2026. No macro, syntax, notation, axiom, sorry.
-/
import Derived.Test.YtncbanpimfhhbaaGreatDoorRows
import GoSem.ClaimSeven
namespace Go.Proofs.YtncbanpimfhhbaaGreatDoor
namespace Rows

/-- THE TIED CARD OF 'latchkeylaw04.ValuesMerges'. -/
def valuesMergesCard : Claim7 := { stood := { row := valuesMergesRow, standIns := [], harness := (true, "b5a4861ec80aebed46f503f0647f2e7dffa883d71da50d156478b05e018d6b74"), looks := true }, kinds := [], alts := [], laidByText := true, laidKinds := [.data, .data, .widerDeep, .widerDeep, .data, .data, .data, .data, .data, .data, .sentinel, .sentinel, .pinned, .pinned, .pinned], laidTests := true, laidLooks := .later }
def ValuesMergesCardSaid : Prop := Claim7.holds Tryz.pinned (.plain (OpenSpec.ofChange valuesMergesSpec)) valuesMergesCard

/-- THE SECOND FORM's CARD OF 'latchkeylaw04.ValuesMerges'. -/
def valuesMergesUptoCard : Claim7 := { stood := { row := valuesMergesUptoRow, standIns := [], harness := (true, "b5a4861ec80aebed46f503f0647f2e7dffa883d71da50d156478b05e018d6b74"), looks := true }, kinds := [], alts := [], laidByText := true, laidKinds := [.data, .data, .widerDeep, .widerDeep, .data, .data, .data, .data, .data, .data, .sentinel, .sentinel, .pinned, .pinned, .pinned], laidTests := true, laidLooks := .later }
def ValuesMergesUptoCardSaid : Prop := Claim7.holds Tryz.pinned (.plain (OpenSpec.upto valuesMergesSpec)) valuesMergesUptoCard
end Rows
end Go.Proofs.YtncbanpimfhhbaaGreatDoor
