/-
  DERIVED. GIVEN WITH THE SEED: THE CARDS: each row of YtplbclokoffgkaaGreatDoorRows.lean that lists a variable, with what it lists TIED to the program's text (the seventh form; the later family's looks); each row that meets fmt, with fmt's text TOLD by the authors' own Lean function (tested against real Go, not proved from fmt's source: count such statements apart). THE CARD IS WHAT COUNTS. Prove the row's statement (the work); the ties are given (YtplbclokoffgkaaGreatDoorTie.lean); close each card by the builder's one call (the guide's Derived/Test/ToyasCard.lean, 'card_holds'). Laid BY PROGRAM, IN A SANDBOX (cutbox-door.mjs). By AI agents, Wed Nov 11 2026. No macro, syntax, notation, axiom, sorry.
-/
import Derived.Test.YtplbclokoffgkaaGreatDoorRows
import GoSem.ClaimSeven
namespace Go.Proofs.YtplbclokoffgkaaGreatDoor
namespace Rows

/-- THE TIED CARD OF 'latchkeylaw07.CondsNumbers'. -/
def condsNumbersCard : Claim7 := { stood := { row := condsNumbersRow, standIns := [], harness := (true, "dcc413f65363e67cf405f9f0c7d3d76507b64b6319c577f594e0a589e8cce51c"), looks := true }, kinds := [], alts := [], laidByText := true, laidKinds := [.data, .data, .data, .data, .data, .sentinel, .sentinel, .data, .data, .data, .pinned, .pinned, .pinned], laidTests := true, laidLooks := .later }
def CondsNumbersCardSaid : Prop := Claim7.holds Tryz.pinned (.plain (OpenSpec.ofChange condsNumbersSpec)) condsNumbersCard

/-- THE TIED CARD OF 'latchkeylaw07.CondsReckons'. -/
def condsReckonsCard : Claim7 := { stood := { row := condsReckonsRow, standIns := [], harness := (true, "dcc413f65363e67cf405f9f0c7d3d76507b64b6319c577f594e0a589e8cce51c"), looks := true }, kinds := [], alts := [], laidByText := true, laidKinds := [.data, .data, .data, .data, .data, .sentinel, .sentinel, .data, .data, .data, .pinned, .pinned, .pinned], laidTests := true, laidLooks := .later }
def CondsReckonsCardSaid : Prop := Claim7.holds Tryz.pinned (.plain (OpenSpec.ofChange condsReckonsSpec)) condsReckonsCard

/-- THE SECOND FORM's CARD OF 'latchkeylaw07.CondsNumbers'. -/
def condsNumbersUptoCard : Claim7 := { stood := { row := condsNumbersUptoRow, standIns := [], harness := (true, "dcc413f65363e67cf405f9f0c7d3d76507b64b6319c577f594e0a589e8cce51c"), looks := true }, kinds := [], alts := [], laidByText := true, laidKinds := [.data, .data, .data, .data, .data, .sentinel, .sentinel, .data, .data, .data, .pinned, .pinned, .pinned], laidTests := true, laidLooks := .later }
def CondsNumbersUptoCardSaid : Prop := Claim7.holds Tryz.pinned (.plain (OpenSpec.upto condsNumbersSpec)) condsNumbersUptoCard

/-- THE SECOND FORM's CARD OF 'latchkeylaw07.CondsReckons'. -/
def condsReckonsUptoCard : Claim7 := { stood := { row := condsReckonsUptoRow, standIns := [], harness := (true, "dcc413f65363e67cf405f9f0c7d3d76507b64b6319c577f594e0a589e8cce51c"), looks := true }, kinds := [], alts := [], laidByText := true, laidKinds := [.data, .data, .data, .data, .data, .sentinel, .sentinel, .data, .data, .data, .pinned, .pinned, .pinned], laidTests := true, laidLooks := .later }
def CondsReckonsUptoCardSaid : Prop := Claim7.holds Tryz.pinned (.plain (OpenSpec.upto condsReckonsSpec)) condsReckonsUptoCard
end Rows
end Go.Proofs.YtplbclokoffgkaaGreatDoor
