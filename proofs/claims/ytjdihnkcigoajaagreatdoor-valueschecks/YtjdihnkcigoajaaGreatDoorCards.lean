/-
  DERIVED. GIVEN WITH THE SEED: THE CARDS: each row of YtjdihnkcigoajaaGreatDoorRows.lean that lists a variable, with what it lists TIED to the program's text (the seventh form; the later family's looks); each row that meets fmt, with fmt's text TOLD by the authors' own Lean function (tested against real Go, not proved from fmt's source: count such statements apart). THE CARD IS WHAT COUNTS. Prove the row's statement (the work); the ties are given (YtjdihnkcigoajaaGreatDoorTie.lean); close each card by the builder's one call (the guide's Derived/Test/ToyasCard.lean, 'card_holds'). Laid BY PROGRAM, IN A SANDBOX (cutbox-door.mjs). By AI agents, Wed Nov 11 2026. No macro, syntax, notation, axiom, sorry.
-/
import Derived.Test.YtjdihnkcigoajaaGreatDoorRows
import GoSem.ClaimSeven
namespace Go.Proofs.YtjdihnkcigoajaaGreatDoor
namespace Rows

/-- THE TIED CARD OF 'latchkeylaw04.ValuesChecks'. -/
def valuesChecksCard : Claim7 := { stood := { row := valuesChecksRow, standIns := [], harness := (true, "ec20652efb9f33be8ce7dc51634be1d1063b9b5168713312c2037998eaa271d3"), looks := true }, kinds := [], alts := [], laidByText := true, laidKinds := [.data, .data, .data, .data, .data, .sentinel, .sentinel, .pinned, .pinned, .pinned], laidTests := true, laidLooks := .later }
def ValuesChecksCardSaid : Prop := Claim7.holds Tryz.pinned (.plain (OpenSpec.ofChange valuesChecksSpec)) valuesChecksCard

/-- THE SECOND FORM's CARD OF 'latchkeylaw04.ValuesChecks'. -/
def valuesChecksUptoCard : Claim7 := { stood := { row := valuesChecksUptoRow, standIns := [], harness := (true, "ec20652efb9f33be8ce7dc51634be1d1063b9b5168713312c2037998eaa271d3"), looks := true }, kinds := [], alts := [], laidByText := true, laidKinds := [.data, .data, .data, .data, .data, .sentinel, .sentinel, .pinned, .pinned, .pinned], laidTests := true, laidLooks := .later }
def ValuesChecksUptoCardSaid : Prop := Claim7.holds Tryz.pinned (.plain (OpenSpec.upto valuesChecksSpec)) valuesChecksUptoCard
end Rows
end Go.Proofs.YtjdihnkcigoajaaGreatDoor
