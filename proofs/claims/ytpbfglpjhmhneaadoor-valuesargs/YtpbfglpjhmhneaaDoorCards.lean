/-
  DERIVED. GIVEN WITH THE SEED: THE CARDS: each row of YtpbfglpjhmhneaaDoorRows.lean that lists a variable, with what it lists TIED to the program's text (the seventh form; the later family's looks); each row that meets fmt, with fmt's text TOLD by the authors' own Lean function (tested against real Go, not proved from fmt's source: count such statements apart). THE CARD IS WHAT COUNTS. Prove the row's statement (the work); the ties are given (YtpbfglpjhmhneaaDoorTie.lean); close each card by the builder's one call (the guide's Derived/Test/ToyasCard.lean, 'card_holds'). Laid BY PROGRAM, IN A SANDBOX (cutbox-door.mjs). By AI agents, Wed Nov 11 2026. No macro, syntax, notation, axiom, sorry.
-/
import Derived.Test.YtpbfglpjhmhneaaDoorRows
import GoSem.ClaimSeven
namespace Go.Proofs.YtpbfglpjhmhneaaDoor
namespace Rows

/-- THE TIED CARD OF 'latchkeylaw04.ValuesArgs'. -/
def valuesArgsCard : Claim7 := { stood := { row := valuesArgsRow, standIns := [], harness := (true, "192594bc3031b28c113a36ccc2cedc92ff2f275e93072489d408d41068cc866b"), looks := false }, kinds := [], alts := [], laidByText := true, laidKinds := [.data], laidTests := true, laidLooks := .later }
def ValuesArgsCardSaid : Prop := Claim7.holds Tryd.pinned (.plain (OpenSpec.ofChange valuesArgsSpec)) valuesArgsCard

/-- THE SECOND FORM's CARD OF 'latchkeylaw04.ValuesArgs'. -/
def valuesArgsUptoCard : Claim7 := { stood := { row := valuesArgsUptoRow, standIns := [], harness := (true, "192594bc3031b28c113a36ccc2cedc92ff2f275e93072489d408d41068cc866b"), looks := false }, kinds := [], alts := [], laidByText := true, laidKinds := [.data], laidTests := true, laidLooks := .later }
def ValuesArgsUptoCardSaid : Prop := Claim7.holds Tryd.pinned (.plain (OpenSpec.upto valuesArgsSpec)) valuesArgsUptoCard
end Rows
end Go.Proofs.YtpbfglpjhmhneaaDoor
