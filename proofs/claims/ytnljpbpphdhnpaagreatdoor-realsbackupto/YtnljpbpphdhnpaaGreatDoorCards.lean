/-
  DERIVED. GIVEN WITH THE SEED: THE CARDS: each row of YtnljpbpphdhnpaaGreatDoorRows.lean that lists a variable, with what it lists TIED to the program's text (the seventh form; the later family's looks); each row that meets fmt, with fmt's text TOLD by the authors' own Lean function (tested against real Go, not proved from fmt's source: count such statements apart). THE CARD IS WHAT COUNTS. Prove the row's statement (the work); the ties are given (YtnljpbpphdhnpaaGreatDoorTie.lean); close each card by the builder's one call (the guide's Derived/Test/ToyasCard.lean, 'card_holds'). Laid BY PROGRAM, IN A SANDBOX (cutbox-door.mjs). By AI agents, Wed Nov 11 2026. No macro, syntax, notation, axiom, sorry.
-/
import Derived.Test.YtnljpbpphdhnpaaGreatDoorRows
import GoSem.ClaimSeven
namespace Go.Proofs.YtnljpbpphdhnpaaGreatDoor
namespace Rows

/-- THE TIED CARD OF 'latchkeylaw03.RealsTexts'. -/
def realsTextsCard : Claim7 := { stood := { row := realsTextsRow, standIns := [], harness := (true, "26308d9c110db8c4c3f6089703fdf2e7003688fac14d3eb7433b0e3497f99b4f"), looks := true }, kinds := [], alts := [], laidByText := true, laidKinds := [.data, .data, .widerDeep, .widerDeep, .data, .data, .data, .data, .data, .data, .sentinel, .sentinel, .pinned, .pinned, .pinned], laidTests := true, laidLooks := .later }
def RealsTextsCardSaid : Prop := Claim7.holds Tryz.pinned (.plain (OpenSpec.ofChange realsTextsSpec)) realsTextsCard

/-- THE TIED CARD OF 'latchkeylaw03.RealsParses'. -/
def realsParsesCard : Claim7 := { stood := { row := realsParsesRow, standIns := [], harness := (true, "26308d9c110db8c4c3f6089703fdf2e7003688fac14d3eb7433b0e3497f99b4f"), looks := true }, kinds := [], alts := [], laidByText := true, laidKinds := [.data, .data, .widerDeep, .widerDeep, .data, .data, .data, .data, .data, .data, .sentinel, .sentinel, .pinned, .pinned, .pinned], laidTests := true, laidLooks := .later }
def RealsParsesCardSaid : Prop := Claim7.holds Tryz.pinned (.plain (OpenSpec.ofChange realsParsesSpec)) realsParsesCard

/-- THE TIED CARD OF 'latchkeylaw03.RealsBack'. -/
def realsBackCard : Claim7 := { stood := { row := realsBackRow, standIns := [], harness := (true, "26308d9c110db8c4c3f6089703fdf2e7003688fac14d3eb7433b0e3497f99b4f"), looks := true }, kinds := [], alts := [], laidByText := true, laidKinds := [.data, .data, .widerDeep, .widerDeep, .data, .data, .data, .data, .data, .data, .sentinel, .sentinel, .pinned, .pinned, .pinned], laidTests := true, laidLooks := .later }
def RealsBackCardSaid : Prop := Claim7.holds Tryz.pinned (.plain (OpenSpec.ofChange realsBackSpec)) realsBackCard

/-- THE SECOND FORM's CARD OF 'latchkeylaw03.RealsTexts'. -/
def realsTextsUptoCard : Claim7 := { stood := { row := realsTextsUptoRow, standIns := [], harness := (true, "26308d9c110db8c4c3f6089703fdf2e7003688fac14d3eb7433b0e3497f99b4f"), looks := true }, kinds := [], alts := [], laidByText := true, laidKinds := [.data, .data, .widerDeep, .widerDeep, .data, .data, .data, .data, .data, .data, .sentinel, .sentinel, .pinned, .pinned, .pinned], laidTests := true, laidLooks := .later }
def RealsTextsUptoCardSaid : Prop := Claim7.holds Tryz.pinned (.plain (OpenSpec.upto realsTextsSpec)) realsTextsUptoCard

/-- THE SECOND FORM's CARD OF 'latchkeylaw03.RealsParses'. -/
def realsParsesUptoCard : Claim7 := { stood := { row := realsParsesUptoRow, standIns := [], harness := (true, "26308d9c110db8c4c3f6089703fdf2e7003688fac14d3eb7433b0e3497f99b4f"), looks := true }, kinds := [], alts := [], laidByText := true, laidKinds := [.data, .data, .widerDeep, .widerDeep, .data, .data, .data, .data, .data, .data, .sentinel, .sentinel, .pinned, .pinned, .pinned], laidTests := true, laidLooks := .later }
def RealsParsesUptoCardSaid : Prop := Claim7.holds Tryz.pinned (.plain (OpenSpec.upto realsParsesSpec)) realsParsesUptoCard

/-- THE SECOND FORM's CARD OF 'latchkeylaw03.RealsBack'. -/
def realsBackUptoCard : Claim7 := { stood := { row := realsBackUptoRow, standIns := [], harness := (true, "26308d9c110db8c4c3f6089703fdf2e7003688fac14d3eb7433b0e3497f99b4f"), looks := true }, kinds := [], alts := [], laidByText := true, laidKinds := [.data, .data, .widerDeep, .widerDeep, .data, .data, .data, .data, .data, .data, .sentinel, .sentinel, .pinned, .pinned, .pinned], laidTests := true, laidLooks := .later }
def RealsBackUptoCardSaid : Prop := Claim7.holds Tryz.pinned (.plain (OpenSpec.upto realsBackSpec)) realsBackUptoCard
end Rows
end Go.Proofs.YtnljpbpphdhnpaaGreatDoor
