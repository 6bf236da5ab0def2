/-
  DERIVED. GIVEN WITH THE SEED: THE CARDS: each row of YtgpjmadleaiioaaGreatDoorRows.lean that lists a variable, with what it lists TIED to the program's text (the seventh form; the later family's looks); each row that meets fmt, with fmt's text TOLD by the authors' own Lean function (tested against real Go, not proved from fmt's source: count such statements apart). THE CARD IS WHAT COUNTS. Prove the row's statement (the work); the ties are given (YtgpjmadleaiioaaGreatDoorTie.lean); close each card by the builder's one call (the guide's Derived/Test/ToyasCard.lean, 'card_holds'). Laid BY PROGRAM, IN A SANDBOX (cutbox-door.mjs). By AI agents, Wed Nov 11 2026. No macro, syntax, notation, axiom, sorry.
-/
import Derived.Test.YtgpjmadleaiioaaGreatDoorRows
import GoSem.ClaimSeven
namespace Go.Proofs.YtgpjmadleaiioaaGreatDoor
namespace Rows

/-- THE TIED CARD OF 'latchkeylaw03.RealsOrders'. -/
def realsOrdersCard : Claim7 := { stood := { row := realsOrdersRow, standIns := [], harness := (true, "e842360763f7501289f8d59704b8f0307e291caf1a0d0729f9a54866dbc17aa3"), looks := true }, kinds := [], alts := [], laidByText := true, laidKinds := [.data, .data, .widerDeep, .widerDeep, .data, .data, .data, .data, .data, .data, .sentinel, .sentinel, .pinned, .pinned, .pinned], laidTests := true, laidLooks := .later }
def RealsOrdersCardSaid : Prop := Claim7.holds Tryz.pinned (.plain (OpenSpec.ofChange realsOrdersSpec)) realsOrdersCard

/-- THE TIED CARD OF 'latchkeylaw03.RealsInts'. -/
def realsIntsCard : Claim7 := { stood := { row := realsIntsRow, standIns := [], harness := (true, "e842360763f7501289f8d59704b8f0307e291caf1a0d0729f9a54866dbc17aa3"), looks := true }, kinds := [], alts := [], laidByText := true, laidKinds := [.data, .data, .widerDeep, .widerDeep, .data, .data, .data, .data, .data, .data, .sentinel, .sentinel, .pinned, .pinned, .pinned], laidTests := true, laidLooks := .later }
def RealsIntsCardSaid : Prop := Claim7.holds Tryz.pinned (.plain (OpenSpec.ofChange realsIntsSpec)) realsIntsCard

/-- THE TIED CARD OF 'latchkeylaw03.RealsKeys'. -/
def realsKeysCard : Claim7 := { stood := { row := realsKeysRow, standIns := [], harness := (true, "e842360763f7501289f8d59704b8f0307e291caf1a0d0729f9a54866dbc17aa3"), looks := true }, kinds := [], alts := [], laidByText := true, laidKinds := [.data, .data, .widerDeep, .widerDeep, .data, .data, .data, .data, .data, .data, .sentinel, .sentinel, .pinned, .pinned, .pinned], laidTests := true, laidLooks := .later }
def RealsKeysCardSaid : Prop := Claim7.holds Tryz.pinned (.plain (OpenSpec.ofChange realsKeysSpec)) realsKeysCard

/-- THE TIED CARD OF 'latchkeylaw03.RealsNexts'. -/
def realsNextsCard : Claim7 := { stood := { row := realsNextsRow, standIns := [], harness := (true, "e842360763f7501289f8d59704b8f0307e291caf1a0d0729f9a54866dbc17aa3"), looks := true }, kinds := [], alts := [], laidByText := true, laidKinds := [.data, .data, .widerDeep, .widerDeep, .data, .data, .data, .data, .data, .data, .sentinel, .sentinel, .pinned, .pinned, .pinned], laidTests := true, laidLooks := .later }
def RealsNextsCardSaid : Prop := Claim7.holds Tryz.pinned (.plain (OpenSpec.ofChange realsNextsSpec)) realsNextsCard

/-- THE TIED CARD OF 'latchkeylaw03.RealsOrder'. -/
def realsOrderCard : Claim7 := { stood := { row := realsOrderRow, standIns := [], harness := (true, "e842360763f7501289f8d59704b8f0307e291caf1a0d0729f9a54866dbc17aa3"), looks := true }, kinds := [], alts := [], laidByText := true, laidKinds := [.data, .data, .widerDeep, .widerDeep, .data, .data, .data, .data, .data, .data, .sentinel, .sentinel, .pinned, .pinned, .pinned], laidTests := true, laidLooks := .later }
def RealsOrderCardSaid : Prop := Claim7.holds Tryz.pinned (.plain (OpenSpec.ofChange realsOrderSpec)) realsOrderCard

/-- THE TIED CARD OF 'latchkeylaw03.RealsGrow'. -/
def realsGrowCard : Claim7 := { stood := { row := realsGrowRow, standIns := [], harness := (true, "e842360763f7501289f8d59704b8f0307e291caf1a0d0729f9a54866dbc17aa3"), looks := true }, kinds := [], alts := [], laidByText := true, laidKinds := [.data, .data, .widerDeep, .widerDeep, .data, .data, .data, .data, .data, .data, .sentinel, .sentinel, .pinned, .pinned, .pinned], laidTests := true, laidLooks := .later }
def RealsGrowCardSaid : Prop := Claim7.holds Tryz.pinned (.plain (OpenSpec.ofChange realsGrowSpec)) realsGrowCard

/-- THE SECOND FORM's CARD OF 'latchkeylaw03.RealsOrders'. -/
def realsOrdersUptoCard : Claim7 := { stood := { row := realsOrdersUptoRow, standIns := [], harness := (true, "e842360763f7501289f8d59704b8f0307e291caf1a0d0729f9a54866dbc17aa3"), looks := true }, kinds := [], alts := [], laidByText := true, laidKinds := [.data, .data, .widerDeep, .widerDeep, .data, .data, .data, .data, .data, .data, .sentinel, .sentinel, .pinned, .pinned, .pinned], laidTests := true, laidLooks := .later }
def RealsOrdersUptoCardSaid : Prop := Claim7.holds Tryz.pinned (.plain (OpenSpec.upto realsOrdersSpec)) realsOrdersUptoCard

/-- THE SECOND FORM's CARD OF 'latchkeylaw03.RealsInts'. -/
def realsIntsUptoCard : Claim7 := { stood := { row := realsIntsUptoRow, standIns := [], harness := (true, "e842360763f7501289f8d59704b8f0307e291caf1a0d0729f9a54866dbc17aa3"), looks := true }, kinds := [], alts := [], laidByText := true, laidKinds := [.data, .data, .widerDeep, .widerDeep, .data, .data, .data, .data, .data, .data, .sentinel, .sentinel, .pinned, .pinned, .pinned], laidTests := true, laidLooks := .later }
def RealsIntsUptoCardSaid : Prop := Claim7.holds Tryz.pinned (.plain (OpenSpec.upto realsIntsSpec)) realsIntsUptoCard

/-- THE SECOND FORM's CARD OF 'latchkeylaw03.RealsKeys'. -/
def realsKeysUptoCard : Claim7 := { stood := { row := realsKeysUptoRow, standIns := [], harness := (true, "e842360763f7501289f8d59704b8f0307e291caf1a0d0729f9a54866dbc17aa3"), looks := true }, kinds := [], alts := [], laidByText := true, laidKinds := [.data, .data, .widerDeep, .widerDeep, .data, .data, .data, .data, .data, .data, .sentinel, .sentinel, .pinned, .pinned, .pinned], laidTests := true, laidLooks := .later }
def RealsKeysUptoCardSaid : Prop := Claim7.holds Tryz.pinned (.plain (OpenSpec.upto realsKeysSpec)) realsKeysUptoCard

/-- THE SECOND FORM's CARD OF 'latchkeylaw03.RealsNexts'. -/
def realsNextsUptoCard : Claim7 := { stood := { row := realsNextsUptoRow, standIns := [], harness := (true, "e842360763f7501289f8d59704b8f0307e291caf1a0d0729f9a54866dbc17aa3"), looks := true }, kinds := [], alts := [], laidByText := true, laidKinds := [.data, .data, .widerDeep, .widerDeep, .data, .data, .data, .data, .data, .data, .sentinel, .sentinel, .pinned, .pinned, .pinned], laidTests := true, laidLooks := .later }
def RealsNextsUptoCardSaid : Prop := Claim7.holds Tryz.pinned (.plain (OpenSpec.upto realsNextsSpec)) realsNextsUptoCard

/-- THE SECOND FORM's CARD OF 'latchkeylaw03.RealsOrder'. -/
def realsOrderUptoCard : Claim7 := { stood := { row := realsOrderUptoRow, standIns := [], harness := (true, "e842360763f7501289f8d59704b8f0307e291caf1a0d0729f9a54866dbc17aa3"), looks := true }, kinds := [], alts := [], laidByText := true, laidKinds := [.data, .data, .widerDeep, .widerDeep, .data, .data, .data, .data, .data, .data, .sentinel, .sentinel, .pinned, .pinned, .pinned], laidTests := true, laidLooks := .later }
def RealsOrderUptoCardSaid : Prop := Claim7.holds Tryz.pinned (.plain (OpenSpec.upto realsOrderSpec)) realsOrderUptoCard

/-- THE SECOND FORM's CARD OF 'latchkeylaw03.RealsGrow'. -/
def realsGrowUptoCard : Claim7 := { stood := { row := realsGrowUptoRow, standIns := [], harness := (true, "e842360763f7501289f8d59704b8f0307e291caf1a0d0729f9a54866dbc17aa3"), looks := true }, kinds := [], alts := [], laidByText := true, laidKinds := [.data, .data, .widerDeep, .widerDeep, .data, .data, .data, .data, .data, .data, .sentinel, .sentinel, .pinned, .pinned, .pinned], laidTests := true, laidLooks := .later }
def RealsGrowUptoCardSaid : Prop := Claim7.holds Tryz.pinned (.plain (OpenSpec.upto realsGrowSpec)) realsGrowUptoCard
end Rows
end Go.Proofs.YtgpjmadleaiioaaGreatDoor
