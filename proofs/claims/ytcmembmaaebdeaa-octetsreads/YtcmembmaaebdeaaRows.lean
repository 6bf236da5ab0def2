/-
  No cell of these rows narrows 'for every input' (looked for: loops, veiled, ifaces, maps, wideKeys, modest, calm, conditions, laid).
  DERIVED. THE GIVEN ROWS OF THIS SEAT. 6 by the template 'for every input the law returns true; each argument reads behind the call as it read before'; 0 by the template 'total and deterministic' (their statements: YtcmembmaaebdeaaTotals.lean).
  GIVEN WITH THE SEED: the statements are not yours to turn. If you find one false, say at which input.
  Laid BY PROGRAM, IN A SANDBOX (cutbox-rows.mjs): the forced cells as the released guide's own fill.sh prints them over the translation ba5a11c4ffe01563… (all of the seat's roots in one cut). By AI agents, Wed Nov 11 2026. No macro, syntax, notation, axiom, sorry.
-/
import Derived.Test.YtcmembmaaebdeaaChecked
import GoSem.Claim
import GoSem.ClaimJoined
import GoSem.ClaimMapViews
import Derived.JoinedTies
import Derived.KernelRfl
namespace Go.Proofs.Ytcmembmaaebdeaa
/- THE CELL 'sum', in the pinned program and in every row, IS THE sha256 OF THE DUMP (.gsa) THAT YtcmembmaaebdeaaProg.lean LOADS. Nothing in Lean hashes anything: it is a label: what it is worth is what the hold of that sum in a sandbox is worth. -/
noncomputable def Try.pinned : Pinned := { name := "ytcmembmaaebdeaa", sum := "ba5a11c4ffe01563e69550ea108ed9bd6a53c48bdfdfb2c12ff9b1a4b453eb89", checked := Try.checked }
namespace Rows
def none {H : Type} : Left H := { results := [], args := [] }

/-- 'latchkeylaw02.OctetsWrites': WHATEVER THE INPUT: true; the input reads as it did. -/
def octetsWritesSpec : ChangeSpec := { name := "octetsWrites", fn := fun _ => fun
  | [d] => { results := [.lit (.bool true)], args := [d] }
  | _ => none }
def octetsWritesRow : OpenClaim := { program := "ytcmembmaaebdeaa", sum := "ba5a11c4ffe01563e69550ea108ed9bd6a53c48bdfdfb2c12ff9b1a4b453eb89", func := "latchkey/latchkeylaw02.OctetsWrites", spec := "octetsWrites", inPlace := ["math.Float32bits"], unfollowed := true, recurses := true, apart := false }
def OctetsWritesSaid : Prop := octetsWritesRow.holds Try.pinned (OpenSpec.ofChange octetsWritesSpec)

/-- ITS FALSE NEIGHBOUR: 'it returns false'. Refute it at one input. -/
def octetsWritesWrong : ChangeSpec := { name := "octetsWrites", fn := fun _ => fun
  | [d] => { results := [.lit (.bool false)], args := [d] }
  | _ => none }
def OctetsWritesWrongFalsely : Prop := octetsWritesRow.holds Try.pinned (OpenSpec.ofChange octetsWritesWrong)

/-- 'latchkeylaw02.OctetsReads': WHATEVER THE INPUT: true; the input reads as it did. -/
def octetsReadsSpec : ChangeSpec := { name := "octetsReads", fn := fun _ => fun
  | [d1, d2, d3] => { results := [.lit (.bool true)], args := [d1, d2, d3] }
  | _ => none }
def octetsReadsRow : OpenClaim := { program := "ytcmembmaaebdeaa", sum := "ba5a11c4ffe01563e69550ea108ed9bd6a53c48bdfdfb2c12ff9b1a4b453eb89", func := "latchkey/latchkeylaw02.OctetsReads", spec := "octetsReads", inPlace := ["math.Float32frombits", "math.Float32bits"], unfollowed := true, recurses := true, apart := false }
def OctetsReadsSaid : Prop := octetsReadsRow.holds Try.pinned (OpenSpec.ofChange octetsReadsSpec)

/-- ITS FALSE NEIGHBOUR: 'it returns false'. Refute it at one input. -/
def octetsReadsWrong : ChangeSpec := { name := "octetsReads", fn := fun _ => fun
  | [d1, d2, d3] => { results := [.lit (.bool false)], args := [d1, d2, d3] }
  | _ => none }
def OctetsReadsWrongFalsely : Prop := octetsReadsRow.holds Try.pinned (OpenSpec.ofChange octetsReadsWrong)

/-- 'latchkeylaw02.OctetsNone': WHATEVER THE INPUT: true; the input reads as it did. -/
def octetsNoneSpec : ChangeSpec := { name := "octetsNone", fn := fun _ => fun
  | [d] => { results := [.lit (.bool true)], args := [d] }
  | _ => none }
def octetsNoneRow : OpenClaim := { program := "ytcmembmaaebdeaa", sum := "ba5a11c4ffe01563e69550ea108ed9bd6a53c48bdfdfb2c12ff9b1a4b453eb89", func := "latchkey/latchkeylaw02.OctetsNone", spec := "octetsNone", inPlace := ["math.Float32frombits"], unfollowed := true, recurses := true, apart := false }
def OctetsNoneSaid : Prop := octetsNoneRow.holds Try.pinned (OpenSpec.ofChange octetsNoneSpec)

/-- ITS FALSE NEIGHBOUR: 'it returns false'. Refute it at one input. -/
def octetsNoneWrong : ChangeSpec := { name := "octetsNone", fn := fun _ => fun
  | [d] => { results := [.lit (.bool false)], args := [d] }
  | _ => none }
def OctetsNoneWrongFalsely : Prop := octetsNoneRow.holds Try.pinned (OpenSpec.ofChange octetsNoneWrong)

/-- 'latchkeylaw02.OctetsSums': WHATEVER THE INPUT: true; the input reads as it did. -/
def octetsSumsSpec : ChangeSpec := { name := "octetsSums", fn := fun _ => fun
  | [d1, d2] => { results := [.lit (.bool true)], args := [d1, d2] }
  | _ => none }
def octetsSumsRow : OpenClaim := { program := "ytcmembmaaebdeaa", sum := "ba5a11c4ffe01563e69550ea108ed9bd6a53c48bdfdfb2c12ff9b1a4b453eb89", func := "latchkey/latchkeylaw02.OctetsSums", spec := "octetsSums", unfollowed := true, recurses := true, apart := false }
def OctetsSumsSaid : Prop := octetsSumsRow.holds Try.pinned (OpenSpec.ofChange octetsSumsSpec)

/-- ITS FALSE NEIGHBOUR: 'it returns false'. Refute it at one input. -/
def octetsSumsWrong : ChangeSpec := { name := "octetsSums", fn := fun _ => fun
  | [d1, d2] => { results := [.lit (.bool false)], args := [d1, d2] }
  | _ => none }
def OctetsSumsWrongFalsely : Prop := octetsSumsRow.holds Try.pinned (OpenSpec.ofChange octetsSumsWrong)

/-- 'latchkeylaw02.OctetsThere': WHATEVER THE INPUT: true; the input reads as it did. -/
def octetsThereSpec : ChangeSpec := { name := "octetsThere", fn := fun _ => fun
  | [d1, d2, d3] => { results := [.lit (.bool true)], args := [d1, d2, d3] }
  | _ => none }
def octetsThereRow : OpenClaim := { program := "ytcmembmaaebdeaa", sum := "ba5a11c4ffe01563e69550ea108ed9bd6a53c48bdfdfb2c12ff9b1a4b453eb89", func := "latchkey/latchkeylaw02.OctetsThere", spec := "octetsThere", inPlace := ["math.Float32bits", "math.Float32frombits"], unfollowed := true, recurses := true, apart := false }
def OctetsThereSaid : Prop := octetsThereRow.holds Try.pinned (OpenSpec.ofChange octetsThereSpec)

/-- ITS FALSE NEIGHBOUR: 'it returns false'. Refute it at one input. -/
def octetsThereWrong : ChangeSpec := { name := "octetsThere", fn := fun _ => fun
  | [d1, d2, d3] => { results := [.lit (.bool false)], args := [d1, d2, d3] }
  | _ => none }
def OctetsThereWrongFalsely : Prop := octetsThereRow.holds Try.pinned (OpenSpec.ofChange octetsThereWrong)

/-- 'latchkeylaw02.OctetsForms': WHATEVER THE INPUT: true; the input reads as it did. -/
def octetsFormsSpec : ChangeSpec := { name := "octetsForms", fn := fun _ => fun
  | [d1, d2] => { results := [.lit (.bool true)], args := [d1, d2] }
  | _ => none }
def octetsFormsRow : OpenClaim := { program := "ytcmembmaaebdeaa", sum := "ba5a11c4ffe01563e69550ea108ed9bd6a53c48bdfdfb2c12ff9b1a4b453eb89", func := "latchkey/latchkeylaw02.OctetsForms", spec := "octetsForms", inPlace := ["math.Float32frombits", "math.Float32bits"], unfollowed := true, recurses := true, apart := false }
def OctetsFormsSaid : Prop := octetsFormsRow.holds Try.pinned (OpenSpec.ofChange octetsFormsSpec)

/-- ITS FALSE NEIGHBOUR: 'it returns false'. Refute it at one input. -/
def octetsFormsWrong : ChangeSpec := { name := "octetsForms", fn := fun _ => fun
  | [d1, d2] => { results := [.lit (.bool false)], args := [d1, d2] }
  | _ => none }
def OctetsFormsWrongFalsely : Prop := octetsFormsRow.holds Try.pinned (OpenSpec.ofChange octetsFormsWrong)

/- THE SECOND FORM. 'bulk': how many values and letters a reading holds, each counted each time it is reached (what is shared counts as often as it is met; a slice's spare places count too). A statement '..UptoSaid' is the law's where the arguments, and the package variables that the reading takes, are together of bulk at most 1048576: NARROWER than '..Said'. Prove '..Said' where nothing that the law and all that it calls make is longer than what came in: it says more and counts as full. Else prove '..UptoSaid'. A law counts once. -/
mutual
def uptoBulk {H : Type} : DataW H → Nat
  | .lit (.string bytes) => bytes.length + 1
  | .lit _ => 1
  | .nil => 1
  | .ptr d => uptoBulk d + 1
  | .slice elems spare => uptoBulkAll elems + uptoBulkAll spare + 1
  | .agg parts => uptoBulkAll parts + 1
  | .iface _ d => uptoBulk d + 1
  | .map entries => uptoBulkEntries entries + 1
  | .held _ => 1
def uptoBulkAll {H : Type} : List (DataW H) → Nat
  | [] => 0
  | d :: r => uptoBulk d + uptoBulkAll r
def uptoBulkEntries {H : Type} : List (Lit × DataW H) → Nat
  | [] => 0
  | x :: r => uptoBulkEntry x + uptoBulkEntries r
def uptoBulkEntry {H : Type} : Lit × DataW H → Nat
  | (.string bytes, d) => bytes.length + uptoBulk d + 1
  | (_, d) => uptoBulk d + 1
 end
def uptoSmall : (H : Type) → List (DataW H) → Bool := fun _ ds => decide (uptoBulkAll ds ≤ 1048576)
def OpenSpec.upto (s : _root_.Go.ChangeSpec) : _root_.Go.OpenSpec := { _root_.Go.OpenSpec.ofChange s with cond := some uptoSmall }

/-- 'latchkeylaw02.OctetsWrites', WHERE WHAT IT READS IS OF BULK AT MOST 1048576: true; the input reads as it did. -/
def octetsWritesUptoRow : OpenClaim := { program := "ytcmembmaaebdeaa", sum := "ba5a11c4ffe01563e69550ea108ed9bd6a53c48bdfdfb2c12ff9b1a4b453eb89", func := "latchkey/latchkeylaw02.OctetsWrites", spec := "octetsWrites", inPlace := ["math.Float32bits"], unfollowed := true, recurses := true, apart := false, narrowed := true }
def OctetsWritesUptoSaid : Prop := octetsWritesUptoRow.holds Try.pinned (OpenSpec.upto octetsWritesSpec)

/-- 'latchkeylaw02.OctetsReads', WHERE WHAT IT READS IS OF BULK AT MOST 1048576: true; the input reads as it did. -/
def octetsReadsUptoRow : OpenClaim := { program := "ytcmembmaaebdeaa", sum := "ba5a11c4ffe01563e69550ea108ed9bd6a53c48bdfdfb2c12ff9b1a4b453eb89", func := "latchkey/latchkeylaw02.OctetsReads", spec := "octetsReads", inPlace := ["math.Float32frombits", "math.Float32bits"], unfollowed := true, recurses := true, apart := false, narrowed := true }
def OctetsReadsUptoSaid : Prop := octetsReadsUptoRow.holds Try.pinned (OpenSpec.upto octetsReadsSpec)

/-- 'latchkeylaw02.OctetsNone', WHERE WHAT IT READS IS OF BULK AT MOST 1048576: true; the input reads as it did. -/
def octetsNoneUptoRow : OpenClaim := { program := "ytcmembmaaebdeaa", sum := "ba5a11c4ffe01563e69550ea108ed9bd6a53c48bdfdfb2c12ff9b1a4b453eb89", func := "latchkey/latchkeylaw02.OctetsNone", spec := "octetsNone", inPlace := ["math.Float32frombits"], unfollowed := true, recurses := true, apart := false, narrowed := true }
def OctetsNoneUptoSaid : Prop := octetsNoneUptoRow.holds Try.pinned (OpenSpec.upto octetsNoneSpec)

/-- 'latchkeylaw02.OctetsSums', WHERE WHAT IT READS IS OF BULK AT MOST 1048576: true; the input reads as it did. -/
def octetsSumsUptoRow : OpenClaim := { program := "ytcmembmaaebdeaa", sum := "ba5a11c4ffe01563e69550ea108ed9bd6a53c48bdfdfb2c12ff9b1a4b453eb89", func := "latchkey/latchkeylaw02.OctetsSums", spec := "octetsSums", unfollowed := true, recurses := true, apart := false, narrowed := true }
def OctetsSumsUptoSaid : Prop := octetsSumsUptoRow.holds Try.pinned (OpenSpec.upto octetsSumsSpec)

/-- 'latchkeylaw02.OctetsThere', WHERE WHAT IT READS IS OF BULK AT MOST 1048576: true; the input reads as it did. -/
def octetsThereUptoRow : OpenClaim := { program := "ytcmembmaaebdeaa", sum := "ba5a11c4ffe01563e69550ea108ed9bd6a53c48bdfdfb2c12ff9b1a4b453eb89", func := "latchkey/latchkeylaw02.OctetsThere", spec := "octetsThere", inPlace := ["math.Float32bits", "math.Float32frombits"], unfollowed := true, recurses := true, apart := false, narrowed := true }
def OctetsThereUptoSaid : Prop := octetsThereUptoRow.holds Try.pinned (OpenSpec.upto octetsThereSpec)

/-- 'latchkeylaw02.OctetsForms', WHERE WHAT IT READS IS OF BULK AT MOST 1048576: true; the input reads as it did. -/
def octetsFormsUptoRow : OpenClaim := { program := "ytcmembmaaebdeaa", sum := "ba5a11c4ffe01563e69550ea108ed9bd6a53c48bdfdfb2c12ff9b1a4b453eb89", func := "latchkey/latchkeylaw02.OctetsForms", spec := "octetsForms", inPlace := ["math.Float32frombits", "math.Float32bits"], unfollowed := true, recurses := true, apart := false, narrowed := true }
def OctetsFormsUptoSaid : Prop := octetsFormsUptoRow.holds Try.pinned (OpenSpec.upto octetsFormsSpec)

end Rows
end Go.Proofs.Ytcmembmaaebdeaa
