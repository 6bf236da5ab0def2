/-
  No cell of these rows narrows 'for every input' (looked for: loops, veiled, ifaces, maps, wideKeys, modest, calm, conditions, laid).
  DERIVED. THE GIVEN ROWS OF THIS SEAT. 6 by the template 'for every input the law returns true; each argument reads behind the call as it read before'; 0 by the template 'total and deterministic' (their statements: YtmglbcldjhdhkaaTotals.lean).
  GIVEN WITH THE SEED: the statements are not yours to turn. If you find one false, say at which input.
  Laid BY PROGRAM, IN A SANDBOX (cutbox-rows.mjs): the forced cells as the released guide's own fill.sh prints them over the translation bc8503714ab1f3b6… (all of the seat's roots in one cut). By AI agents, Wed Nov 11 2026. No macro, syntax, notation, axiom, sorry.
-/
import Derived.Test.YtmglbcldjhdhkaaChecked
import GoSem.Claim
import GoSem.ClaimJoined
import GoSem.ClaimMapViews
import Derived.JoinedTies
import Derived.KernelRfl
namespace Go.Proofs.Ytmglbcldjhdhkaa
/- THE CELL 'sum', in the pinned program and in every row, IS THE sha256 OF THE DUMP (.gsa) THAT YtmglbcldjhdhkaaProg.lean LOADS. Nothing in Lean hashes anything: it is a label: what it is worth is what the hold of that sum in a sandbox is worth. -/
noncomputable def Try.pinned : Pinned := { name := "ytmglbcldjhdhkaa", sum := "bc8503714ab1f3b6e87595518d98ac9f868a39e69ef4502e5ac3c776950843f0", checked := Try.checked }
namespace Rows
def none {H : Type} : Left H := { results := [], args := [] }

/-- 'latchkeylaw05.TokensScans': WHATEVER THE INPUT: true; the input reads as it did. -/
def tokensScansSpec : ChangeSpec := { name := "tokensScans", fn := fun _ => fun
  | [d] => { results := [.lit (.bool true)], args := [d] }
  | _ => none }
def tokensScansRow : OpenClaim := { program := "ytmglbcldjhdhkaa", sum := "bc8503714ab1f3b6e87595518d98ac9f868a39e69ef4502e5ac3c776950843f0", func := "latchkey/latchkeylaw05.TokensScans", spec := "tokensScans", inPlace := ["internal/abi.NoEscape"], apart := false }
def TokensScansSaid : Prop := tokensScansRow.holds Try.pinned (OpenSpec.ofChange tokensScansSpec)

/-- ITS FALSE NEIGHBOUR: 'it returns false'. Refute it at one input. -/
def tokensScansWrong : ChangeSpec := { name := "tokensScans", fn := fun _ => fun
  | [d] => { results := [.lit (.bool false)], args := [d] }
  | _ => none }
def TokensScansWrongFalsely : Prop := tokensScansRow.holds Try.pinned (OpenSpec.ofChange tokensScansWrong)

/-- 'latchkeylaw05.TokensPrints': WHATEVER THE INPUT: true; the input reads as it did. -/
def tokensPrintsSpec : ChangeSpec := { name := "tokensPrints", fn := fun _ => fun
  | [d] => { results := [.lit (.bool true)], args := [d] }
  | _ => none }
def tokensPrintsRow : OpenClaim := { program := "ytmglbcldjhdhkaa", sum := "bc8503714ab1f3b6e87595518d98ac9f868a39e69ef4502e5ac3c776950843f0", func := "latchkey/latchkeylaw05.TokensPrints", spec := "tokensPrints", inPlace := ["internal/abi.NoEscape"], apart := false }
def TokensPrintsSaid : Prop := tokensPrintsRow.holds Try.pinned (OpenSpec.ofChange tokensPrintsSpec)

/-- ITS FALSE NEIGHBOUR: 'it returns false'. Refute it at one input. -/
def tokensPrintsWrong : ChangeSpec := { name := "tokensPrints", fn := fun _ => fun
  | [d] => { results := [.lit (.bool false)], args := [d] }
  | _ => none }
def TokensPrintsWrongFalsely : Prop := tokensPrintsRow.holds Try.pinned (OpenSpec.ofChange tokensPrintsWrong)

/-- 'latchkeylaw05.TokensLimits': WHATEVER THE INPUT: true; the input reads as it did. -/
def tokensLimitsSpec : ChangeSpec := { name := "tokensLimits", fn := fun _ => fun
  | [] => { results := [.lit (.bool true)], args := [] }
  | _ => none }
def tokensLimitsRow : OpenClaim := { program := "ytmglbcldjhdhkaa", sum := "bc8503714ab1f3b6e87595518d98ac9f868a39e69ef4502e5ac3c776950843f0", func := "latchkey/latchkeylaw05.TokensLimits", spec := "tokensLimits", inPlace := ["internal/abi.NoEscape"], apart := false }
def TokensLimitsSaid : Prop := tokensLimitsRow.holds Try.pinned (OpenSpec.ofChange tokensLimitsSpec)

/-- ITS FALSE NEIGHBOUR: 'it returns false'. Refute it at one input. -/
def tokensLimitsWrong : ChangeSpec := { name := "tokensLimits", fn := fun _ => fun
  | [] => { results := [.lit (.bool false)], args := [] }
  | _ => none }
def TokensLimitsWrongFalsely : Prop := tokensLimitsRow.holds Try.pinned (OpenSpec.ofChange tokensLimitsWrong)

/-- 'latchkeylaw05.TokensThere': WHATEVER THE INPUT: true; the input reads as it did. -/
def tokensThereSpec : ChangeSpec := { name := "tokensThere", fn := fun _ => fun
  | [d] => { results := [.lit (.bool true)], args := [d] }
  | _ => none }
def tokensThereRow : OpenClaim := { program := "ytmglbcldjhdhkaa", sum := "bc8503714ab1f3b6e87595518d98ac9f868a39e69ef4502e5ac3c776950843f0", func := "latchkey/latchkeylaw05.TokensThere", spec := "tokensThere", inPlace := ["internal/abi.NoEscape"], apart := false }
def TokensThereSaid : Prop := tokensThereRow.holds Try.pinned (OpenSpec.ofChange tokensThereSpec)

/-- ITS FALSE NEIGHBOUR: 'it returns false'. Refute it at one input. -/
def tokensThereWrong : ChangeSpec := { name := "tokensThere", fn := fun _ => fun
  | [d] => { results := [.lit (.bool false)], args := [d] }
  | _ => none }
def TokensThereWrongFalsely : Prop := tokensThereRow.holds Try.pinned (OpenSpec.ofChange tokensThereWrong)

/-- 'latchkeylaw05.TokensAgain': WHATEVER THE INPUT: true; the input reads as it did. -/
def tokensAgainSpec : ChangeSpec := { name := "tokensAgain", fn := fun _ => fun
  | [d] => { results := [.lit (.bool true)], args := [d] }
  | _ => none }
def tokensAgainRow : OpenClaim := { program := "ytmglbcldjhdhkaa", sum := "bc8503714ab1f3b6e87595518d98ac9f868a39e69ef4502e5ac3c776950843f0", func := "latchkey/latchkeylaw05.TokensAgain", spec := "tokensAgain", inPlace := ["internal/abi.NoEscape"], apart := false }
def TokensAgainSaid : Prop := tokensAgainRow.holds Try.pinned (OpenSpec.ofChange tokensAgainSpec)

/-- ITS FALSE NEIGHBOUR: 'it returns false'. Refute it at one input. -/
def tokensAgainWrong : ChangeSpec := { name := "tokensAgain", fn := fun _ => fun
  | [d] => { results := [.lit (.bool false)], args := [d] }
  | _ => none }
def TokensAgainWrongFalsely : Prop := tokensAgainRow.holds Try.pinned (OpenSpec.ofChange tokensAgainWrong)

/-- 'latchkeylaw05.TokensBlanks': WHATEVER THE INPUT: true; the input reads as it did. -/
def tokensBlanksSpec : ChangeSpec := { name := "tokensBlanks", fn := fun _ => fun
  | [d1, d2] => { results := [.lit (.bool true)], args := [d1, d2] }
  | _ => none }
def tokensBlanksRow : OpenClaim := { program := "ytmglbcldjhdhkaa", sum := "bc8503714ab1f3b6e87595518d98ac9f868a39e69ef4502e5ac3c776950843f0", func := "latchkey/latchkeylaw05.TokensBlanks", spec := "tokensBlanks", inPlace := ["internal/abi.NoEscape"], apart := false }
def TokensBlanksSaid : Prop := tokensBlanksRow.holds Try.pinned (OpenSpec.ofChange tokensBlanksSpec)

/-- ITS FALSE NEIGHBOUR: 'it returns false'. Refute it at one input. -/
def tokensBlanksWrong : ChangeSpec := { name := "tokensBlanks", fn := fun _ => fun
  | [d1, d2] => { results := [.lit (.bool false)], args := [d1, d2] }
  | _ => none }
def TokensBlanksWrongFalsely : Prop := tokensBlanksRow.holds Try.pinned (OpenSpec.ofChange tokensBlanksWrong)

/- THE SECOND FORM. 'bulk': how many values and letters a reading holds, each counted each time it is reached (what is shared counts as often as it is met; a slice's spare places count too). A statement '..UptoSaid' is the law's where the arguments, and the package variables that the reading takes, are together of bulk at most 1048576: NARROWER than '..Said'. Prove '..Said' where nothing that the law and all that it calls make is longer than what came in: it says more and counts as full. Else prove '..UptoSaid'. A law counts once. -/
mutual
def uptoBulk {H : Type} : DataW H → Nat
  | .lit (.string bytes) => bytes.length + 1
  | .lit _ => 1
  | .nil => 1
  | .ptr d => uptoBulk d + 1
  | .slice elems spare => uptoBulkAll elems + uptoBulkAll spare + 1
  | .agg parts => uptoBulkAll parts + 1
  | .iface _ d => uptoBulk d + 1
  | .map entries => uptoBulkEntries entries + 1
  | .held _ => 1
def uptoBulkAll {H : Type} : List (DataW H) → Nat
  | [] => 0
  | d :: r => uptoBulk d + uptoBulkAll r
def uptoBulkEntries {H : Type} : List (Lit × DataW H) → Nat
  | [] => 0
  | x :: r => uptoBulkEntry x + uptoBulkEntries r
def uptoBulkEntry {H : Type} : Lit × DataW H → Nat
  | (.string bytes, d) => bytes.length + uptoBulk d + 1
  | (_, d) => uptoBulk d + 1
 end
def uptoSmall : (H : Type) → List (DataW H) → Bool := fun _ ds => decide (uptoBulkAll ds ≤ 1048576)
def OpenSpec.upto (s : _root_.Go.ChangeSpec) : _root_.Go.OpenSpec := { _root_.Go.OpenSpec.ofChange s with cond := some uptoSmall }

/-- 'latchkeylaw05.TokensScans', WHERE WHAT IT READS IS OF BULK AT MOST 1048576: true; the input reads as it did. -/
def tokensScansUptoRow : OpenClaim := { program := "ytmglbcldjhdhkaa", sum := "bc8503714ab1f3b6e87595518d98ac9f868a39e69ef4502e5ac3c776950843f0", func := "latchkey/latchkeylaw05.TokensScans", spec := "tokensScans", inPlace := ["internal/abi.NoEscape"], apart := false, narrowed := true }
def TokensScansUptoSaid : Prop := tokensScansUptoRow.holds Try.pinned (OpenSpec.upto tokensScansSpec)

/-- 'latchkeylaw05.TokensPrints', WHERE WHAT IT READS IS OF BULK AT MOST 1048576: true; the input reads as it did. -/
def tokensPrintsUptoRow : OpenClaim := { program := "ytmglbcldjhdhkaa", sum := "bc8503714ab1f3b6e87595518d98ac9f868a39e69ef4502e5ac3c776950843f0", func := "latchkey/latchkeylaw05.TokensPrints", spec := "tokensPrints", inPlace := ["internal/abi.NoEscape"], apart := false, narrowed := true }
def TokensPrintsUptoSaid : Prop := tokensPrintsUptoRow.holds Try.pinned (OpenSpec.upto tokensPrintsSpec)

/-- 'latchkeylaw05.TokensLimits', WHERE WHAT IT READS IS OF BULK AT MOST 1048576: true; the input reads as it did. -/
def tokensLimitsUptoRow : OpenClaim := { program := "ytmglbcldjhdhkaa", sum := "bc8503714ab1f3b6e87595518d98ac9f868a39e69ef4502e5ac3c776950843f0", func := "latchkey/latchkeylaw05.TokensLimits", spec := "tokensLimits", inPlace := ["internal/abi.NoEscape"], apart := false, narrowed := true }
def TokensLimitsUptoSaid : Prop := tokensLimitsUptoRow.holds Try.pinned (OpenSpec.upto tokensLimitsSpec)

/-- 'latchkeylaw05.TokensThere', WHERE WHAT IT READS IS OF BULK AT MOST 1048576: true; the input reads as it did. -/
def tokensThereUptoRow : OpenClaim := { program := "ytmglbcldjhdhkaa", sum := "bc8503714ab1f3b6e87595518d98ac9f868a39e69ef4502e5ac3c776950843f0", func := "latchkey/latchkeylaw05.TokensThere", spec := "tokensThere", inPlace := ["internal/abi.NoEscape"], apart := false, narrowed := true }
def TokensThereUptoSaid : Prop := tokensThereUptoRow.holds Try.pinned (OpenSpec.upto tokensThereSpec)

/-- 'latchkeylaw05.TokensAgain', WHERE WHAT IT READS IS OF BULK AT MOST 1048576: true; the input reads as it did. -/
def tokensAgainUptoRow : OpenClaim := { program := "ytmglbcldjhdhkaa", sum := "bc8503714ab1f3b6e87595518d98ac9f868a39e69ef4502e5ac3c776950843f0", func := "latchkey/latchkeylaw05.TokensAgain", spec := "tokensAgain", inPlace := ["internal/abi.NoEscape"], apart := false, narrowed := true }
def TokensAgainUptoSaid : Prop := tokensAgainUptoRow.holds Try.pinned (OpenSpec.upto tokensAgainSpec)

/-- 'latchkeylaw05.TokensBlanks', WHERE WHAT IT READS IS OF BULK AT MOST 1048576: true; the input reads as it did. -/
def tokensBlanksUptoRow : OpenClaim := { program := "ytmglbcldjhdhkaa", sum := "bc8503714ab1f3b6e87595518d98ac9f868a39e69ef4502e5ac3c776950843f0", func := "latchkey/latchkeylaw05.TokensBlanks", spec := "tokensBlanks", inPlace := ["internal/abi.NoEscape"], apart := false, narrowed := true }
def TokensBlanksUptoSaid : Prop := tokensBlanksUptoRow.holds Try.pinned (OpenSpec.upto tokensBlanksSpec)

end Rows
end Go.Proofs.Ytmglbcldjhdhkaa
