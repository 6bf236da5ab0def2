/- The document's SameArgs. -/
import Derived.Test.YtclapbpkkaljgaaGreatDoorRvA
import Derived.Test.YtclapbpkkaljgaaGreatDoorArgY
import Derived.Deep.RegionHeld3
import Derived.Deep.RegionWith
import Derived.Deep.QuietTactic
import Derived.BigQuiet
namespace Go.Proofs.YtclapbpkkaljgaaGreatDoor
open Go.RowKit Go.PlainAid

def ba (l : List UInt8) : ByteArray := ⟨l.toArray⟩
theorem ba_toList (l : List UInt8) : (ba l).toList = l := ByteArray.toList_mk l
theorem toList_ba (s : ByteArray) : ba s.toList = s := by rw [ByteArray.toList_eq]; unfold ba; simp
theorem toList_inj {a b : ByteArray} (h : a.toList = b.toList) : a = b := by
  have := congrArg ba h
  rwa [toList_ba, toList_ba] at this
def sameA (x y : AD) : Bool := decide (x.nm = y.nm) && sameV x.val y.val
def sameAL : List AD → List AD → Bool
  | [], [] => true
  | x :: l, y :: m => sameA x y && sameAL l m
  | _, _ => false
theorem sameAL_iff (l m : List AD) : sameAL l m = true ↔ l.length = m.length ∧ ∀ i (h1 : i < l.length) (h2 : i < m.length), sameA l[i] m[i] = true := by
  induction l generalizing m with
  | nil => cases m with
    | nil => simp [sameAL]
    | cons y m => simp [sameAL]
  | cons x l ih => cases m with
    | nil => simp [sameAL]
    | cons y m =>
      simp only [sameAL, Bool.and_eq_true, ih m, List.length_cons]
      constructor
      · rintro ⟨h1, h2, h3⟩
        refine ⟨by omega, fun i a b => ?_⟩
        cases i with
        | zero => exact h1
        | succ i => exact h3 i (by omega) (by omega)
      · rintro ⟨h1, h2⟩
        exact ⟨h2 0 (by omega) (by omega), by omega, fun i a b => h2 (i + 1) (by omega) (by omega)⟩
theorem sameAL_not {l m : List AD} (i : Nat) (h1 : i < l.length) (h2 : i < m.length) (h : sameA l[i] m[i] = false) : sameAL l m = false := by
  cases e : sameAL l m
  · rfl
  · have := ((sameAL_iff l m).1 e).2 i h1 h2
    rw [h] at this
    cases this
theorem sameAL_len {l m : List AD} (h : l.length ≠ m.length) : sameAL l m = false := by
  cases e : sameAL l m
  · rfl
  · exact absurd ((sameAL_iff l m).1 e).1 h

end Go.Proofs.YtclapbpkkaljgaaGreatDoor


