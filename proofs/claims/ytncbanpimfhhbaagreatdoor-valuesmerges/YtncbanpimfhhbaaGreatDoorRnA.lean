/- What Name of the document's answer answers, for every text, where its table of words lies in memory. -/
import Derived.Test.YtncbanpimfhhbaaGreatDoorINameW
import Derived.Test.YtncbanpimfhhbaaGreatDoorRvC
namespace Go.Proofs.YtncbanpimfhhbaaGreatDoor
open Go.RowKit Go.PlainAid

def ba (l : List UInt8) : ByteArray := ⟨l.toArray⟩
theorem ba_toList (l : List UInt8) : (ba l).toList = l := ByteArray.toList_mk l
def wordsL : List (List UInt8) := [[116, 121, 112, 101], [114, 101, 108, 97, 116, 105, 111, 110], [99, 111, 110, 100], [111, 114], [97, 110, 100], [110, 111, 116], [102, 114, 111, 109], [119, 105, 116, 104], [105, 110], [116, 114, 117, 101], [102, 97, 108, 115, 101], [110, 97, 110], [105, 110, 102]]
def wordAt (k : Nat) : List UInt8 := wordsL.getD k []

theorem res_words (l : List UInt8) : resL l = wordsL.any (· == l) := by
  unfold resL wordsL
  simp only [List.any_cons, List.any_nil, Bool.or_false, Bool.or_assoc]
  simp only [Bool.beq_comm]
theorem res_at {l : List UInt8} {k : Nat} (hk : k < 13) (h : wordAt k = l) : resL l = true := by
  rw [res_words, List.any_eq_true]
  refine ⟨wordAt k, ?_, by simp [h]⟩
  unfold wordAt
  have : k < wordsL.length := hk
  rw [List.getD_eq_getElem?_getD, List.getElem?_eq_getElem this]
  exact List.getElem_mem this
theorem res_none {l : List UInt8} (h : ∀ k, k < 13 → wordAt k ≠ l) : resL l = false := by
  rw [res_words, List.any_eq_false]
  intro x hx
  obtain ⟨k, hk, rfl⟩ := List.getElem_of_mem hx
  have := h k hk
  unfold wordAt at this
  rw [List.getD_eq_getElem?_getD, List.getElem?_eq_getElem hk] at this
  simpa using this

end Go.Proofs.YtncbanpimfhhbaaGreatDoor

