/- The document's Same of two values: just sameV. -/
import Derived.Test.YtncbanpimfhhbaaGreatDoorRvC
import Derived.Test.YtncbanpimfhhbaaGreatDoorRefH
import Derived.Test.YtncbanpimfhhbaaGreatDoorOrdV
namespace Go.Proofs.YtncbanpimfhhbaaGreatDoor
open Go.RowKit Go.PlainAid

/-- a real that may be has nothing else -/
theorem real_bare (p : VD) (h : p.mayB = true) (h3 : p.kind = 3) : p.bool = false ∧ p.int = 0 ∧ p.text = ⟨#[]⟩ ∧ p.texts = [] := by
  unfold VD.mayB at h
  simp only [Bool.and_eq_true] at h
  have h2 := h.1.2
  unfold VD.clear at h2
  rw [if_neg (by omega), if_neg (by omega), if_pos h3] at h2
  unfold VD.emptyB at h2
  simp only [Bool.and_eq_true, Bool.not_eq_true', beq_iff_eq, List.isEmpty_iff] at h2
  exact ⟨h2.1.1.1.1, h2.1.1.1.2, text_nil h2.1.2, h2.2⟩
theorem eqL_self (l : List ByteArray) : eqL l l = true := by unfold eqL; simp
theorem eqL_len {a b : List ByteArray} (h : ¬ a.length = b.length) : eqL a b = false := by
  unfold eqL
  rw [beq_eq_false_iff_ne]
  intro e
  have := congrArg List.length e
  simp at this
  exact h this
theorem eqL_at {a b : List ByteArray} {k : Nat} (ha : k < a.length) (hb : k < b.length) (h : ¬ a[k].toList = b[k].toList) : eqL a b = false := by
  unfold eqL
  rw [beq_eq_false_iff_ne]
  intro e
  apply h
  have := congrArg (fun l => l[k]?) e
  simpa [ha, hb] using this
theorem eqL_all {a b : List ByteArray} (hl : a.length = b.length) (h : ∀ j (h : j < a.length) (h' : j < b.length), a[j].toList = b[j].toList) : eqL a b = true := by
  unfold eqL
  rw [beq_iff_eq]
  apply List.ext_getElem
  · simpa using hl
  · intro j h1 h2
    simp at h1 h2
    simpa using h j h1 h2
theorem same_apart (a b : VD) (ha : a.mayB = true) (hb : b.mayB = true) (hk : a.kind = b.kind) (h : (a.bool == b.bool) = false ∨ (a.int == b.int) = false ∨ (a.text.toList == b.text.toList) = false ∨ eqL a.texts b.texts = false) : sameV a b = false := by
  unfold sameV
  by_cases h3 : a.kind = 3
  · obtain ⟨a1, a2, a3, a4⟩ := real_bare a ha h3
    obtain ⟨b1, b2, b3, b4⟩ := real_bare b hb (by omega)
    rw [a1, a2, a3, a4, b1, b2, b3, b4] at h
    rcases h with h | h | h | h
    · simp at h
    · simp at h
    · simp at h
    · rw [eqL_self] at h; cases h
  · rw [if_neg h3]
    rcases h with h | h | h | h <;> rw [h] <;> simp
theorem same_as (a b : VD) (ha : a.mayB = true) (hb : b.mayB = true) (hk : a.kind = b.kind) (h1 : (a.bool == b.bool) = true) (h2 : (a.int == b.int) = true) (h3 : (a.text.toList == b.text.toList) = true) (h4 : eqL a.texts b.texts = true) (h : a.kind = 3 → sameR a.real b.real = true) : sameV a b = true := by
  unfold sameV
  rw [ha, hb, decide_eq_true hk, h1, h2, h3, h4]
  by_cases h3 : a.kind = 3
  · rw [if_pos h3, h h3]; rfl
  · rw [if_neg h3]; rfl
theorem same_real (a b : VD) (hk : a.kind = 3) (h : sameR a.real b.real = false) : sameV a b = false := by
  unfold sameV
  rw [if_pos hk, h]; simp

end Go.Proofs.YtncbanpimfhhbaaGreatDoor


