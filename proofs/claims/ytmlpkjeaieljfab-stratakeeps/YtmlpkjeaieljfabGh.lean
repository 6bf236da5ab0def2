/- Arrays of one's own, of elements of one cell. -/
import Derived.Test.YtmlpkjeaieljfabGn
namespace Go.Proofs.Ytmlpkjeaieljfab
open Go.RowKit Go.PlainAid

/-- an array of n elements in a block of its own -/
structure Arr {α : Type} (E : TypeId) (e : α → Value) (w : World) (g n : Nat) (l : List α) : Prop where
  row : RowC w E 1 (.slice (some ⟨g, 0, none⟩) n n) n (l.map e)
  len : l.length = n
theorem Arr.keep {α : Type} {E : TypeId} {e : α → Value} {w w' : World} {g n : Nat} {l : List α} {F : List Nat} (h : Arr E e w g n l) (k : Keep F w w') (hn : g ∉ F) : Arr E e w' g n l :=
  ⟨h.row.keep k (fun x hx => by simp [Value.ownBlock] at hx; subst hx; exact hn), h.len⟩
theorem Arr.lt {α : Type} {E : TypeId} {e : α → Value} {w : World} {g n : Nat} {l : List α} (h : Arr E e w g n l) : g < w.heap.size := h.row.lt g rfl
theorem Arr.facts {α : Type} {E : TypeId} {e : α → Value} {w : World} {g n : Nat} {l : List α} (h : Arr E e w g n l) : n ≤ 9223372036854775807 ∧ (∀ j, j < n → w.cell? ⟨g, j, none⟩ = (l.map e)[j]?) ∧ ∀ j, w.frozen? ⟨g, j, none⟩ = false := by
  rcases h.row.cases with ⟨_, _, h3⟩ | ⟨g', cap, he, h1, h2, h3, h4, h5⟩
  · simp at h3
  · simp at he
    obtain ⟨rfl, rfl⟩ := he
    exact ⟨h2, fun j hj => h4 j (by omega), h5⟩
theorem Arr.cell {α : Type} {E : TypeId} {e : α → Value} {w : World} {g n : Nat} {l : List α} (h : Arr E e w g n l) (d : α) (j : Nat) (hj : j < n) : w.cell? ⟨g, j, none⟩ = some (e (l.getD j d)) := by
  have hl := h.len
  rw [h.facts.2.1 j hj, List.getElem?_map, List.getD_eq_getElem?_getD, List.getElem?_eq_getElem (by omega)]
  rfl
theorem Arr.free {α : Type} {E : TypeId} {e : α → Value} {w : World} {g n : Nat} {l : List α} (h : Arr E e w g n l) (j : Nat) : w.frozen? ⟨g, j, none⟩ = false := h.facts.2.2 j
theorem Arr.put {α : Type} {E : TypeId} {e : α → Value} {w : World} {g n : Nat} {l : List α} (h : Arr E e w g n l) (p : Nat) (y : α) : Arr E e (w.setCell ⟨g, p, none⟩ (e y)) g n (l.set p y) := by
  refine ⟨?_, by rw [List.length_set]; exact h.len⟩
  rw [List.map_set]
  exact h.row.set p (e y)
theorem Arr.drewN {α : Type} {E : TypeId} {e : α → Value} {w : World} {g n : Nat} {l : List α} (h : Arr E e w g n l) (q : Nat) : Arr E e (w.drewN q) g n l := h.keep ((Keep.refl [] w).drewN q) (by simp)
/-- an array that make made -/
theorem Arr.made {α : Type} {E : TypeId} {e : α → Value} {w : World} {g n : Nat} {z : α} (h : RowC w E 1 (.slice (some ⟨g, 0, none⟩) n n) n (madeCells #[e z] n).toList) : Arr E e w g n (List.replicate n z) := by
  refine ⟨?_, by simp⟩
  rw [toList_madeCells_one] at h
  rw [List.map_replicate]
  exact h
/-- a slice that reads as the array -/
theorem Arr.rd {α : Type} {E : TypeId} {e : α → Value} {w : World} {g n : Nat} {l : List α} (h : Arr E e w g n l) : Rd (fun x => [e x]) 1 w (.slice (some ⟨g, 0, none⟩) n n) l := by
  have hl := h.len
  have hf := h.facts
  subst hl
  refine ⟨some ⟨g, 0, none⟩, l.length, rfl, Nat.le_refl _, by simp only [maxLen]; omega, (by intro h; cases h), fun _ => ⟨g, 0, rfl, h.lt, fun j hj i hi => ?_⟩⟩
  obtain rfl : i = 0 := by omega
  rw [show 0 + j * 1 + 0 = j by omega, hf.2.1 j hj, List.getElem?_map, List.getElem?_eq_getElem hj]
  rfl

def eN (x : Nat) : Value := .int .i64 (x : Int)
def eI (x : Int) : Value := .int .i64 x
def eB (x : Bool) : Value := .bool x
def encN (x : Nat) : List Value := [eN x]
theorem encN_len (a : Nat) : (encN a).length = 1 := rfl

theorem getD_set {α : Type} (l : List α) (p j : Nat) (y d : α) (hp : p < l.length) : (l.set p y).getD j d = if j = p then y else l.getD j d := by
  rw [List.getD_eq_getElem?_getD, List.getElem?_set]
  by_cases h : p = j
  · subst h; simp [hp]
  · rw [if_neg h, if_neg (fun e => h e.symm), List.getD_eq_getElem?_getD]
theorem getD_replicate {α : Type} (n j : Nat) (d : α) : (List.replicate n d).getD j d = d := by
  rw [List.getD_eq_getElem?_getD, List.getElem?_replicate]
  split <;> rfl
end Go.Proofs.Ytmlpkjeaieljfab

