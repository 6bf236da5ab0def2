/- Gather: the first of a sequence, and whether there are more. -/
import Derived.Test.YtkelhglflpdpeaaGx
import Derived.Test.YtkelhglflpdpeaaLg

namespace Go.Proofs.Ytkelhglflpdpeaa
open Go.RowKit Go.PlainAid

open Go.Shelf
attribute [local go_sem] Oper.semAt_some
/-- the variables of Gather -/
structure Gb (w : World) (s0 H : Nat) (most : Int) (r : Value) (c : Bool) (v : Value) (pre : List Pr) (W : World) : Prop where
  b0 : W.heap[H]? = some (.cells #[.int .i64 most] 3 (0, 0))
  b1 : W.heap[H + 1]? = some (.cells #[r] 25 (0, 0))
  b2 : W.heap[H + 2]? = some (.cells #[.bool c] 4 (0, 0))
  b3 : W.heap[H + 3]? = some (.cells #[v] 25 (0, 0))
  row : Rw 29 encP 2 W v pre
  ge : ∀ g, v.ownBlock = some g → H + 5 ≤ g
  kp : Keep [s0] w W
  hH : H = w.heap.size
  sl : s0 < H
theorem Gb.keep {w : World} {s0 H : Nat} {most : Int} {r : Value} {c : Bool} {pre : List Pr} {W : World} {v : Value} {W' : World} {R : List Nat} (h : Gb w s0 H most r c v pre W) (kk : Keep R W W') (hR : ∀ x ∈ R, x = s0 ∨ H + 5 ≤ x) (hN : ∀ x ∈ R, ∀ cs, W.heap[x]? ≠ some (.cells cs 29 (0, 0)) ∨ x = s0) : Gb w s0 H most r c v pre W' := by
  have g : ∀ j o, j < 5 → W.heap[H + j]? = some o → W'.heap[H + j]? = some o := fun j o hj ho => (kk.block _ (Array.getElem?_eq_some_iff.1 ho).1 (fun hm => by have := hR _ hm; have := h.sl; omega)).trans ho
  refine ⟨g 0 _ (by omega) h.b0, g 1 _ (by omega) h.b1, g 2 _ (by omega) h.b2, g 3 _ (by omega) h.b3, h.row.keep kk (fun x hx hm => ?_), h.ge, h.kp.more kk (fun x hx => ?_), h.hH, h.sl⟩
  · obtain ⟨cur, hb⟩ := RowC.blk h.row hx
    rcases hN x hm cur with h1 | h1
    · exact h1 hb
    · have := h.ge x hx; have := h.sl; omega
  · rcases hR x hx with h1 | h1
    · exact .inl (by simp [h1])
    · have := h.hH; exact .inr (by omega)
theorem Gb.abd (w : World) (s0 H : Nat) (most : Int) (P : List Pr → Value → Bool → Value → List Pr → Prop) (B : Nat) (hB : H + 5 ≤ B) : Abd s0 B (fun p W => ∃ r c v pre, P p r c v pre ∧ Gb w s0 H most r c v pre W) := fun p W W' R ⟨r, c, v, pre, hp, h⟩ kk hR =>
  ⟨r, c, v, pre, hp, h.keep kk (fun x hx => (hR x hx).imp id (fun h => by omega)) (fun x hx cs => by
    rcases hR x hx with h1 | ⟨_, c2, h2⟩
    · exact .inr h1
    · refine .inl (fun e => ?_)
      rw [h2] at e
      cases e)⟩
theorem Gb.putObj {w : World} {s0 H : Nat} {most : Int} {r : Value} {c : Bool} {pre : List Pr} {W : World} {v : Value} (h : Gb w s0 H most r c v pre W) (b : Nat) (o : Obj) (hb : H + 5 ≤ b) (hc : ∃ o', W.heap[b]? = some o' ∧ o'.isCells = false) : Gb w s0 H most r c v pre (W.putObj b o) :=
  h.keep (Keep.grown (grownBy_putObj' W b o)) (fun x hx => by simp at hx; omega) (fun x hx cs => by
    simp at hx
    subst hx
    obtain ⟨o', h1, h2⟩ := hc
    refine .inl (fun e => ?_)
    rw [h1] at e
    cases e
    cases h2)
theorem Gb.cells {w : World} {s0 H : Nat} {most : Int} {r : Value} {c : Bool} {pre : List Pr} {W : World} {v : Value} (h : Gb w s0 H most r c v pre W) : (W.cell? ⟨H, 0, none⟩ = some (.int .i64 most) ∧ W.cell? ⟨H + 1, 0, none⟩ = some r ∧ W.cell? ⟨H + 2, 0, none⟩ = some (.bool c) ∧ W.cell? ⟨H + 3, 0, none⟩ = some v) ∧ W.frozen? ⟨H + 1, 0, none⟩ = false ∧ W.frozen? ⟨H + 2, 0, none⟩ = false ∧ W.frozen? ⟨H + 3, 0, none⟩ = false :=
  ⟨⟨(box_cell h.b0).1, (box_cell h.b1).1, (box_cell h.b2).1, (box_cell h.b3).1⟩, (box_cell h.b1).2, (box_cell h.b2).2, (box_cell h.b3).2⟩
/-- the results are laid -/
theorem Gb.res {w : World} {s0 H : Nat} {most : Int} {r : Value} {c : Bool} {pre : List Pr} {W : World} {v : Value} (h : Gb w s0 H most r c v pre W) (d : Bool) : Gb w s0 H most v d v pre ((W.setCell ⟨H + 1, 0, none⟩ v).setCell ⟨H + 2, 0, none⟩ (.bool d)) ∧ Keep [H + 1, H + 2] W ((W.setCell ⟨H + 1, 0, none⟩ v).setCell ⟨H + 2, 0, none⟩ (.bool d)) := by
  have k1 := Keep.set1 W ⟨H + 1, 0, none⟩ v
  have k2 := Keep.set1 (W.setCell ⟨H + 1, 0, none⟩ v) ⟨H + 2, 0, none⟩ (.bool d)
  have kk : Keep [H + 1, H + 2] W ((W.setCell ⟨H + 1, 0, none⟩ v).setCell ⟨H + 2, 0, none⟩ (.bool d)) := ((Keep.refl _ W).setCell (.inl (by simp)) _).setCell (.inl (by simp)) _
  have g : ∀ j o, j = 0 ∨ j = 3 → W.heap[H + j]? = some o → ((W.setCell ⟨H + 1, 0, none⟩ v).setCell ⟨H + 2, 0, none⟩ (.bool d)).heap[H + j]? = some o := fun j o hj ho => (kk.block _ (Array.getElem?_eq_some_iff.1 ho).1 (by simp; omega)).trans ho
  refine ⟨⟨g 0 _ (by omega) h.b0, ?_, ?_, g 3 _ (by omega) h.b3, h.row.keep kk (fun x hx hm => ?_), h.ge, h.kp.more kk (fun x hx => ?_), h.hH, h.sl⟩, kk⟩
  · have e1 : (W.setCell ⟨H + 1, 0, none⟩ v).heap[H + 1]? = some (.cells #[v] 25 (0, 0)) := one_setCell h.b1
    exact (k2.block _ (Array.getElem?_eq_some_iff.1 e1).1 (by simp)).trans e1
  · exact one_setCell ((k1.block _ (Array.getElem?_eq_some_iff.1 h.b2).1 (by simp)).trans h.b2)
  · have := h.ge x hx
    simp at hm
    omega
  · have := h.hH
    simp at hx
    exact .inr (by omega)
theorem Gb.new (w : World) (s0 : Nat) (most : Int) (hs : s0 < w.heap.size) (o : Obj) : Gb w s0 w.heap.size most (.slice none 0 0) false (.slice none 0 0) [] (((((w.alloc (.cells #[.int .i64 most] 3)).alloc (.cells #[.slice none 0 0] 25)).alloc (.cells #[.bool false] 4)).alloc (.cells #[.slice none 0 0] 25)).alloc o) := by
  refine ⟨?_, ?_, ?_, ?_, Rw.nil _ _ _ _, fun g hg => by simp [Value.ownBlock] at hg, (((((Keep.alloc1 w _).alloc _).alloc _).alloc _).alloc _).mono (by simp), rfl, hs⟩
  · exact (Below.heap_alloc _ _ _ (by simp only [World.size_alloc]; omega)).trans ((Below.heap_alloc _ _ _ (by simp only [World.size_alloc]; omega)).trans ((Below.heap_alloc _ _ _ (by simp only [World.size_alloc]; omega)).trans ((Below.heap_alloc _ _ _ (by simp)).trans (heap_alloc_new _ _))))
  · have := heap_alloc_new (w.alloc (.cells #[.int .i64 most] 3)) (.cells #[.slice none 0 0] 25)
    rw [World.size_alloc] at this
    exact (Below.heap_alloc _ _ _ (by simp only [World.size_alloc]; omega)).trans ((Below.heap_alloc _ _ _ (by simp only [World.size_alloc]; omega)).trans ((Below.heap_alloc _ _ _ (by simp)).trans this))
  · have := heap_alloc_new ((w.alloc (.cells #[.int .i64 most] 3)).alloc (.cells #[.slice none 0 0] 25)) (.cells #[.bool false] 4)
    rw [World.size_alloc, World.size_alloc] at this
    exact (Below.heap_alloc _ _ _ (by simp only [World.size_alloc]; omega)).trans ((Below.heap_alloc _ _ _ (by simp)).trans this)
  · have := heap_alloc_new (((w.alloc (.cells #[.int .i64 most] 3)).alloc (.cells #[.slice none 0 0] 25)).alloc (.cells #[.bool false] 4)) (.cells #[.slice none 0 0] 25)
    rw [World.size_alloc, World.size_alloc, World.size_alloc] at this
    exact (Below.heap_alloc _ _ _ (by simp)).trans this

end Go.Proofs.Ytkelhglflpdpeaa
