/- A list that counts how far it is gone through, and what bears it. -/
import Derived.Laws.EntriesVeiled
import Derived.Test.YtkelhglflpdpeaaGs
namespace Go.Proofs.Ytkelhglflpdpeaa
open Go.RowKit Go.PlainAid Go.Shelf
attribute [local go_sem] Oper.semAt_some

theorem box_cell {W : World} {b t : Nat} {v : Value} (h : W.heap[b]? = some (.cells #[v] t (0, 0))) : W.cell? ⟨b, 0, none⟩ = some v ∧ W.frozen? ⟨b, 0, none⟩ = false := ⟨by unfold World.cell?; rw [h]; rfl, by unfold World.frozen?; rw [h]; rfl⟩

set_option maxHeartbeats 1000000 in
theorem kept72 (lp Bw By : Nat) (y : Pr) (W : World) (P : Bool → World → Prop)
    (hw : W.heap[Bw]? = some (.cells #[.bool true] 4 (0, 0))) (hy : W.heap[By]? = some (.cells #[.func (.yield lp) #[] #[]] 36 (0, 0)))
    (hP : ∀ b W2, P b W2 → W2.heap[Bw]? = some (.cells #[.bool true] 4 (0, 0)))
    (hY : YieldAt Fence.wide 4 Try.prog lp #[vP y] (W.alloc (.cells #[.int .i64 y.k, .int .i64 y.m] 29)) fun e W' => ∃ b, e = .returned (.bool b) ∧ P b W') :
    Calls Try.prog 72 #[vP y, .pointer (some ⟨Bw, 0, none⟩), .pointer (some ⟨By, 0, none⟩)] W fun e W' => ∃ b W2, e = .returned (.bool b) ∧ P b W2 ∧ W' = W2.setCell ⟨Bw, 0, none⟩ (.bool b) := by
  refine (callsIn_wide (n := 5)).1 ?_
  obtain ⟨c1, _⟩ := box_cell hw
  obtain ⟨c2, _⟩ := box_cell hy
  have HP : Hid (∀ b W2, P b W2 → W2.cell? ⟨Bw, 0, none⟩ = some (.bool true) ∧ W2.frozen? ⟨Bw, 0, none⟩ = false) := fun b W2 h => box_cell (hP b W2 h)
  have z1 := (Array.getElem?_eq_some_iff.1 hw).1
  have z2 := (Array.getElem?_eq_some_iff.1 hy).1
  obtain ⟨fn, tmps, assign, body, hy', hR⟩ := yieldAny rfl 4 hY
  have hdd : ∀ k : Nat, (Fence.wide.depth.isSome = true → 1 ≤ k) := fun k h => by cases h
  clear hY hP hw hy
  refine callsIn_of_wp Try.func72 rfl trivial ?_ rfl
  simp only [Try.ntmps72, List.size_toArray, List.length_cons, List.length_nil, Nat.reduceAdd, Nat.reduceSub, Array.replicate_succ, Array.replicate_zero, List.push_toArray, List.append_toArray, List.nil_append, List.cons_append]
  gi_wp2_with ((try refine ⟨hdd _, ?_⟩); refine hR.mono ?_; clear hR; rintro e W2 ⟨b, rfl, hp⟩; have HPP : Hid (P b W2) := hp; obtain ⟨d1, d2⟩ := HP.out b W2 hp; clear hp)
  go_ret
  exact ⟨b, W2, rfl, HPP.out, rfl⟩
end Go.Proofs.Ytkelhglflpdpeaa
