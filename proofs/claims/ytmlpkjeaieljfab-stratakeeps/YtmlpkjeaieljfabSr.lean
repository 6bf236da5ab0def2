/- spreader: the closure that it hands back, and its boxes. -/
import Derived.Test.YtmlpkjeaieljfabSq
namespace Go.Proofs.Ytmlpkjeaieljfab
open Go.RowKit Go.PlainAid Go.Sort

/-- what spreader lays -/
structure Spr (w w' : World) (fm : Nat) (cb : Array Value) (va vf : Value) : Prop where
  cs : w'.cell? ⟨w.heap.size + 3, 0, none⟩ = some (.func (.func 52) #[] #[.pointer (some ⟨w.heap.size + 1, 0, none⟩), .pointer (some ⟨w.heap.size + 2, 0, none⟩)])
  ct : w'.cell? ⟨w.heap.size + 4, 0, none⟩ = some (.func (.func 53) #[] #[.pointer (some ⟨w.heap.size + 2, 0, none⟩)])
  cg0 : w'.cell? ⟨w.heap.size, 0, none⟩ = some va
  cg1 : w'.cell? ⟨w.heap.size, 1, none⟩ = some vf
  cf : w'.cell? ⟨w.heap.size + 1, 0, none⟩ = some (.func (.func fm) #[] cb)
  bx : Bx w' (w.heap.size + 2) 28 (.slice none 0 0)
  wt : Wt (w.heap.size + 5) w' (w.heap.size + 2) []
  size : w'.heap.size = w.heap.size + 5
  keep : Keep [] w w'

theorem blk_next {W : World} {k : Nat} {o o' : Obj} (h : W.heap[k]? = some o) : (W.alloc o').heap[k]? = some o := ((Keep.alloc1 W o').block k (Array.getElem?_eq_some_iff.1 h).1 (by simp)).trans h
theorem five (w : World) (o0 o1 o2 o3 o4 : Obj) : (((((w.alloc o0).alloc o1).alloc o2).alloc o3).alloc o4).heap[w.heap.size]? = some o0 ∧ (((((w.alloc o0).alloc o1).alloc o2).alloc o3).alloc o4).heap[w.heap.size + 1]? = some o1 ∧ (((((w.alloc o0).alloc o1).alloc o2).alloc o3).alloc o4).heap[w.heap.size + 2]? = some o2 ∧ (((((w.alloc o0).alloc o1).alloc o2).alloc o3).alloc o4).heap[w.heap.size + 3]? = some o3 ∧ (((((w.alloc o0).alloc o1).alloc o2).alloc o3).alloc o4).heap[w.heap.size + 4]? = some o4 ∧ (((((w.alloc o0).alloc o1).alloc o2).alloc o3).alloc o4).heap.size = w.heap.size + 5 ∧ Keep [] w (((((w.alloc o0).alloc o1).alloc o2).alloc o3).alloc o4) := by
  have s1 : (w.alloc o0).heap.size = w.heap.size + 1 := by simp
  have s2 : ((w.alloc o0).alloc o1).heap.size = w.heap.size + 2 := by simp
  have s3 : (((w.alloc o0).alloc o1).alloc o2).heap.size = w.heap.size + 3 := by simp
  have s4 : ((((w.alloc o0).alloc o1).alloc o2).alloc o3).heap.size = w.heap.size + 4 := by simp
  refine ⟨blk_next (blk_next (blk_next (blk_next (heap_alloc_new w o0)))), ?_, ?_, ?_, ?_, by simp, (((((Keep.refl [] w).alloc _).alloc _).alloc _).alloc _).alloc _⟩
  · rw [← s1]; exact blk_next (blk_next (blk_next (heap_alloc_new _ o1)))
  · rw [← s2]; exact blk_next (blk_next (heap_alloc_new _ o2))
  · rw [← s3]; exact blk_next (heap_alloc_new _ o3)
  · rw [← s4]; exact heap_alloc_new _ o4
theorem store_func (a : Addr) (f : Fn) (x y : Array Value) (w : World) : (store a (.func f x y)).run Try.prog w = Go.stored Try.prog w a (.func f x y) .plain := run_store Try.prog w a _ .plain rfl

set_option maxRecDepth 1000000 in
theorem spreader_any (va vf : Value) (fm : Nat) (cb : Array Value) (w : World) (hva : ∃ a n c, va = .slice a n c) (hvf : ∃ a n c, vf = .slice a n c) :
    Calls Try.prog 40 #[.agg #[va, vf], .func (.func fm) #[] cb] w fun e w' => e = .returned (.func (.func 54) #[] #[.pointer (some ⟨w.heap.size + 3, 0, none⟩), .pointer (some ⟨w.heap.size + 2, 0, none⟩), .pointer (some ⟨w.heap.size, 0, none⟩), .pointer (some ⟨w.heap.size + 4, 0, none⟩)]) ∧ Spr w w' fm cb va vf := by
  have hmf : ∀ (fn : Fn) (first cap : Array Value) (w : World), (Instr.makeFunc fn first cap).run Try.prog w = .ok (.func fn first cap) w := fun _ _ _ _ => rfl
  have hsf := store_func
  simp only [Go.stored] at hsf
  obtain ⟨a1, n1, c1, rfl⟩ := hva
  obtain ⟨a2, n2, c2, rfl⟩ := hvf
  go_enter Try.func40, Try.ntmps40
  go_wp2
  go_ret
  refine ⟨rfl, ?_⟩
  obtain ⟨h0, h1, h2, h3, h4, hs, hk⟩ := five w (.cells #[.slice a1 n1 c1, .slice a2 n2 c2] 45) (.cells #[.func (.func fm) #[] cb] 52) (.cells #[.slice none 0 0] 28) (.cells #[.func (.func 52) #[] #[.pointer (some ⟨w.heap.size + 1, 0, none⟩), .pointer (some ⟨w.heap.size + 2, 0, none⟩)]] 63) (.cells #[.func (.func 53) #[] #[.pointer (some ⟨w.heap.size + 2, 0, none⟩)]] 58)
  exact ⟨by simp only [World.cell?, h3]; rfl, by simp only [World.cell?, h4]; rfl, by simp only [World.cell?, h0]; rfl, by simp only [World.cell?, h0]; rfl, by simp only [World.cell?, h1]; rfl, h2, ⟨.slice none 0 0, h2, Rw.nil 3 encN 1 _, fun x hx => by simp [Value.ownBlock] at hx⟩, hs, hk⟩
end Go.Proofs.Ytmlpkjeaieljfab

