/- The library's fmtEFG, where the digits are written with a power of ten of one digit. -/
import Derived.Test.YtfpcpociejefaaaGreatDoorOwn
namespace Go.Proofs.YtfpcpociejefaaaGreatDoor
open Go.RowKit Go.PlainAid
/-- what is being written, beside the digits -/
structure Fm (w0 w : World) (v : Value) (l : List UInt8) (b cap : Nat) (D : List UInt8) : Prop where
 row : Row w v l
 bs : Bs w (.slice (some ⟨b, 0, none⟩) D.length cap) D
 ne : D ≠ []
 off : b ∉ v.ownBlock.toList
 keep : Keep [] w0 w
 fresh : Fresh w0 w v
theorem Fm.blt {w0 w : World} {v : Value} {l : List UInt8} {b cap : Nat} {D : List UInt8} (h : Fm w0 w v l b cap D) : b < w.heap.size := h.bs.lt h.ne b rfl
theorem Fm.app {w0 w w1 : World} {v v' : Value} {l r : List UInt8} {b cap : Nat} {D : List UInt8} (h : Fm w0 w v l b cap D) (g1 : Row w1 v' (l ++ r)) (g2 : Keep v.ownBlock.toList w w1) (g3 : v'.ownBlock = v.ownBlock ∨ Fresh w w1 v') : Fm w0 w1 v' (l ++ r) b cap D := by
 have hb := h.blt
 refine ⟨g1, h.bs.keep g2 (fun k hk => by simp [Value.ownBlock] at hk; subst hk; exact h.off), h.ne, ?_, ?_, ?_⟩
 ·rcases g3 with g | g
  ·rw [g]; exact h.off
  ·intro hm
   simp at hm
   have := (g b hm).1
   omega
 ·exact h.keep.more g2 (fun x hx => .inr (by simp at hx; exact (h.fresh x hx).1))
 ·rcases g3 with g | g
  ·intro k hk
   rw [g] at hk
   have := h.fresh k hk
   exact ⟨this.1, Nat.lt_of_lt_of_le this.2 g2.size⟩
  ·exact g.earlier h.keep.size
theorem Fm.alloc {w0 w : World} {v : Value} {l : List UInt8} {b cap : Nat} {D : List UInt8} (h : Fm w0 w v l b cap D) (o : Obj) : Fm w0 (w.alloc o) v l b cap D :=
 ⟨h.row.keep (Keep.alloc1 w o) (Off.nil _), h.bs.keep (Keep.alloc1 w o) (Off.nil _), h.ne, h.off, h.keep.alloc o, h.fresh.later (by simp)⟩
theorem Bs.two (w : World) (x y : UInt8) : Bs (w.alloc (.cells #[.int .u8 (x.toNat : Int), .int .u8 (y.toNat : Int)] TB)) (.slice (some ⟨w.heap.size, 0, none⟩) 2 2) [x, y] := by
 refine ⟨some ⟨w.heap.size, 0, none⟩, 2, rfl, by simp, by simp [maxLen], (by intro h; cases h), fun _ => ⟨w.heap.size, 0, rfl, fun j hj => ?_⟩⟩
 rw [Nat.zero_add, World.cell?_alloc_new]
 have : j = 0 ∨ j = 1 := by simp at hj; omega
 rcases this with rfl | rfl <;> rfl
end Go.Proofs.YtfpcpociejefaaaGreatDoor
