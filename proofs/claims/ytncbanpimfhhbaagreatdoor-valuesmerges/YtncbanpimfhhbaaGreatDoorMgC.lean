/- The document's Laid: one list of arguments over the other. -/
import Derived.Test.YtncbanpimfhhbaaGreatDoorMgB
import Derived.Deep.RegionWith
import Derived.Deep.QuietTactic
import Derived.BigQuiet
namespace Go.Proofs.YtncbanpimfhhbaaGreatDoor
open Go.RowKit Go.PlainAid

theorem snoc_eq {ps : List (AD × Value)} {e : AD} {u : Value} {A B R : List AD} (h : ps.map (fun p : AD × Value => p.1) ++ A = R) (hA : A = e :: B) : (ps ++ [(e, u)]).map (fun p : AD × Value => p.1) ++ B = R := by
  rw [← h, hA]; simp

theorem LiQ.ready {w W : World} {z : Value} {ps : List (AD × Value)} (h : LiQ w W z ps) (e : AD) (a : Option Addr) (n c : Nat) : Src Tryz.prog 7 22 (.slice (some ⟨W.heap.size, 0, none⟩) 1 1) 1 (cells7 (e, .slice a n c)) (W.alloc (blk7 e (.slice a n c))) ∧ RowC (W.alloc (blk7 e (.slice a n c))) 33 7 z ps.length (ps.flatMap cells7) :=
  ⟨src_arg W e a n c, RowC.keep h.row (Keep.alloc1 W _) (Off.nil _)⟩

end Go.Proofs.YtncbanpimfhhbaaGreatDoor

