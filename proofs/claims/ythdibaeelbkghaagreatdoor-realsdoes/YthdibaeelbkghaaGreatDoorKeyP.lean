/- The document's Nan, FromKey, Next, Compare; the walks of the statements on orders, keys and the next real. -/
import Derived.Test.YthdibaeelbkghaaGreatDoorRefH
import Derived.Test.YthdibaeelbkghaaGreatDoorOrdP
namespace Go.Proofs.YthdibaeelbkghaaGreatDoor
open Go.RowKit Go.PlainAid

theorem keepN {B : Nat} {a w : World} (h : Below B a w) (n : Nat) : Below B a (w.drewN n) := ⟨h.os, h.tape, h.output, h.size, h.block⟩

theorem rNan_any (w : World) : Calls Tryz.prog 12 #[] w fun e w' => ∃ r, e = .returned (.float .f32 r) ∧ r < 4294967296 ∧ keyN r = 4290772992 ∧ ∃ n, w' = w.drewN n := by
  obtain ⟨r, hr1, hr2⟩ := run_nan .quo 0 0 (by decide) (by simp)
  go_enter Tryz.func12, Tryz.ntmps12
  go_wp2
  go_ret
  exact ⟨_, rfl, (hr1 _).2, key_nan _ (hr1 _).1, 1, rfl⟩

/-- a real whose key is k; nan, if there is none -/
def RealK (k : Nat) (r : Nat) : Prop := r < 4294967296 ∧ keyN r = if 8388607 ≤ k ∧ k ≤ 4286578688 then k else 4290772992

theorem nextN_lt (x : Nat) (h : x < 4294967296) (up : Bool) : nextN x up < 4294967296 := by
  cases up
  · exact (key_down x h).1
  · exact (key_up x h).1

end Go.Proofs.YthdibaeelbkghaaGreatDoor

