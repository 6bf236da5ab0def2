/- The reference's IsNan, Below, Same, Key, FromKey. -/
import Derived.Test.YtbflhpafejmelaaRefF
namespace Go.Proofs.Ytbflhpafejmelaa
open Go.RowKit Go.PlainAid Go.Lib

theorem rIsNan_any (x : Nat) (w : World) : Calls Try.prog 49 #[.float .f32 x] w fun e w' => e = .returned (.bool (nanB x)) ∧ w' = w := by
  have hn := neq_self x
  cases hb : nanB x <;> rw [hb] at hn
  all_goals
    go_enter Try.func49, Try.ntmps49
    go_wp2
    go_ret
    exact ⟨rfl, rfl⟩

theorem order_nan (x y : Nat) (h : nanB x = true) (o : Ordering) : (FloatKind.f32.format.order x y == some o) = false := by
  show (Ieee.single.order x y == some o) = _
  rw [order_any, if_pos (.inl (by simpa [nanB, rungN] using h))]
  rfl

set_option maxRecDepth 100000 in
set_option maxHeartbeats 1600000 in
theorem rBelow_any (x : Nat) (h : x < 4294967296) (w : World) : Calls Try.prog 50 #[.float .f32 x] w fun e w' => e = .returned (.bool (belowB x)) ∧ w' = w := by
  unfold belowB
  cases hx : nanB x
  · have hr : rungN x ≤ 2139095040 := by simpa [nanB, rungN] using hx
    have k1 := rlt_any x 0 hr (by decide)
    have k2 := req_any x 0 hr (by decide)
    rw [(srung_low 0 (by decide)).1] at k1 k2
    by_cases hs : 2147483648 ≤ x
    · rw [show decide (2147483648 ≤ x) = true by simpa using hs]
      have hz : srungZ x = -(rungN x : Int) := by unfold srungZ; rw [if_pos (by omega)]
      by_cases h0 : rungN x = 0
      · obtain rfl : x = 2147483648 := by unfold rungN at h0; omega
        rw [show decide (srungZ 2147483648 < ((0 : Nat) : Int)) = false by decide] at k1
        rw [show decide (srungZ 2147483648 = ((0 : Nat) : Int)) = true by decide] at k2
        have hq : ∀ w, (binOp .quo 44 (.float .f32 1065353216) (.float .f32 2147483648)).run Try.prog w = .ok (.float .f32 4286578688) w := fun w => run_float_arith w .quo 44 .f32 _ _ _ (by decide)
        have k3 : (FloatKind.f32.format.order 4286578688 0 == some Ordering.lt) = true := by decide
        go_enter Try.func50, Try.ntmps50
        go_wp2
        go_ret
        exact ⟨rfl, rfl⟩
      · rw [show decide (srungZ x < ((0 : Nat) : Int)) = true by simp; omega] at k1
        clear k2 hz h0
        go_enter Try.func50, Try.ntmps50
        go_wp2
        go_ret
        exact ⟨rfl, rfl⟩
    · rw [show decide (2147483648 ≤ x) = false by simpa using hs]
      obtain ⟨s1, s2⟩ := srung_low x (by omega)
      by_cases h0 : x = 0
      · subst h0
        rw [show decide (srungZ 0 < ((0 : Nat) : Int)) = false by decide] at k1
        rw [show decide (srungZ 0 = ((0 : Nat) : Int)) = true by decide] at k2
        have hq : ∀ w, (binOp .quo 44 (.float .f32 1065353216) (.float .f32 0)).run Try.prog w = .ok (.float .f32 2139095040) w := fun w => run_float_arith w .quo 44 .f32 _ _ _ (by decide)
        have k3 : (FloatKind.f32.format.order 2139095040 0 == some Ordering.lt) = false := by decide
        go_enter Try.func50, Try.ntmps50
        go_wp2
        go_ret
        exact ⟨rfl, rfl⟩
      · rw [show decide (srungZ x < ((0 : Nat) : Int)) = false by simp; omega] at k1
        rw [show decide (srungZ x = ((0 : Nat) : Int)) = false by simp; omega] at k2
        clear s1 s2 h0
        go_enter Try.func50, Try.ntmps50
        go_wp2
        go_ret
        exact ⟨rfl, rfl⟩
  · have k1 := order_nan x 0 hx .lt
    have k2 := order_nan x 0 hx .eq
    go_enter Try.func50, Try.ntmps50
    go_wp2
    go_ret
    exact ⟨rfl, rfl⟩

end Go.Proofs.Ytbflhpafejmelaa


