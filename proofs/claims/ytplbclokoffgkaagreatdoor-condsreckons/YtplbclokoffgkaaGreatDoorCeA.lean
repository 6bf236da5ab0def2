/- Conditions: comparisons of two whole numbers. -/
import Derived.Test.YtplbclokoffgkaaGreatDoorCdZ
namespace Go.Proofs.YtplbclokoffgkaaGreatDoor
open Go.RowKit Go.PlainAid

/-- how a comparison comes out that is told by -1, 0 or 1 -/
def cmpB (k z : Int) : Bool := if k = 9 then decide (z = 0) else if k = 10 then decide (z ≠ 0) else if k = 11 then decide (z < 0) else if k = 12 then decide (z ≤ 0) else if k = 13 then decide (0 < z) else decide (0 ≤ z)
theorem meth_value (n : Int) (w : World) : (method 437 105 (.int .i64 n) ("latchkey" ++ String.singleton (Char.ofNat 47) ++ "conds.value")).run Tryz.prog w = .ok (275, .int .i64 n) w := by kernel_rfl
set_option maxRecDepth 1000000 in
set_option maxHeartbeats 3200000 in
theorem compared_int (k a b : Int) (hk : k = 9 ∨ k = 10 ∨ k = 11 ∨ k = 12 ∨ k = 13 ∨ k = 14) (ha : In64 a) (hb : In64 b) (w : World) : Calls Tryz.prog 48 #[.int .i64 k, .iface 105 (.int .i64 a), .iface 105 (.int .i64 b)] w fun e w' => e = .returned (.bool (cmpB k (cmpI a b))) ∧ Keep [] w w' := by
  have hA := fun w1 => wvalue_any a w1
  have hB := fun w1 => wvalue_any b w1
  have hC := fun w1 => vcompare_int a b ha hb w1
  have hM := meth_value
  simp at hM
  have hz : cmpI a b = -1 ∨ cmpI a b = 0 ∨ cmpI a b = 1 := by
    unfold cmpI
    split
    · exact .inl rfl
    · split
      · exact .inr (.inr rfl)
      · exact .inr (.inl rfl)
  clear ha hb
  generalize cmpI a b = z at hC hz ⊢
  rcases hz with rfl | rfl | rfl <;> rcases hk with rfl | rfl | rfl | rfl | rfl | rfl
  all_goals
    go_enter Tryz.func48, Tryz.ntmps48
    go_wp2_with fail
    refine (hA _).mono ?_
    rintro e9 w9 ⟨rfl, k9⟩
    have HK9 : Hid (Keep [] w w9) := k9
    clear k9
    go_wp2_with fail
    refine (hB _).mono ?_
    rintro e8 w8 ⟨rfl, k8⟩
    have HK8 : Hid (Keep [] w w8) := HK9.out.trans' k8
    clear k8 HK9
    go_wp2_with fail
    refine (hC _).mono ?_
    rintro e7 w7 ⟨rfl, k7⟩
    have HK7 : Hid (Keep [] w w7) := HK8.out.trans' k7
    clear k7 HK8
    go_wp2
    go_ret
    exact ⟨rfl, HK7.out⟩
set_option maxRecDepth 1000000 in
set_option maxHeartbeats 3200000 in
theorem joined_cmp (k a b : Int) (hk : k = 9 ∨ k = 10 ∨ k = 11 ∨ k = 12 ∨ k = 13 ∨ k = 14) (ha : In64 a) (hb : In64 b) (w : World) : Calls Tryz.prog 28 #[.int .i64 k, .iface 105 (.int .i64 a), .iface 105 (.int .i64 b)] w fun e w' => e = .returned (truthW (cmpB k (cmpI a b))) ∧ Keep [] w w' := by
  have hC := fun w1 => compared_int k a b hk ha hb w1
  clear ha hb
  generalize cmpB k (cmpI a b) = z at hC ⊢
  rcases hk with rfl | rfl | rfl | rfl | rfl | rfl
  all_goals
    go_enter Tryz.func28, Tryz.ntmps28
    go_wp2_with fail
    refine (hC _).mono ?_
    rintro e7 w7 ⟨rfl, k7⟩
    have HK7 : Hid (Keep [] w w7) := k7
    clear k7
    go_wp2
    go_ret
    exact ⟨rfl, HK7.out⟩
end Go.Proofs.YtplbclokoffgkaaGreatDoor
