/- Conditions: what values and parts that are whole numbers come to. -/
import Derived.Test.YtplbclokoffgkaaGreatDoorCdC
import Derived.Test.YtplbclokoffgkaaGreatDoorCdD
import Derived.Stop.Asserts
namespace Go.Proofs.YtplbclokoffgkaaGreatDoor
open Go.RowKit Go.PlainAid

/-- a truth as a worth -/
abbrev truthW (b : Bool) : Value := .iface 81 (.bool b)
theorem ta_truth (v : Value) (w : World) : (Instr.typeAssert (.iface 81 v) 60 81 true).run Tryz.prog w = .ok (.tuple #[v, .bool true]) w := by
  simp [Instr.typeAssert, run_underlying Tryz.underlying81, go_sem, Result.andThen]
theorem ta_whole (v : Value) (w : World) : (Instr.typeAssert (.iface 105 v) 60 105 true).run Tryz.prog w = .ok (.tuple #[v, .bool true]) w := by
  simp [Instr.typeAssert, run_underlying Tryz.underlying105, go_sem, Result.andThen]
theorem ta_nil (w : World) : (Instr.typeAssert .nilIface 60 81 true).run Tryz.prog w = .ok (.tuple #[.bool false, .bool false]) w := by
  have hz : (zeroValue 81).run Tryz.prog w = .ok (.bool false) w := by kernel_rfl
  simp [Instr.typeAssert, run_underlying Tryz.underlying81, go_sem, Result.andThen, hz]
theorem worthOf_int (n : Int) (w : World) : Calls Tryz.prog 24 #[.agg #[.int .i64 2, .bool false, .int .i64 n, .float .f32 0, .string ⟨#[]⟩, .slice none 0 0]] w fun e w' => e = .returned (.iface 105 (.int .i64 n)) ∧ Keep [] w w' := by
  go_enter Tryz.func24, Tryz.ntmps24
  go_wp2
  go_ret
  exact ⟨rfl, Keep.alloc1 _ _⟩
set_option maxRecDepth 1000000 in
theorem isTrue_truth (b : Bool) (w : World) : Calls Tryz.prog 15 #[truthW b] w fun e w' => e = .returned (.bool b) ∧ w' = w := by
  have hA := ta_truth
  cases b
  · go_enter Tryz.func15, Tryz.ntmps15
    go_wp2
    go_ret
    exact ⟨rfl, rfl⟩
  · go_enter Tryz.func15, Tryz.ntmps15
    go_wp2
    go_ret
    exact ⟨rfl, rfl⟩
set_option maxRecDepth 1000000 in
theorem isTrue_none (w : World) : Calls Tryz.prog 15 #[.nilIface] w fun e w' => e = .returned (.bool false) ∧ w' = w := by
  have hA := ta_nil
  go_enter Tryz.func15, Tryz.ntmps15
  go_wp2
  go_ret
  exact ⟨rfl, rfl⟩
set_option maxRecDepth 1000000 in
theorem opposite_int (n : Int) (hn : In64 n) (w : World) : Calls Tryz.prog 26 #[.iface 105 (.int .i64 n)] w fun e w' => e = .returned (wholeW (0 - n)) ∧ w' = w := by
  have hL := fun w1 => less_any 0 n (by unfold In64; omega) hn w1
  have hA := ta_whole
  clear hn
  generalize wholeW (0 - n) = z at hL ⊢
  go_enter Tryz.func26, Tryz.ntmps26
  go_wp2_with fail
  refine (hL _).mono ?_
  rintro e9 w9 ⟨rfl, hw9⟩
  obtain rfl := hw9.symm
  clear hw9
  go_wp2
  go_ret
  exact ⟨rfl, rfl⟩
set_option maxRecDepth 1000000 in
theorem reckoned_int (k a b : Int) (z : Value) (w : World) (h : ∀ w1, Calls Tryz.prog 44 #[.int .i64 k, .int .i64 a, .int .i64 b] w1 fun e w' => e = .returned z ∧ w' = w1) : Calls Tryz.prog 46 #[.int .i64 k, .iface 105 (.int .i64 a), .iface 105 (.int .i64 b)] w fun e w' => e = .returned z ∧ w' = w := by
  have hA := ta_whole
  go_enter Tryz.func46, Tryz.ntmps46
  go_wp2_with fail
  refine (h _).mono ?_
  rintro e9 w9 ⟨rfl, hw9⟩
  obtain rfl := hw9.symm
  clear hw9
  go_wp2
  go_ret
  exact ⟨rfl, rfl⟩
theorem wvalue_any (n : Int) (w : World) : Calls Tryz.prog 275 #[.int .i64 n] w fun e w' => e = .returned (.agg #[.int .i64 2, .bool false, .int .i64 n, .float .f32 0, .string ⟨#[]⟩, .slice none 0 0]) ∧ Keep [] w w' := by
  have hsf := store_f32
  simp only [Go.stored] at hsf
  go_enter Tryz.func275, Tryz.ntmps275
  go_wp2
  refine bodyPost_ret (v := .agg #[.int .i64 2, .bool false, .int .i64 n, .float .f32 0, .string ⟨#[]⟩, .slice none 0 0]) (by simp [results, Tryz.results275, go_sem]) rfl ⟨rfl, ?_⟩
  repeat (first | exact Keep.alloc1 _ _ | refine Keep.setCell ?_ (.inr (by simp)) _)
set_option maxRecDepth 1000000 in
set_option maxHeartbeats 1600000 in
theorem joined_reckon (k a b : Int) (z : Value) (w : World) (hk : k = 5 ∨ k = 6 ∨ k = 7 ∨ k = 8) (h : ∀ w1, Calls Tryz.prog 44 #[.int .i64 k, .int .i64 a, .int .i64 b] w1 fun e w' => e = .returned z ∧ w' = w1) : Calls Tryz.prog 28 #[.int .i64 k, .iface 105 (.int .i64 a), .iface 105 (.int .i64 b)] w fun e w' => e = .returned z ∧ w' = w := by
  have hR := fun w1 => reckoned_int k a b z w1 h
  clear h
  rcases hk with rfl | rfl | rfl | rfl
  all_goals
    go_enter Tryz.func28, Tryz.ntmps28
    go_wp2_with fail
    refine (hR _).mono ?_
    rintro e9 w9 ⟨rfl, hw9⟩
    obtain rfl := hw9.symm
    clear hw9
    go_wp2
    go_ret
    exact ⟨rfl, rfl⟩
set_option maxRecDepth 1000000 in
set_option maxHeartbeats 1600000 in
theorem joined_none (k : Int) (y : Value) (w : World) : Calls Tryz.prog 28 #[.int .i64 k, .nilIface, y] w fun e w' => e = .returned .nilIface ∧ w' = w := by
  go_enter Tryz.func28, Tryz.ntmps28
  go_wp2
  go_ret
  exact ⟨rfl, rfl⟩
end Go.Proofs.YtplbclokoffgkaaGreatDoor
