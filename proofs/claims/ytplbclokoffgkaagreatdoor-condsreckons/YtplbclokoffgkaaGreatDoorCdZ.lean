/- Conditions: what values and parts that are whole numbers come to. -/
import Derived.Test.YtplbclokoffgkaaGreatDoorCdC
import Derived.Test.YtplbclokoffgkaaGreatDoorCdD
import Derived.Stop.Asserts
import Derived.Test.YtplbclokoffgkaaGreatDoorCmpA

namespace Go.Proofs.YtplbclokoffgkaaGreatDoor
open Go.RowKit Go.PlainAid

/-- a truth as a worth -/
abbrev truthW (b : Bool) : Value := .iface 81 (.bool b)
theorem ta_truth (v : Value) (w : World) : (Instr.typeAssert (.iface 81 v) 60 81 true).run Tryz.prog w = .ok (.tuple #[v, .bool true]) w := by
  simp [Instr.typeAssert, run_underlying Tryz.underlying81, go_sem, Result.andThen]
theorem ta_whole (v : Value) (w : World) : (Instr.typeAssert (.iface 105 v) 60 105 true).run Tryz.prog w = .ok (.tuple #[v, .bool true]) w := by
  simp [Instr.typeAssert, run_underlying Tryz.underlying105, go_sem, Result.andThen]
theorem ta_nil (w : World) : (Instr.typeAssert .nilIface 60 81 true).run Tryz.prog w = .ok (.tuple #[.bool false, .bool false]) w := by
  have hz : (zeroValue 81).run Tryz.prog w = .ok (.bool false) w := by kernel_rfl
  simp [Instr.typeAssert, run_underlying Tryz.underlying81, go_sem, Result.andThen, hz]
theorem worthOf_int (n : Int) (w : World) : Calls Tryz.prog 24 #[.agg #[.int .i64 2, .bool false, .int .i64 n, .float .f32 0, .string ⟨#[]⟩, .slice none 0 0]] w fun e w' => e = .returned (.iface 105 (.int .i64 n)) ∧ Keep [] w w' := by
  go_enter Tryz.func24, Tryz.ntmps24
  go_wp2
  go_ret
  exact ⟨rfl, Keep.alloc1 _ _⟩
set_option maxRecDepth 1000000 in
theorem isTrue_truth (b : Bool) (w : World) : Calls Tryz.prog 15 #[truthW b] w fun e w' => e = .returned (.bool b) ∧ w' = w := by
  have hA := ta_truth
  cases b
  · go_enter Tryz.func15, Tryz.ntmps15
    go_wp2
    go_ret
    exact ⟨rfl, rfl⟩
  · go_enter Tryz.func15, Tryz.ntmps15
    go_wp2
    go_ret
    exact ⟨rfl, rfl⟩
set_option maxRecDepth 1000000 in
theorem isTrue_none (w : World) : Calls Tryz.prog 15 #[.nilIface] w fun e w' => e = .returned (.bool false) ∧ w' = w := by
  have hA := ta_nil
  go_enter Tryz.func15, Tryz.ntmps15
  go_wp2
  go_ret
  exact ⟨rfl, rfl⟩
set_option maxRecDepth 1000000 in
theorem opposite_int (n : Int) (hn : In64 n) (w : World) : Calls Tryz.prog 26 #[.iface 105 (.int .i64 n)] w fun e w' => e = .returned (wholeW (0 - n)) ∧ w' = w := by
  have hL := fun w1 => less_any 0 n (by unfold In64; omega) hn w1
  have hA := ta_whole
  clear hn
  generalize wholeW (0 - n) = z at hL ⊢
  go_enter Tryz.func26, Tryz.ntmps26
  go_wp2_with fail
  refine (hL _).mono ?_
  rintro e9 w9 ⟨rfl, hw9⟩
  obtain rfl := hw9.symm
  clear hw9
  go_wp2
  go_ret
  exact ⟨rfl, rfl⟩
set_option maxRecDepth 1000000 in
theorem reckoned_int (k a b : Int) (z : Value) (w : World) (h : ∀ w1, Calls Tryz.prog 44 #[.int .i64 k, .int .i64 a, .int .i64 b] w1 fun e w' => e = .returned z ∧ w' = w1) : Calls Tryz.prog 46 #[.int .i64 k, .iface 105 (.int .i64 a), .iface 105 (.int .i64 b)] w fun e w' => e = .returned z ∧ w' = w := by
  have hA := ta_whole
  go_enter Tryz.func46, Tryz.ntmps46
  go_wp2_with fail
  refine (h _).mono ?_
  rintro e9 w9 ⟨rfl, hw9⟩
  obtain rfl := hw9.symm
  clear hw9
  go_wp2
  go_ret
  exact ⟨rfl, rfl⟩
theorem wvalue_any (n : Int) (w : World) : Calls Tryz.prog 275 #[.int .i64 n] w fun e w' => e = .returned (.agg #[.int .i64 2, .bool false, .int .i64 n, .float .f32 0, .string ⟨#[]⟩, .slice none 0 0]) ∧ Keep [] w w' := by
  have hsf := store_f32
  simp only [Go.stored] at hsf
  go_enter Tryz.func275, Tryz.ntmps275
  go_wp2
  refine bodyPost_ret (v := .agg #[.int .i64 2, .bool false, .int .i64 n, .float .f32 0, .string ⟨#[]⟩, .slice none 0 0]) (by simp [results, Tryz.results275, go_sem]) rfl ⟨rfl, ?_⟩
  repeat (first | exact Keep.alloc1 _ _ | refine Keep.setCell ?_ (.inr (by simp)) _)
set_option maxRecDepth 1000000 in
set_option maxHeartbeats 1600000 in
theorem joined_reckon (k a b : Int) (z : Value) (w : World) (hk : k = 5 ∨ k = 6 ∨ k = 7 ∨ k = 8) (h : ∀ w1, Calls Tryz.prog 44 #[.int .i64 k, .int .i64 a, .int .i64 b] w1 fun e w' => e = .returned z ∧ w' = w1) : Calls Tryz.prog 28 #[.int .i64 k, .iface 105 (.int .i64 a), .iface 105 (.int .i64 b)] w fun e w' => e = .returned z ∧ w' = w := by
  have hR := fun w1 => reckoned_int k a b z w1 h
  clear h
  rcases hk with rfl | rfl | rfl | rfl
  all_goals
    go_enter Tryz.func28, Tryz.ntmps28
    go_wp2_with fail
    refine (hR _).mono ?_
    rintro e9 w9 ⟨rfl, hw9⟩
    obtain rfl := hw9.symm
    clear hw9
    go_wp2
    go_ret
    exact ⟨rfl, rfl⟩
set_option maxRecDepth 1000000 in
set_option maxHeartbeats 1600000 in
theorem joined_none (k : Int) (y : Value) (w : World) : Calls Tryz.prog 28 #[.int .i64 k, .nilIface, y] w fun e w' => e = .returned .nilIface ∧ w' = w := by
  go_enter Tryz.func28, Tryz.ntmps28
  go_wp2
  go_ret
  exact ⟨rfl, rfl⟩
end Go.Proofs.YtplbclokoffgkaaGreatDoor

/- Conditions: values.Compare of two whole numbers. -/
namespace Go.Proofs.YtplbclokoffgkaaGreatDoor
open Go.RowKit Go.PlainAid

/-- a whole number as a value -/
abbrev intV (n : Int) : Value := .agg #[.int .i64 2, .bool false, .int .i64 n, .float .f32 0, .string ⟨#[]⟩, .slice none 0 0]
theorem isNaN_i64 (a : Int) (w : World) : Calls Tryz.prog 148 #[.int .i64 a] w fun e w' => e = .returned (.bool false) ∧ w' = w := by
  have h : (a != a) = false := by simp
  go_enter Tryz.func148, Tryz.ntmps148
  go_wp2
  go_ret
  exact ⟨rfl, rfl⟩
theorem cmp_i64 (a b : Int) (w : World) : Calls Tryz.prog 128 #[.int .i64 a, .int .i64 b] w fun e w' => e = .returned (.int .i64 (cmpI a b)) ∧ w' = w := by
  have hq : cmpI a b = if a < b then -1 else if b < a then 1 else 0 := rfl
  by_cases h1 : a < b
  · rw [if_pos h1] at hq
    rw [hq]; clear hq
    go_enter Tryz.func128, Tryz.ntmps128
    go_wp2_with (go_at_call 148; refine (isNaN_i64 _ _).mono ?_; rintro e9 w9 ⟨rfl, hw9⟩; obtain rfl := hw9.symm)
    go_ret
    exact ⟨rfl, rfl⟩
  · rw [if_neg h1] at hq
    by_cases h2 : b < a
    · rw [if_pos h2] at hq
      rw [hq]; clear hq
      go_enter Tryz.func128, Tryz.ntmps128
      go_wp2_with (go_at_call 148; refine (isNaN_i64 _ _).mono ?_; rintro e9 w9 ⟨rfl, hw9⟩; obtain rfl := hw9.symm)
      go_ret
      exact ⟨rfl, rfl⟩
    · rw [if_neg h2] at hq
      rw [hq]; clear hq
      go_enter Tryz.func128, Tryz.ntmps128
      go_wp2_with (go_at_call 148; refine (isNaN_i64 _ _).mono ?_; rintro e9 w9 ⟨rfl, hw9⟩; obtain rfl := hw9.symm)
      go_ret
      exact ⟨rfl, rfl⟩
theorem like_int (a b : Int) (w : World) : Calls Tryz.prog 97 #[intV a, intV b] w fun e w' => e = .returned (.tuple #[.int .i64 (cmpI a b), .bool true]) ∧ Keep [] w w' := by
  have hC := fun w1 => cmp_i64 a b w1
  generalize cmpI a b = z at hC ⊢
  go_enter Tryz.func97, Tryz.ntmps97
  go_wp2_with fail
  refine (hC _).mono ?_
  rintro e9 w9 ⟨rfl, hw9⟩
  obtain rfl := hw9.symm
  clear hw9
  go_wp2
  refine bodyPost_ret (v := .tuple #[.int .i64 z, .bool true]) (by simp [results, Tryz.results97, go_sem]) rfl ⟨rfl, (Keep.alloc1 _ _).alloc _⟩
theorem int_may (n : Int) : (Pt.mk 1 ⟨#[]⟩ 2 n).vd.mayB = true := by
  kernel_rfl
theorem int_ok {n : Int} (h : In64 n) : (Pt.mk 1 ⟨#[]⟩ 2 n).Ok :=
  ⟨by show (-9223372036854775808 : Int) ≤ 1; decide, by show (1 : Int) ≤ 9223372036854775807; decide, by show (-9223372036854775808 : Int) ≤ 2; decide, by show (2 : Int) ≤ 9223372036854775807; decide, h.1, h.2⟩
set_option maxHeartbeats 1600000 in
theorem vcompare_int (a b : Int) (ha : In64 a) (hb : In64 b) (w : World) : Calls Tryz.prog 79 #[intV a, intV b] w fun e w' => e = .returned (.tuple #[.int .i64 (cmpI a b), .bool true]) ∧ Keep [] w w' := by
  have hL := fun w1 => like_int a b w1
  have HM : Hid (∀ w1, Calls Tryz.prog 77 #[intV a, intV b] w1 fun e w' => e = .returned (.bool true) ∧ Keep [] w1 w') := by
    intro w1
    have h := mayBoth_any (Pt.mk 1 ⟨#[]⟩ 2 a).vd (Pt.mk 1 ⟨#[]⟩ 2 b).vd (int_ok ha).vd (int_ok hb).vd (.slice none 0 0) (.slice none 0 0) w1 (Ts.nil _) (Ts.nil _)
    rw [int_may a, int_may b] at h
    exact h
  clear ha hb
  generalize cmpI a b = z at hL ⊢
  go_enter Tryz.func79, Tryz.ntmps79
  go_wp2_with fail
  refine (HM.out _).mono ?_
  rintro e9 w9 ⟨rfl, k9⟩
  have p0 : w9.cell? ⟨w.heap.size, 0, none⟩ = some (.int .i64 2) := k9.cell' (by go_simp) (by simp)
  have p1 : w9.cell? ⟨w.heap.size, 1, none⟩ = some (.bool false) := k9.cell' (by go_simp) (by simp)
  have p2 : w9.cell? ⟨w.heap.size, 2, none⟩ = some (.int .i64 a) := k9.cell' (by go_simp) (by simp)
  have p3 : w9.cell? ⟨w.heap.size, 3, none⟩ = some (.float .f32 0) := k9.cell' (by go_simp) (by simp)
  have p4 : w9.cell? ⟨w.heap.size, 4, none⟩ = some (.string ⟨#[]⟩) := k9.cell' (by go_simp) (by simp)
  have p5 : w9.cell? ⟨w.heap.size, 5, none⟩ = some (.slice none 0 0) := k9.cell' (by go_simp) (by simp)
  have q0 : w9.cell? ⟨w.heap.size + 1, 0, none⟩ = some (.int .i64 2) := k9.cell' (by go_simp) (by simp)
  have q1 : w9.cell? ⟨w.heap.size + 1, 1, none⟩ = some (.bool false) := k9.cell' (by go_simp) (by simp)
  have q2 : w9.cell? ⟨w.heap.size + 1, 2, none⟩ = some (.int .i64 b) := k9.cell' (by go_simp) (by simp)
  have q3 : w9.cell? ⟨w.heap.size + 1, 3, none⟩ = some (.float .f32 0) := k9.cell' (by go_simp) (by simp)
  have q4 : w9.cell? ⟨w.heap.size + 1, 4, none⟩ = some (.string ⟨#[]⟩) := k9.cell' (by go_simp) (by simp)
  have q5 : w9.cell? ⟨w.heap.size + 1, 5, none⟩ = some (.slice none 0 0) := k9.cell' (by go_simp) (by simp)
  have HK : Hid (Keep [] w w9) := ((Keep.alloc1 _ _).alloc _).trans' k9
  clear k9
  go_wp2_with fail
  refine (hL _).mono ?_
  rintro e8 w8 ⟨rfl, k8⟩
  have HK8 : Hid (Keep [] w w8) := HK.out.trans' k8
  clear k8
  go_wp2
  refine bodyPost_ret (v := .tuple #[.int .i64 z, .bool true]) (by simp [results, Tryz.results79, go_sem]) rfl ⟨rfl, HK8.out⟩
end Go.Proofs.YtplbclokoffgkaaGreatDoor
