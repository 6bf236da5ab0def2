/- The library's shortFloat and numDigits at the one number that is asked for. -/
import Derived.Test.YtnjbdaonmgadaaaGreatDoorSdG
namespace Go.Proofs.YtnjbdaonmgadaaaGreatDoor
open Go.RowKit Go.PlainAid

abbrev preW : Obj := .cells #[.int .u64 9223372036854775808, .int .u64 0, .int .i64 36] 189

theorem alloc_drewN (w : World) (o : Obj) (n : Nat) : (w.drewN n).alloc o = (w.alloc o).drewN n := rfl
theorem usc_s (x a u : Int) (hx : 0 ≤ x ∧ x < 18446744073709551616) (ha : x * 9223372036854775808 / 18446744073709551616 = a) (hb : x * 9223372036854775808 % 18446744073709551616 = 0) (hne : (IntKind.u64.wrap (a / 2 ^ (36 : Int).toNat * 2 ^ (36 : Int).toNat) != a) = false)
    (hu : bits .or .u64 (IntKind.u64.wrap (a - 0) / 2 ^ (36 : Int).toNat) 0 = u) (w : World) (n : Nat) :
    Calls Tryz.prog 150 #[.int .u64 x, .pointer (some ⟨w.heap.size, 0, none⟩)] ((w.alloc preW).drewN n) fun e w' => e = .returned (.int .u64 u) ∧ ∃ m, w' = (w.alloc preW).drewN m := by
  have h := uscale_all x 9223372036854775808 0 36 a 0 0 0 0 0 (w.drewN n) (by decide) (by decide) (by decide) hx (by decide) (by decide) ha hb (by simp) (by simp) hne (by decide) (by decide)
  rw [hu, alloc_drewN] at h
  refine h.mono ?_
  rintro e w' ⟨rfl, m, rfl⟩
  exact ⟨rfl, n + m, by simp [World.drewN]; omega⟩

theorem skew_p (w : World) : Calls Tryz.prog 158 #[.int .i64 1] w fun e w' => e = .returned (.int .i64 0) ∧ w' = w := by
  go_enter Tryz.func158, Tryz.ntmps158
  go_wp2
  go_ret
  exact ⟨rfl, rfl⟩
theorem nudge_p (u : Int) (h0 : 0 ≤ u) (h1 : u ≤ 18446744073709551615) (w : World) : Calls Tryz.prog 159 #[.int .u64 u, .int .i64 0] w fun e w' => e = .returned (.int .u64 u) ∧ w' = w := by
  go_enter Tryz.func159, Tryz.ntmps159
  go_wp2
  go_ret
  exact ⟨rfl, rfl⟩
theorem ceil_p (w : World) : Calls Tryz.prog 160 #[.int .u64 67108862] w fun e w' => e = .returned (.int .u64 16777216) ∧ w' = w := by
  go_enter Tryz.func160, Tryz.ntmps160
  go_wp2
  go_ret
  exact ⟨rfl, rfl⟩
theorem floor_p (w : World) : Calls Tryz.prog 161 #[.int .u64 67108868] w fun e w' => e = .returned (.int .u64 16777217) ∧ w' = w := by
  go_enter Tryz.func161, Tryz.ntmps161
  go_wp2
  go_ret
  exact ⟨rfl, rfl⟩
theorem round_q (w : World) : Calls Tryz.prog 153 #[.int .u64 67108864] w fun e w' => e = .returned (.int .u64 16777216) ∧ w' = w := by
  have e : bits .and .u64 16777216 1 = 0 := by decide
  go_enter Tryz.func153, Tryz.ntmps153
  go_wp2
  go_ret
  exact ⟨rfl, rfl⟩

set_option maxRecDepth 1000000 in
set_option maxHeartbeats 1000000 in
theorem short_p (w : World) (c0 : w.cell? ⟨15, 696, none⟩ = some (.int .u64 9223372036854775808)) (c1 : w.cell? ⟨15, 697, none⟩ = some (.int .u64 0)) :
    Calls Tryz.prog 133 #[.int .u64 9223372036854775808, .int .i64 (-39)] w fun e w' => e = .returned (.tuple #[.int .u64 16777216, .int .i64 0]) ∧ ∃ n, w' = (w.alloc preW).drewN n := by
  have hP := fun x0 x1 x2 => prescale_any 348 (-39) 0 0 9223372036854775808 0 x0 x1 x2 189 w (by decide) (by decide) (by decide) (by decide) c0 c1
  have hU1 := usc_s 9223371761976868864 4611685880988434432 67108862 (by decide) (by decide) (by decide) (by decide) (by decide) w 0
  have hU2 := usc_s 9223372586610589696 4611686293305294848 67108868 (by decide) (by decide) (by decide) (by decide) (by decide) w
  have hU3 := usc_s 9223372036854775808 4611686018427387904 67108864 (by decide) (by decide) (by decide) (by decide) (by decide) w
  have hN1 := nudge_p 67108862 (by decide) (by decide)
  have hN2 := nudge_p 67108868 (by decide) (by decide)
  have e1 : bits .and .i64 8388608 1 = 0 := by decide
  clear c0 c1
  go_enter Tryz.func133, Tryz.ntmps133
  go_wp2_with (first
    | (go_at_call 158; refine (skew_p _).mono ?_; rintro e9 w9 ⟨rfl, hw9⟩; obtain rfl := hw9.symm)
    | (go_at_call 148; refine (log2_p _).mono ?_; rintro e9 w9 ⟨rfl, hw9⟩; obtain rfl := hw9.symm)
    | (go_at_call 149; refine (hP _ _ _).mono ?_; rintro e9 w9 ⟨rfl, hw9⟩; obtain rfl := hw9.symm)
    | (go_at_call_of 150 (Value.int IntKind.u64 9223371761976868864); refine (hU1).mono ?_; rintro e9 w9 ⟨rfl, n9, rfl⟩)
    | (go_at_call_of 150 (Value.int IntKind.u64 9223372586610589696); refine (hU2 _).mono ?_; rintro e9 w9 ⟨rfl, n8, rfl⟩)
    | (go_at_call 150; refine (hU3 _).mono ?_; rintro e9 w9 ⟨rfl, n7, rfl⟩)
    | (go_at_call_of 159 (Value.int IntKind.u64 67108862); refine (hN1 _).mono ?_; rintro e9 w9 ⟨rfl, hw9⟩; obtain rfl := hw9.symm)
    | (go_at_call 159; refine (hN2 _).mono ?_; rintro e9 w9 ⟨rfl, hw9⟩; obtain rfl := hw9.symm)
    | (go_at_call 160; refine (ceil_p _).mono ?_; rintro e9 w9 ⟨rfl, hw9⟩; obtain rfl := hw9.symm)
    | (go_at_call 161; refine (floor_p _).mono ?_; rintro e9 w9 ⟨rfl, hw9⟩; obtain rfl := hw9.symm)
    | (go_at_call 153; refine (round_q _).mono ?_; rintro e9 w9 ⟨rfl, hw9⟩; obtain rfl := hw9.symm))
  go_ret2
  exact ⟨rfl, _, rfl⟩

theorem log10_p (w : World) : Calls Tryz.prog 59 #[.int .i64 25] w fun e w' => e = .returned (.int .i64 7) ∧ w' = w := by
  go_enter Tryz.func59, Tryz.ntmps59
  go_wp2
  go_ret
  exact ⟨rfl, rfl⟩
theorem numDigits_p (w : World) (c : w.cell? ⟨1, 7, none⟩ = some (.int .u64 10000000)) : Calls Tryz.prog 39 #[.int .u64 16777216] w fun e w' => e = .returned (.int .i64 8) ∧ w' = w := by
  have hL := len64_at 16777216 (by decide) (by decide) 25 (by decide)
  have hB : ∀ w, Calls Tryz.prog 61 #[.bool true] w fun e w' => e = .returned (.int .i64 1) ∧ w' = w := fun w => bool2i_any true w
  go_enter Tryz.func39, Tryz.ntmps39
  go_wp2_with (first
    | (go_at_call 60; refine (hL _).mono ?_; rintro e9 w9 ⟨rfl, hw9⟩; obtain rfl := hw9.symm)
    | (go_at_call 59; refine (log10_p _).mono ?_; rintro e9 w9 ⟨rfl, hw9⟩; obtain rfl := hw9.symm)
    | (go_at_call 61; refine (hB _).mono ?_; rintro e9 w9 ⟨rfl, hw9⟩; obtain rfl := hw9.symm))
  go_ret
  exact ⟨rfl, rfl⟩
end Go.Proofs.YtnjbdaonmgadaaaGreatDoor

