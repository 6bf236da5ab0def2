/- The library's parseFloat32, atof32 and ParseFloat at the one number that is asked for. -/
import Derived.Test.YtnjbdaonmgadaaaGreatDoorPfB
namespace Go.Proofs.YtnjbdaonmgadaaaGreatDoor
open Go.RowKit Go.PlainAid

theorem usc_p (w : World) : Calls Tryz.prog 150 #[.int .u64 9223372586610589696, .pointer (some ⟨w.heap.size, 0, none⟩)] (w.alloc (.cells #[.int .u64 9223372036854775808, .int .u64 0, .int .i64 37] 189)) fun e w' => e = .returned (.int .u64 33554434) ∧ ∃ n, w' = (w.alloc (.cells #[.int .u64 9223372036854775808, .int .u64 0, .int .i64 37] 189)).drewN n := by
  have h := uscale_all 9223372586610589696 9223372036854775808 0 37 4611686293305294848 0 0 0 0 0 w (by decide) (by decide) (by decide) (by decide) (by decide) (by decide) (by decide) (by decide) (by decide) (by decide) (by decide) (by decide) (by decide)
  have e : bits .or .u64 (IntKind.u64.wrap (4611686293305294848 - 0) / 2 ^ (37 : Int).toNat) 0 = 33554434 := by decide
  rw [e] at h
  exact h

theorem log2_p (w : World) : Calls Tryz.prog 148 #[.int .i64 0] w fun e w' => e = .returned (.int .i64 0) ∧ w' = w := by
  go_enter Tryz.func148, Tryz.ntmps148
  go_wp2
  go_ret
  exact ⟨rfl, rfl⟩
theorem unmin_p (w : World) : Calls Tryz.prog 151 #[.int .u64 16777216] w fun e w' => e = .returned (.int .u64 67108862) ∧ w' = w := by
  go_enter Tryz.func151, Tryz.ntmps151
  go_wp2
  go_ret
  exact ⟨rfl, rfl⟩
theorem bool2i_any (b : Bool) (w : World) : Calls Tryz.prog 61 #[.bool b] w fun e w' => e = .returned (.int .i64 (if b then 1 else 0)) ∧ w' = w := by
  cases b
  all_goals
    go_enter Tryz.func61, Tryz.ntmps61
    go_wp2
    go_ret
    exact ⟨rfl, rfl⟩
theorem round_p (w : World) : Calls Tryz.prog 153 #[.int .u64 33554434] w fun e w' => e = .returned (.int .u64 8388608) ∧ w' = w := by
  have e : bits .and .u64 8388608 1 = 0 := by decide
  go_enter Tryz.func153, Tryz.ntmps153
  go_wp2
  go_ret
  exact ⟨rfl, rfl⟩
set_option maxRecDepth 1000000 in
theorem pack_p (w : World) : Calls Tryz.prog 152 #[.int .u32 8388608, .int .i64 1] w fun e w' => e = .returned (.tuple #[.float .f32 1266679808, .nilIface]) ∧ w' = w := by
  have hF := run_sfrom 1266679808
  have e : ((1266679808 : Nat) : Int) = 1266679808 := rfl
  rw [e] at hF; clear e
  have e1 : bits .and .u32 8388608 8388608 = 8388608 := by decide
  have e2 : bits .andNot .u32 8388608 8388608 = 0 := by decide
  have e3 : bits .or .u32 0 1266679808 = 1266679808 := by decide
  go_enter Tryz.func152, Tryz.ntmps152
  go_wp2
  go_ret2
  exact ⟨rfl, rfl⟩

set_option maxRecDepth 1000000 in
set_option maxHeartbeats 1000000 in
theorem parse32_at (w : World) (c0 : w.cell? ⟨15, 696, none⟩ = some (.int .u64 9223372036854775808)) (c1 : w.cell? ⟨15, 697, none⟩ = some (.int .u64 0)) :
    Calls Tryz.prog 121 #[.int .u64 16777217, .int .i64 0, .int .u32 0] w fun e w' => e = .returned (.tuple #[.float .f32 1266679808, .nilIface]) ∧ ∃ n, w' = (w.alloc (.cells #[.int .u64 9223372036854775808, .int .u64 0, .int .i64 37] 189)).drewN n := by
  have hL := len64_at 16777217 (by decide) (by decide) 25 (by decide)
  have hP := fun x0 x1 x2 => prescale_any 348 (-40) 0 0 9223372036854775808 0 x0 x1 x2 189 w (by decide) (by decide) (by decide) (by decide) c0 c1
  have hU := usc_p w
  have hF := run_sfrom 1266679808
  have e : ((1266679808 : Nat) : Int) = 1266679808 := rfl
  rw [e] at hF; clear e
  go_enter Tryz.func121, Tryz.ntmps121
  have e1 : bits .and .u64 33554434 1 = 0 := by decide
  have e2 : bits .or .u64 33554434 0 = 33554434 := by decide
  have e3 : bits .or .u32 0 8388608 = 8388608 := by decide
  have hB : ∀ w, Calls Tryz.prog 61 #[.bool false] w fun e w' => e = .returned (.int .i64 0) ∧ w' = w := fun w => bool2i_any false w
  clear c0 c1 hF
  go_wp2_with (first
    | (go_at_call 60; refine (hL _).mono ?_; rintro e9 w9 ⟨rfl, hw9⟩; obtain rfl := hw9.symm)
    | (go_at_call 148; refine (log2_p _).mono ?_; rintro e9 w9 ⟨rfl, hw9⟩; obtain rfl := hw9.symm)
    | (go_at_call 149; refine (hP _ _ _).mono ?_; rintro e9 w9 ⟨rfl, hw9⟩; obtain rfl := hw9.symm)
    | (go_at_call 150; refine (hU).mono ?_; rintro e9 w9 ⟨rfl, n9, rfl⟩)
    | (go_at_call 151; refine (unmin_p _).mono ?_; rintro e9 w9 ⟨rfl, hw9⟩; obtain rfl := hw9.symm)
    | (go_at_call 61; refine (hB _).mono ?_; rintro e9 w9 ⟨rfl, hw9⟩; obtain rfl := hw9.symm)
    | (go_at_call 153; refine (round_p _).mono ?_; rintro e9 w9 ⟨rfl, hw9⟩; obtain rfl := hw9.symm)
    | (go_at_call 152; refine (pack_p _).mono ?_; rintro e9 w9 ⟨rfl, hw9⟩; obtain rfl := hw9.symm))
  go_ret2
  exact ⟨rfl, _, rfl⟩
end Go.Proofs.YtnjbdaonmgadaaaGreatDoor

