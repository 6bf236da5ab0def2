/- The library's atof32 and ParseFloat at the one text that is asked for. -/
import Derived.Test.YtnjbdaonmgadaaaGreatDoorPfC
namespace Go.Proofs.YtnjbdaonmgadaaaGreatDoor
open Go.RowKit Go.PlainAid

def sP : ByteArray := ⟨#[49, 46, 54, 55, 55, 55, 50, 49, 55, 101, 55]⟩

set_option maxRecDepth 1000000 in
theorem special_p (w : World) : Calls Tryz.prog 115 #[.string ⟨#[49, 46, 54, 55, 55, 55, 50, 49, 55, 101, 55]⟩] w fun e w' => e = .returned (.tuple #[.float .f64 0, .int .i64 0, .bool false]) ∧ w' = w := by
  go_enter Tryz.func115, Tryz.ntmps115
  go_wp2
  go_ret3
  exact ⟨rfl, rfl⟩

def mP (k : Nat) : Int := [0, 1, 1, 16, 167, 1677, 16777, 167772, 1677721, 16777217].getD k 0
def nP (k : Nat) : Int := [0, 1, 1, 2, 3, 4, 5, 6, 7, 8].getD k 0
def dP (k : Nat) : Int := [0, 0, 1, 1, 1, 1, 1, 1, 1, 1].getD k 0
def fP (k : Nat) : Bool := [false, false, true, true, true, true, true, true, true, true].getD k false
def eP (k : Nat) : Int := [0, 0, 0, 0, 0, 0, 0, 0, 0, 0, 0, 7].getD k 0

theorem read_p (w : World) : Calls Tryz.prog 116 #[.string sP] w fun e w' => e = .returned (.tuple #[.int .u64 16777217, .int .i64 0, .bool false, .bool false, .bool false, .int .i64 11, .bool true]) ∧ w' = w :=
  readFloat_any sP 9 mP nP dP fP eP w (by decide) (by unfold RunD; decide) (by decide) (by decide) (by decide) (by decide) (by decide) (by decide) (by
    intro k h1 h2
    have : k = 10 := by have : sP.size = 11 := rfl
                        omega
    subst this
    decide) (by decide) (by decide)

set_option maxRecDepth 1000000 in
theorem exact_p (w : World) : Calls Tryz.prog 120 #[.int .u64 16777217, .int .i64 0, .bool false] w fun e w' => e = .returned (.tuple #[.float .f32 0, .bool false]) ∧ w' = w := by
  go_enter Tryz.func120, Tryz.ntmps120
  go_wp2
  go_ret2
  exact ⟨rfl, rfl⟩
theorem bool2w_p (w : World) : Calls Tryz.prog 118 #[.bool false] w fun e w' => e = .returned (.int .u32 0) ∧ w' = w := by
  go_enter Tryz.func118, Tryz.ntmps118
  go_wp2
  go_ret
  exact ⟨rfl, rfl⟩

set_option maxRecDepth 1000000 in
set_option maxHeartbeats 1000000 in
theorem atof32_p (w : World) (c0 : w.cell? ⟨15, 696, none⟩ = some (.int .u64 9223372036854775808)) (c1 : w.cell? ⟨15, 697, none⟩ = some (.int .u64 0)) (c2 : w.cell? ⟨10, 0, none⟩ = some (.bool true)) :
    Calls Tryz.prog 98 #[.string ⟨#[49, 46, 54, 55, 55, 55, 50, 49, 55, 101, 55]⟩] w fun e w' => e = .returned (.tuple #[.float .f32 1266679808, .int .i64 11, .nilIface]) ∧ ∃ n, w' = (w.alloc (.cells #[.int .u64 9223372036854775808, .int .u64 0, .int .i64 37] 189)).drewN n := by
  have hR : ∀ w, Calls Tryz.prog 116 #[.string ⟨#[49, 46, 54, 55, 55, 55, 50, 49, 55, 101, 55]⟩] w fun e w' => e = .returned (.tuple #[.int .u64 16777217, .int .i64 0, .bool false, .bool false, .bool false, .int .i64 11, .bool true]) ∧ w' = w := fun w => read_p w
  have hQ := parse32_at w c0 c1
  clear c0 c1
  go_enter Tryz.func98, Tryz.ntmps98
  go_wp2_with (first
    | (go_at_call 115; refine (special_p _).mono ?_; rintro e9 w9 ⟨rfl, hw9⟩; obtain rfl := hw9.symm)
    | (go_at_call 116; refine (hR _).mono ?_; rintro e9 w9 ⟨rfl, hw9⟩; obtain rfl := hw9.symm)
    | (go_at_call 120; refine (exact_p _).mono ?_; rintro e9 w9 ⟨rfl, hw9⟩; obtain rfl := hw9.symm)
    | (go_at_call 118; refine (bool2w_p _).mono ?_; rintro e9 w9 ⟨rfl, hw9⟩; obtain rfl := hw9.symm)
    | (go_at_call 121; refine hQ.mono ?_; rintro e9 w9 ⟨rfl, n9, rfl⟩))
  go_ret3
  exact ⟨rfl, _, rfl⟩

set_option maxRecDepth 1000000 in
theorem conv_p (w : World) : (convert 23 59 (.float .f32 1266679808)).run Tryz.prog w = .ok (.float .f64 4715268809856909312) w :=
  run_convert_float_float w 23 59 .f32 .f64 1266679808 4715268809856909312 (by kernel_rfl) Tryz.underlying59 (by decide)

set_option maxRecDepth 1000000 in
theorem prefix_p (w : World) (c0 : w.cell? ⟨15, 696, none⟩ = some (.int .u64 9223372036854775808)) (c1 : w.cell? ⟨15, 697, none⟩ = some (.int .u64 0)) (c2 : w.cell? ⟨10, 0, none⟩ = some (.bool true)) :
    Calls Tryz.prog 74 #[.string ⟨#[49, 46, 54, 55, 55, 55, 50, 49, 55, 101, 55]⟩, .int .i64 32] w fun e w' => e = .returned (.tuple #[.float .f64 4715268809856909312, .int .i64 11, .nilIface]) ∧ ∃ n, w' = (w.alloc (.cells #[.int .u64 9223372036854775808, .int .u64 0, .int .i64 37] 189)).drewN n := by
  have hQ := atof32_p w c0 c1 c2
  have hC := conv_p
  clear c0 c1 c2
  go_enter Tryz.func74, Tryz.ntmps74
  go_wp2_with (first | (go_at_call 98; refine hQ.mono ?_; rintro e9 w9 ⟨rfl, n9, rfl⟩))
  go_ret3
  exact ⟨rfl, _, rfl⟩
set_option maxRecDepth 1000000 in
theorem ipf_p (w : World) (c0 : w.cell? ⟨15, 696, none⟩ = some (.int .u64 9223372036854775808)) (c1 : w.cell? ⟨15, 697, none⟩ = some (.int .u64 0)) (c2 : w.cell? ⟨10, 0, none⟩ = some (.bool true)) :
    Calls Tryz.prog 57 #[.string ⟨#[49, 46, 54, 55, 55, 55, 50, 49, 55, 101, 55]⟩, .int .i64 32] w fun e w' => e = .returned (.tuple #[.float .f64 4715268809856909312, .nilIface]) ∧ ∃ n, w' = (w.alloc (.cells #[.int .u64 9223372036854775808, .int .u64 0, .int .i64 37] 189)).drewN n := by
  have hQ := prefix_p w c0 c1 c2
  clear c0 c1 c2
  go_enter Tryz.func57, Tryz.ntmps57
  go_wp2_with (first | (go_at_call 74; refine hQ.mono ?_; rintro e9 w9 ⟨rfl, n9, rfl⟩))
  go_ret2
  exact ⟨rfl, _, rfl⟩
set_option maxRecDepth 1000000 in
theorem pf_p (w : World) (c0 : w.cell? ⟨15, 696, none⟩ = some (.int .u64 9223372036854775808)) (c1 : w.cell? ⟨15, 697, none⟩ = some (.int .u64 0)) (c2 : w.cell? ⟨10, 0, none⟩ = some (.bool true)) :
    Calls Tryz.prog 37 #[.string ⟨#[49, 46, 54, 55, 55, 55, 50, 49, 55, 101, 55]⟩, .int .i64 32] w fun e w' => e = .returned (.tuple #[.float .f64 4715268809856909312, .nilIface]) ∧ ∃ n, w' = (w.alloc (.cells #[.int .u64 9223372036854775808, .int .u64 0, .int .i64 37] 189)).drewN n := by
  have hQ := ipf_p w c0 c1 c2
  clear c0 c1 c2
  go_enter Tryz.func37, Tryz.ntmps37
  go_wp2_with (first | (go_at_call 57; refine hQ.mono ?_; rintro e9 w9 ⟨rfl, n9, rfl⟩))
  go_ret2
  exact ⟨rfl, _, rfl⟩
end Go.Proofs.YtnjbdaonmgadaaaGreatDoor

