/- The library's parseFloat32 at the one number that is asked for. -/
import Derived.Test.YtnljpbpphdhnpaaGreatDoorRdF
import Derived.Test.YtnljpbpphdhnpaaGreatDoorShelf
import Derived.Deep.QuietTactic
import GoSem.PinnedTables
import Derived.BigQuiet

namespace Go.Proofs.YtnljpbpphdhnpaaGreatDoor
open Go.RowKit Go.PlainAid

set_option maxRecDepth 1000000 in
theorem run_sfrom (x : Nat) (w : World) : (callFunc 156 #[.int .u32 (x : Int)]).run Tryz.prog w = .ok (.value (.float .f32 x)) w :=
  (run_callFunc_extern (e := Extern.MathFloatBits.float32frombits) Tryz.func156 (by kernel_rfl) (by kernel_rfl) (by kernel_rfl) (by kernel_rfl) _ w).trans rfl

theorem len64_at (x : Int) (h0 : 0 ≤ x) (h1 : x ≤ 18446744073709551615) (n : Int) (hn : (Lib.bitLen x.toNat : Int) = n) (w : World) : Calls Tryz.prog 129 #[.int .u64 x] w fun e w' => e = .returned (.int .i64 n) ∧ w' = w := by
  rw [← hn]; exact Tryz.bits_Len64 x w h0 h1
theorem mul64_at (x y a b : Int) (hx : 0 ≤ x ∧ x < 18446744073709551616) (hy : 0 ≤ y ∧ y < 18446744073709551616) (ha : x * y / 18446744073709551616 = a) (hb : x * y % 18446744073709551616 = b) (w : World) :
    Calls Tryz.prog 117 #[.int .u64 x, .int .u64 y] w fun e w' => e = .returned (.tuple #[.int .u64 a, .int .u64 b]) ∧ w' = w := by
  obtain ⟨m, rfl⟩ := Int.eq_ofNat_of_zero_le hx.1
  obtain ⟨n, rfl⟩ := Int.eq_ofNat_of_zero_le hy.1
  have := Tryz.bits_Mul64 m n (by omega) (by omega) w
  rw [← ha, ← hb]
  exact this

set_option maxRecDepth 1000000 in
set_option maxHeartbeats 1000000 in
theorem prescale_any (k : Nat) (e p lp : Int) (hi lo : Int) (x0 x1 x2 : Int) (t : TypeId) (w : World) (hp : p = (k : Int) - 348) (h2 : k < 696) (he : -2000 ≤ e ∧ e ≤ 2000) (hl : -2000 ≤ lp ∧ lp ≤ 2000)
    (c0 : w.cell? ⟨15, k * 2, none⟩ = some (.int .u64 hi)) (c1 : w.cell? ⟨15, k * 2 + 1, none⟩ = some (.int .u64 lo)) :
    Calls Tryz.prog 171 #[.pointer (some ⟨w.heap.size, 0, none⟩), .int .i64 e, .int .i64 p, .int .i64 lp] (w.alloc (.cells #[.int .u64 x0, .int .u64 x1, .int .i64 x2] t)) fun e' w' => e' = .returned (.tuple #[]) ∧ w' = w.alloc (.cells #[.int .u64 hi, .int .u64 lo, .int .i64 (-(e + lp + 3))] t) := by
  have hsz : 15 < w.heap.size := block_lt_of_cell c0
  obtain ⟨he1, he2⟩ := he
  obtain ⟨hl1, hl2⟩ := hl
  subst hp
  go_enter Tryz.func171, Tryz.ntmps171
  go_wp2
  go_end0
  exact ⟨rfl, rfl⟩
end Go.Proofs.YtnljpbpphdhnpaaGreatDoor



/- The library's scaling: uscale, for every input, by its two products. -/
namespace Go.Proofs.YtnljpbpphdhnpaaGreatDoor
open Go.RowKit Go.PlainAid

theorem bool2u_any (b : Bool) (w : World) : Calls Tryz.prog 161 #[.bool b] w fun e w' => e = .returned (.int .u64 (if b then 1 else 0)) ∧ w' = w := by
  cases b
  all_goals
    go_enter Tryz.func161, Tryz.ntmps161
    go_wp2
    go_ret
    exact ⟨rfl, rfl⟩

set_option maxRecDepth 1000000 in
set_option maxHeartbeats 1000000 in
theorem uscale_cut (x hi lo s a b : Int) (w : World) (hs : bits .and .i64 s 63 = s) (hs0 : 0 ≤ s) (hs1 : s < 64) (hx : 0 ≤ x ∧ x < 18446744073709551616) (hy : 0 ≤ hi ∧ hi < 18446744073709551616)
    (ha : x * hi / 18446744073709551616 = a) (hb : x * hi % 18446744073709551616 = b) (hne : (IntKind.u64.wrap (a / 2 ^ s.toNat * 2 ^ s.toNat) != a) = true) :
    Calls Tryz.prog 173 #[.int .u64 x, .pointer (some ⟨w.heap.size, 0, none⟩)] (w.alloc (.cells #[.int .u64 hi, .int .u64 lo, .int .i64 s] 208)) fun e w' => e = .returned (.int .u64 (bits .or .u64 (a / 2 ^ s.toNat) 1)) ∧ ∃ n, w' = (w.alloc (.cells #[.int .u64 hi, .int .u64 lo, .int .i64 s] 208)).drewN n := by
  have hM := mul64_at x hi a b hx hy ha hb
  clear ha hb hx hy
  go_enter Tryz.func173, Tryz.ntmps173
  go_wp2_with fail
  refine (hM _).mono ?_
  rintro e9 w9 ⟨rfl, hw9⟩
  obtain rfl := hw9.symm
  go_wp2_with fail
  go_ret
  exact ⟨rfl, 0, rfl⟩

theorem bool2u_val (b : Bool) (v : Int) (h : v = if b then 1 else 0) (w : World) : Calls Tryz.prog 161 #[.bool b] w fun e w' => e = .returned (.int .u64 v) ∧ w' = w := by
  rw [h]; exact bool2u_any b w

set_option maxRecDepth 1000000 in
set_option maxHeartbeats 1000000 in
theorem uscale_all (x hi lo s a b c d q r : Int) (w : World) (hs : bits .and .i64 s 63 = s) (hs0 : 0 ≤ s) (hs1 : s < 64) (hx : 0 ≤ x ∧ x < 18446744073709551616) (hy : 0 ≤ hi ∧ hi < 18446744073709551616) (hz : 0 ≤ lo ∧ lo < 18446744073709551616)
    (ha : x * hi / 18446744073709551616 = a) (hb : x * hi % 18446744073709551616 = b) (hc : x * lo / 18446744073709551616 = c) (hd : x * lo % 18446744073709551616 = d) (hne : (IntKind.u64.wrap (a / 2 ^ s.toNat * 2 ^ s.toNat) != a) = false)
    (hq : q = if decide (b < c) then 1 else 0) (hr : r = if decide (1 < IntKind.u64.wrap (b - c)) then 1 else 0) :
    Calls Tryz.prog 173 #[.int .u64 x, .pointer (some ⟨w.heap.size, 0, none⟩)] (w.alloc (.cells #[.int .u64 hi, .int .u64 lo, .int .i64 s] 208)) fun e w' => e = .returned (.int .u64 (bits .or .u64 (IntKind.u64.wrap (a - q) / 2 ^ s.toNat) r)) ∧ ∃ n, w' = (w.alloc (.cells #[.int .u64 hi, .int .u64 lo, .int .i64 s] 208)).drewN n := by
  have hM := mul64_at x hi a b hx hy ha hb
  have hN := mul64_at x lo c d hx hz hc hd
  have hB := bool2u_val _ q hq
  have hB2 := bool2u_val _ r hr
  clear ha hb hc hd hx hy hz hq hr
  go_enter Tryz.func173, Tryz.ntmps173
  go_wp2_with fail
  refine (hM _).mono ?_
  rintro e9 w9 ⟨rfl, hw9⟩
  obtain rfl := hw9.symm
  go_wp2_with fail
  refine (hN _).mono ?_
  rintro e9 w9 ⟨rfl, hw9⟩
  obtain rfl := hw9.symm
  go_wp2_with fail
  refine (hB _).mono ?_
  rintro e9 w9 ⟨rfl, hw9⟩
  obtain rfl := hw9.symm
  go_wp2_with fail
  go_quiet (first | (go_at_call 161; exact Calls.quiet_of_same (hB2 _)))
  go_wp2
  go_ret
  exact ⟨rfl, _, rfl⟩
end Go.Proofs.YtnljpbpphdhnpaaGreatDoor



/- The library's parseFloat32, atof32 and ParseFloat at the one number that is asked for. -/
namespace Go.Proofs.YtnljpbpphdhnpaaGreatDoor
open Go.RowKit Go.PlainAid

theorem usc_p (w : World) : Calls Tryz.prog 173 #[.int .u64 9223372586610589696, .pointer (some ⟨w.heap.size, 0, none⟩)] (w.alloc (.cells #[.int .u64 9223372036854775808, .int .u64 0, .int .i64 37] 208)) fun e w' => e = .returned (.int .u64 33554434) ∧ ∃ n, w' = (w.alloc (.cells #[.int .u64 9223372036854775808, .int .u64 0, .int .i64 37] 208)).drewN n := by
  have h := uscale_all 9223372586610589696 9223372036854775808 0 37 4611686293305294848 0 0 0 0 0 w (by decide) (by decide) (by decide) (by decide) (by decide) (by decide) (by decide) (by decide) (by decide) (by decide) (by decide) (by decide) (by decide)
  have e : bits .or .u64 (IntKind.u64.wrap (4611686293305294848 - 0) / 2 ^ (37 : Int).toNat) 0 = 33554434 := by decide
  rw [e] at h
  exact h

theorem log2_p (w : World) : Calls Tryz.prog 172 #[.int .i64 0] w fun e w' => e = .returned (.int .i64 0) ∧ w' = w := by
  go_enter Tryz.func172, Tryz.ntmps172
  go_wp2
  go_ret
  exact ⟨rfl, rfl⟩
theorem unmin_p (w : World) : Calls Tryz.prog 178 #[.int .u64 16777216] w fun e w' => e = .returned (.int .u64 67108862) ∧ w' = w := by
  go_enter Tryz.func178, Tryz.ntmps178
  go_wp2
  go_ret
  exact ⟨rfl, rfl⟩
theorem bool2i_any (b : Bool) (w : World) : Calls Tryz.prog 130 #[.bool b] w fun e w' => e = .returned (.int .i64 (if b then 1 else 0)) ∧ w' = w := by
  cases b
  all_goals
    go_enter Tryz.func130, Tryz.ntmps130
    go_wp2
    go_ret
    exact ⟨rfl, rfl⟩
theorem round_p (w : World) : Calls Tryz.prog 177 #[.int .u64 33554434] w fun e w' => e = .returned (.int .u64 8388608) ∧ w' = w := by
  have e : bits .and .u64 8388608 1 = 0 := by decide
  go_enter Tryz.func177, Tryz.ntmps177
  go_wp2
  go_ret
  exact ⟨rfl, rfl⟩
set_option maxRecDepth 1000000 in
theorem pack_p (w : World) : Calls Tryz.prog 190 #[.int .u32 8388608, .int .i64 1] w fun e w' => e = .returned (.tuple #[.float .f32 1266679808, .nilIface]) ∧ w' = w := by
  have hF := run_sfrom 1266679808
  have e : ((1266679808 : Nat) : Int) = 1266679808 := rfl
  rw [e] at hF; clear e
  have e1 : bits .and .u32 8388608 8388608 = 8388608 := by decide
  have e2 : bits .andNot .u32 8388608 8388608 = 0 := by decide
  have e3 : bits .or .u32 0 1266679808 = 1266679808 := by decide
  go_enter Tryz.func190, Tryz.ntmps190
  go_wp2
  go_ret2
  exact ⟨rfl, rfl⟩

set_option maxRecDepth 1000000 in
set_option maxHeartbeats 1000000 in
theorem parse32_at (w : World) (c0 : w.cell? ⟨15, 696, none⟩ = some (.int .u64 9223372036854775808)) (c1 : w.cell? ⟨15, 697, none⟩ = some (.int .u64 0)) :
    Calls Tryz.prog 158 #[.int .u64 16777217, .int .i64 0, .int .u32 0] w fun e w' => e = .returned (.tuple #[.float .f32 1266679808, .nilIface]) ∧ ∃ n, w' = (w.alloc (.cells #[.int .u64 9223372036854775808, .int .u64 0, .int .i64 37] 208)).drewN n := by
  have hL := len64_at 16777217 (by decide) (by decide) 25 (by decide)
  have hP := fun x0 x1 x2 => prescale_any 348 (-40) 0 0 9223372036854775808 0 x0 x1 x2 208 w (by decide) (by decide) (by decide) (by decide) c0 c1
  have hU := usc_p w
  have hF := run_sfrom 1266679808
  have e : ((1266679808 : Nat) : Int) = 1266679808 := rfl
  rw [e] at hF; clear e
  go_enter Tryz.func158, Tryz.ntmps158
  have e1 : bits .and .u64 33554434 1 = 0 := by decide
  have e2 : bits .or .u64 33554434 0 = 33554434 := by decide
  have e3 : bits .or .u32 0 8388608 = 8388608 := by decide
  have hB : ∀ w, Calls Tryz.prog 130 #[.bool false] w fun e w' => e = .returned (.int .i64 0) ∧ w' = w := fun w => bool2i_any false w
  clear c0 c1 hF
  go_wp2_with (first
    | (go_at_call 129; refine (hL _).mono ?_; rintro e9 w9 ⟨rfl, hw9⟩; obtain rfl := hw9.symm)
    | (go_at_call 172; refine (log2_p _).mono ?_; rintro e9 w9 ⟨rfl, hw9⟩; obtain rfl := hw9.symm)
    | (go_at_call 171; refine (hP _ _ _).mono ?_; rintro e9 w9 ⟨rfl, hw9⟩; obtain rfl := hw9.symm)
    | (go_at_call 173; refine (hU).mono ?_; rintro e9 w9 ⟨rfl, n9, rfl⟩)
    | (go_at_call 178; refine (unmin_p _).mono ?_; rintro e9 w9 ⟨rfl, hw9⟩; obtain rfl := hw9.symm)
    | (go_at_call 130; refine (hB _).mono ?_; rintro e9 w9 ⟨rfl, hw9⟩; obtain rfl := hw9.symm)
    | (go_at_call 177; refine (round_p _).mono ?_; rintro e9 w9 ⟨rfl, hw9⟩; obtain rfl := hw9.symm)
    | (go_at_call 190; refine (pack_p _).mono ?_; rintro e9 w9 ⟨rfl, hw9⟩; obtain rfl := hw9.symm))
  go_ret2
  exact ⟨rfl, _, rfl⟩
end Go.Proofs.YtnljpbpphdhnpaaGreatDoor



/- The library's atof32 and ParseFloat at the one text that is asked for. -/
namespace Go.Proofs.YtnljpbpphdhnpaaGreatDoor
open Go.RowKit Go.PlainAid

def sP : ByteArray := ⟨#[49, 46, 54, 55, 55, 55, 50, 49, 55, 101, 55]⟩

set_option maxRecDepth 1000000 in
theorem special_p (w : World) : Calls Tryz.prog 152 #[.string ⟨#[49, 46, 54, 55, 55, 55, 50, 49, 55, 101, 55]⟩] w fun e w' => e = .returned (.tuple #[.float .f64 0, .int .i64 0, .bool false]) ∧ w' = w := by
  go_enter Tryz.func152, Tryz.ntmps152
  go_wp2
  go_ret3
  exact ⟨rfl, rfl⟩

def mP (k : Nat) : Int := [0, 1, 1, 16, 167, 1677, 16777, 167772, 1677721, 16777217].getD k 0
def nP (k : Nat) : Int := [0, 1, 1, 2, 3, 4, 5, 6, 7, 8].getD k 0
def dP (k : Nat) : Int := [0, 0, 1, 1, 1, 1, 1, 1, 1, 1].getD k 0
def fP (k : Nat) : Bool := [false, false, true, true, true, true, true, true, true, true].getD k false
def eP (k : Nat) : Int := [0, 0, 0, 0, 0, 0, 0, 0, 0, 0, 0, 7].getD k 0

theorem read_p (w : World) : Calls Tryz.prog 153 #[.string sP] w fun e w' => e = .returned (.tuple #[.int .u64 16777217, .int .i64 0, .bool false, .bool false, .bool false, .int .i64 11, .bool true]) ∧ w' = w :=
  readFloat_any sP 9 mP nP dP fP eP w (by decide) (by unfold RunD; decide) (by decide) (by decide) (by decide) (by decide) (by decide) (by decide) (by
    intro k h1 h2
    have : k = 10 := by have : sP.size = 11 := rfl
                        omega
    subst this
    decide) (by decide) (by decide)

set_option maxRecDepth 1000000 in
theorem exact_p (w : World) : Calls Tryz.prog 157 #[.int .u64 16777217, .int .i64 0, .bool false] w fun e w' => e = .returned (.tuple #[.float .f32 0, .bool false]) ∧ w' = w := by
  go_enter Tryz.func157, Tryz.ntmps157
  go_wp2
  go_ret2
  exact ⟨rfl, rfl⟩
theorem bool2w_p (w : World) : Calls Tryz.prog 155 #[.bool false] w fun e w' => e = .returned (.int .u32 0) ∧ w' = w := by
  go_enter Tryz.func155, Tryz.ntmps155
  go_wp2
  go_ret
  exact ⟨rfl, rfl⟩

set_option maxRecDepth 1000000 in
set_option maxHeartbeats 1000000 in
theorem atof32_p (w : World) (c0 : w.cell? ⟨15, 696, none⟩ = some (.int .u64 9223372036854775808)) (c1 : w.cell? ⟨15, 697, none⟩ = some (.int .u64 0)) (c2 : w.cell? ⟨5, 0, none⟩ = some (.bool true)) :
    Calls Tryz.prog 124 #[.string ⟨#[49, 46, 54, 55, 55, 55, 50, 49, 55, 101, 55]⟩] w fun e w' => e = .returned (.tuple #[.float .f32 1266679808, .int .i64 11, .nilIface]) ∧ ∃ n, w' = (w.alloc (.cells #[.int .u64 9223372036854775808, .int .u64 0, .int .i64 37] 208)).drewN n := by
  have hR : ∀ w, Calls Tryz.prog 153 #[.string ⟨#[49, 46, 54, 55, 55, 55, 50, 49, 55, 101, 55]⟩] w fun e w' => e = .returned (.tuple #[.int .u64 16777217, .int .i64 0, .bool false, .bool false, .bool false, .int .i64 11, .bool true]) ∧ w' = w := fun w => read_p w
  have hQ := parse32_at w c0 c1
  clear c0 c1
  go_enter Tryz.func124, Tryz.ntmps124
  go_wp2_with (first
    | (go_at_call 152; refine (special_p _).mono ?_; rintro e9 w9 ⟨rfl, hw9⟩; obtain rfl := hw9.symm)
    | (go_at_call 153; refine (hR _).mono ?_; rintro e9 w9 ⟨rfl, hw9⟩; obtain rfl := hw9.symm)
    | (go_at_call 157; refine (exact_p _).mono ?_; rintro e9 w9 ⟨rfl, hw9⟩; obtain rfl := hw9.symm)
    | (go_at_call 155; refine (bool2w_p _).mono ?_; rintro e9 w9 ⟨rfl, hw9⟩; obtain rfl := hw9.symm)
    | (go_at_call 158; refine hQ.mono ?_; rintro e9 w9 ⟨rfl, n9, rfl⟩))
  go_ret3
  exact ⟨rfl, _, rfl⟩

set_option maxRecDepth 1000000 in
theorem conv_p (w : World) : (convert 22 80 (.float .f32 1266679808)).run Tryz.prog w = .ok (.float .f64 4715268809856909312) w :=
  run_convert_float_float w 22 80 .f32 .f64 1266679808 4715268809856909312 (by kernel_rfl) Tryz.underlying80 (by decide)

set_option maxRecDepth 1000000 in
theorem prefix_p (w : World) (c0 : w.cell? ⟨15, 696, none⟩ = some (.int .u64 9223372036854775808)) (c1 : w.cell? ⟨15, 697, none⟩ = some (.int .u64 0)) (c2 : w.cell? ⟨5, 0, none⟩ = some (.bool true)) :
    Calls Tryz.prog 99 #[.string ⟨#[49, 46, 54, 55, 55, 55, 50, 49, 55, 101, 55]⟩, .int .i64 32] w fun e w' => e = .returned (.tuple #[.float .f64 4715268809856909312, .int .i64 11, .nilIface]) ∧ ∃ n, w' = (w.alloc (.cells #[.int .u64 9223372036854775808, .int .u64 0, .int .i64 37] 208)).drewN n := by
  have hQ := atof32_p w c0 c1 c2
  have hC := conv_p
  clear c0 c1 c2
  go_enter Tryz.func99, Tryz.ntmps99
  go_wp2_with (first | (go_at_call 124; refine hQ.mono ?_; rintro e9 w9 ⟨rfl, n9, rfl⟩))
  go_ret3
  exact ⟨rfl, _, rfl⟩
set_option maxRecDepth 1000000 in
theorem ipf_p (w : World) (c0 : w.cell? ⟨15, 696, none⟩ = some (.int .u64 9223372036854775808)) (c1 : w.cell? ⟨15, 697, none⟩ = some (.int .u64 0)) (c2 : w.cell? ⟨5, 0, none⟩ = some (.bool true)) :
    Calls Tryz.prog 79 #[.string ⟨#[49, 46, 54, 55, 55, 55, 50, 49, 55, 101, 55]⟩, .int .i64 32] w fun e w' => e = .returned (.tuple #[.float .f64 4715268809856909312, .nilIface]) ∧ ∃ n, w' = (w.alloc (.cells #[.int .u64 9223372036854775808, .int .u64 0, .int .i64 37] 208)).drewN n := by
  have hQ := prefix_p w c0 c1 c2
  clear c0 c1 c2
  go_enter Tryz.func79, Tryz.ntmps79
  go_wp2_with (first | (go_at_call 99; refine hQ.mono ?_; rintro e9 w9 ⟨rfl, n9, rfl⟩))
  go_ret2
  exact ⟨rfl, _, rfl⟩
set_option maxRecDepth 1000000 in
theorem pf_p (w : World) (c0 : w.cell? ⟨15, 696, none⟩ = some (.int .u64 9223372036854775808)) (c1 : w.cell? ⟨15, 697, none⟩ = some (.int .u64 0)) (c2 : w.cell? ⟨5, 0, none⟩ = some (.bool true)) :
    Calls Tryz.prog 55 #[.string ⟨#[49, 46, 54, 55, 55, 55, 50, 49, 55, 101, 55]⟩, .int .i64 32] w fun e w' => e = .returned (.tuple #[.float .f64 4715268809856909312, .nilIface]) ∧ ∃ n, w' = (w.alloc (.cells #[.int .u64 9223372036854775808, .int .u64 0, .int .i64 37] 208)).drewN n := by
  have hQ := ipf_p w c0 c1 c2
  clear c0 c1 c2
  go_enter Tryz.func55, Tryz.ntmps55
  go_wp2_with (first | (go_at_call 79; refine hQ.mono ?_; rintro e9 w9 ⟨rfl, n9, rfl⟩))
  go_ret2
  exact ⟨rfl, _, rfl⟩
end Go.Proofs.YtnljpbpphdhnpaaGreatDoor



/- The library's Cut at one byte; the program's allDigits. -/
namespace Go.Proofs.YtnljpbpphdhnpaaGreatDoor
open Go.RowKit Go.PlainAid

theorem index_at (s : ByteArray) (c : UInt8) (i : Int) (h : Lib.indexByte s.data.toList c = i) (w : World) : Calls Tryz.prog 95 #[.string s, .string ⟨#[c]⟩] w fun e w' => e = .returned (.int .i64 i) ∧ w' = w := by
  rw [← h]; exact Tryz.stringslite_Index_one s c w

set_option maxRecDepth 1000000 in
theorem icut_none (s : ByteArray) (c : UInt8) (h : Lib.indexByte s.data.toList c = -1) (w : World) : Calls Tryz.prog 71 #[.string s, .string ⟨#[c]⟩] w fun e w' => e = .returned (.tuple #[.string s, .string ⟨#[]⟩, .bool false]) ∧ w' = w := by
  have hI := index_at s c (-1) h
  go_enter Tryz.func71, Tryz.ntmps71
  go_wp2_with (first | (go_at_call 95; refine (hI _).mono ?_; rintro e9 w9 ⟨rfl, hw9⟩; obtain rfl := hw9.symm))
  go_ret3
  exact ⟨rfl, rfl⟩
theorem cut_none (s : ByteArray) (c : UInt8) (h : Lib.indexByte s.data.toList c = -1) (w : World) : Calls Tryz.prog 50 #[.string s, .string ⟨#[c]⟩] w fun e w' => e = .returned (.tuple #[.string s, .string ⟨#[]⟩, .bool false]) ∧ w' = w := by
  have hI := icut_none s c h
  go_enter Tryz.func50, Tryz.ntmps50
  go_wp2_with (first | (go_at_call 71; refine (hI _).mono ?_; rintro e9 w9 ⟨rfl, hw9⟩; obtain rfl := hw9.symm))
  go_ret3
  exact ⟨rfl, rfl⟩
set_option maxRecDepth 1000000 in
theorem icut_at (s : ByteArray) (c : UInt8) (i : Nat) (hi : i < s.size) (hs : s.size ≤ maxLen) (h : Lib.indexByte s.data.toList c = (i : Int)) (w : World) : Calls Tryz.prog 71 #[.string s, .string ⟨#[c]⟩] w fun e w' => e = .returned (.tuple #[.string (s.extract 0 i), .string (s.extract (i + 1) s.size), .bool true]) ∧ ∃ n, w' = w.drewN n := by
  have hI := index_at s c i h
  have hs' : s.size ≤ 9223372036854775807 := hs
  have h1 : (i : Int) < (s.size : Int) := by omega
  have h2 : (i : Int) + 1 ≤ (s.size : Int) := by omega
  go_enter Tryz.func71, Tryz.ntmps71
  go_wp2_with (first | (go_at_call 95; refine (hI _).mono ?_; rintro e9 w9 ⟨rfl, hw9⟩; obtain rfl := hw9.symm))
  go_quiet (fail)
  go_wp2
  go_ret3
  exact ⟨rfl, _, rfl⟩
theorem cut_at (s : ByteArray) (c : UInt8) (i : Nat) (hi : i < s.size) (hs : s.size ≤ maxLen) (h : Lib.indexByte s.data.toList c = (i : Int)) (w : World) : Calls Tryz.prog 50 #[.string s, .string ⟨#[c]⟩] w fun e w' => e = .returned (.tuple #[.string (s.extract 0 i), .string (s.extract (i + 1) s.size), .bool true]) ∧ ∃ n, w' = w.drewN n := by
  have hI := icut_at s c i hi hs h
  go_enter Tryz.func50, Tryz.ntmps50
  go_wp2_with (first | (go_at_call 71; refine (hI _).mono ?_; rintro e9 w9 ⟨rfl, n9, rfl⟩))
  go_ret3
  exact ⟨rfl, _, rfl⟩

set_option maxRecDepth 1000000 in
theorem allDigits_yes (s : ByteArray) (h0 : 0 < s.size) (hall : ∀ j, j < s.size → 48 ≤ bt s j ∧ bt s j ≤ 57) (hs : s.size ≤ maxLen) (w : World) : Calls Tryz.prog 51 #[.string s] w fun e w' => e = .returned (.bool true) ∧ w' = w := by
  have HG : Hid (∀ i (h : i < s.size), ((s[i]'h).toNat : Int) = bt s i) := get_bt s
  have HA : Hid (∀ j, j < s.size → 48 ≤ bt s j ∧ bt s j ≤ 57) := hall
  have hne : s.toList.isEmpty = false := by
    have hl : s.toList.length = s.size := by rw [ByteArray.toList_eq]; exact Array.length_toList
    cases he : s.toList with
    | nil => rw [he] at hl; simp at hl; omega
    | cons x l => rfl
  have hs' : s.size ≤ 9223372036854775807 := hs
  clear hall
  go_enter Tryz.func51, Tryz.ntmps51
  go_wp2
  go_loop [6] (fun i => ∃ k : Nat, k ≤ s.size ∧ i = .int .i64 k) (fun i => s.size - (intOf i).toNat)
  case atStart => exact ⟨0, Nat.zero_le _, rfl⟩
  case round =>
    obtain ⟨k, hk, rfl⟩ := hrel
    by_cases hlt : k < s.size
    · have hki : (k : Int) < (s.size : Int) := by omega
      have gk : ((s[k]'hlt).toNat : Int) = bt s k := HG.out k hlt
      obtain ⟨r1, r2⟩ := HA.out k hlt
      generalize bt s k = c at *
      go_wp2
      go_round
      case rel => exact ⟨k + 1, by omega, by go_num⟩
      case measure => simp [intOf]; omega
    · go_wp2
      go_ret
      exact ⟨rfl, rfl⟩
theorem atMostFar_none (w : World) : Calls Tryz.prog 52 #[.string ⟨#[]⟩] w fun e w' => e = .returned (.int .i64 0) ∧ w' = w := by
  go_enter Tryz.func52, Tryz.ntmps52
  go_wp2
  go_rounds 1
  go_ret
  exact ⟨rfl, rfl⟩
end Go.Proofs.YtnljpbpphdhnpaaGreatDoor



/- The program's Parse at the two texts that are asked for. -/
namespace Go.Proofs.YtnljpbpphdhnpaaGreatDoor
open Go.RowKit Go.PlainAid

theorem cutPrefix_no (s : ByteArray) (h : Lib.hasPrefix s.data.toList [45] = false) (w : World) : Calls Tryz.prog 25 #[.string s, .string ⟨#[45]⟩] w fun e w' => e = .returned (.tuple #[.string s, .bool false]) ∧ w' = w := by
  have := Tryz.strings_CutPrefix s ⟨#[45]⟩ w
  have e1 : Lib.hasPrefix s.data.toList (⟨#[45]⟩ : ByteArray).data.toList = false := h
  have e2 : (⟨(Lib.trimPrefix s.data.toList (⟨#[45]⟩ : ByteArray).data.toList).toArray⟩ : ByteArray) = s := by
    unfold Lib.trimPrefix
    rw [e1]
    rfl
  rw [e1, e2] at this
  exact this

abbrev sA : ByteArray := ⟨#[49, 54, 55, 55, 55, 50, 49, 55, 46, 48]⟩
abbrev sB : ByteArray := ⟨#[49, 54, 55, 55, 55, 50, 49, 55]⟩

set_option maxRecDepth 1000000 in
theorem cutA (w : World) : Calls Tryz.prog 50 #[.string sA, .string ⟨#[46]⟩] w fun e w' => e = .returned (.tuple #[.string sB, .string ⟨#[48]⟩, .bool true]) ∧ ∃ n, w' = w.drewN n := by
  have h := cut_at sA 46 8 (by decide) (by decide) (by decide) w
  have e1 : sA.extract 0 8 = sB := by decide
  have e2 : sA.extract (8 + 1) sA.size = ⟨#[48]⟩ := by decide
  rw [e1, e2] at h
  exact h
theorem digits_B (w : World) : Calls Tryz.prog 51 #[.string sB] w fun e w' => e = .returned (.bool true) ∧ w' = w :=
  allDigits_yes sB (by decide) (by decide) (by decide) w
theorem digits_0 (w : World) : Calls Tryz.prog 51 #[.string ⟨#[48]⟩] w fun e w' => e = .returned (.bool true) ∧ w' = w :=
  allDigits_yes ⟨#[48]⟩ (by decide) (by decide) (by decide) w
theorem trimL_p (w : World) : Calls Tryz.prog 53 #[.string ⟨#[49, 54, 55, 55, 55, 50, 49, 55, 48]⟩, .string ⟨#[48]⟩] w fun e w' => e = .returned (.string ⟨#[49, 54, 55, 55, 55, 50, 49, 55, 48]⟩) ∧ w' = w :=
  Tryz.strings_TrimLeft_one ⟨#[49, 54, 55, 55, 55, 50, 49, 55, 48]⟩ 48 (by decide) w
theorem trimR_p (w : World) : Calls Tryz.prog 54 #[.string ⟨#[49, 54, 55, 55, 55, 50, 49, 55, 48]⟩, .string ⟨#[48]⟩] w fun e w' => e = .returned (.string sB) ∧ w' = w :=
  Tryz.strings_TrimRight_one ⟨#[49, 54, 55, 55, 55, 50, 49, 55, 48]⟩ 48 (by decide) w (by decide)

set_option maxRecDepth 1000000 in
set_option maxHeartbeats 1000000 in
theorem cut_p (w : World) : Calls Tryz.prog 28 #[.string sA] w fun e w' => e = .returned (.tuple #[.agg #[.string sB, .int .i64 7], .bool true]) ∧ Below w.heap.size w w' := by
  have h1 := cut_none sA 101 (by decide)
  have h2 := cutA
  have h3 := cutPrefix_no ⟨#[]⟩ (by decide)
  go_enter Tryz.func28, Tryz.ntmps28
  go_wp2_with (first
    | (go_at_call_of 50 (Value.string ⟨#[101]⟩); refine (h1 _).mono ?_; rintro e9 w9 ⟨rfl, hw9⟩; obtain rfl := hw9.symm)
    | (go_at_call_of 50 (Value.string ⟨#[46]⟩); refine (h2 _).mono ?_; rintro e9 w9 ⟨rfl, n9, rfl⟩)
    | (go_at_call 25; refine (h3 _).mono ?_; rintro e9 w9 ⟨rfl, hw9⟩; obtain rfl := hw9.symm)
    | (go_at_call_of 51 (Value.string sB); refine (digits_B _).mono ?_; rintro e9 w9 ⟨rfl, hw9⟩; obtain rfl := hw9.symm)
    | (go_at_call 51; refine (digits_0 _).mono ?_; rintro e9 w9 ⟨rfl, hw9⟩; obtain rfl := hw9.symm)
    | (go_at_call 52; refine (atMostFar_none _).mono ?_; rintro e9 w9 ⟨rfl, hw9⟩; obtain rfl := hw9.symm)
    | (go_at_call 53; refine (trimL_p _).mono ?_; rintro e9 w9 ⟨rfl, hw9⟩; obtain rfl := hw9.symm)
    | (go_at_call 54; refine (trimR_p _).mono ?_; rintro e9 w9 ⟨rfl, hw9⟩; obtain rfl := hw9.symm))
  refine bodyPost_ret (v := .tuple #[.agg #[.string sB, .int .i64 7], .bool true]) (by simp [results, Tryz.results28, go_sem]) rfl ⟨rfl, by go_grown; exact below_drewN (by go_grown) _⟩

set_option maxRecDepth 1000000 in
theorem cut_q (w : World) : Calls Tryz.prog 28 #[.string ⟨#[49]⟩] w fun e w' => e = .returned (.tuple #[.agg #[.string ⟨#[]⟩, .int .i64 0], .bool false]) ∧ Below w.heap.size w w' := by
  have h1 := cut_none ⟨#[49]⟩ 101 (by decide)
  have h2 := cut_none ⟨#[49]⟩ 46 (by decide)
  have h3 := cutPrefix_no ⟨#[]⟩ (by decide)
  go_enter Tryz.func28, Tryz.ntmps28
  go_wp2_with (first
    | (go_at_call_of 50 (Value.string ⟨#[101]⟩); refine (h1 _).mono ?_; rintro e9 w9 ⟨rfl, hw9⟩; obtain rfl := hw9.symm)
    | (go_at_call_of 50 (Value.string ⟨#[46]⟩); refine (h2 _).mono ?_; rintro e9 w9 ⟨rfl, hw9⟩; obtain rfl := hw9.symm)
    | (go_at_call 25; refine (h3 _).mono ?_; rintro e9 w9 ⟨rfl, hw9⟩; obtain rfl := hw9.symm))
  refine bodyPost_ret (v := .tuple #[.agg #[.string ⟨#[]⟩, .int .i64 0], .bool false]) (by simp [results, Tryz.results28, go_sem]) rfl ⟨rfl, by go_grown⟩
end Go.Proofs.YtnljpbpphdhnpaaGreatDoor



/- The program's nearest and Parse at the two texts that are asked for. -/
namespace Go.Proofs.YtnljpbpphdhnpaaGreatDoor
open Go.RowKit Go.PlainAid

theorem keep_start {W : World} : (∀ b o, b < W.heap.size → W.drew.cell? ⟨b, o, none⟩ = W.cell? ⟨b, o, none⟩) ∧ Below W.heap.size W W.drew := ⟨fun _ _ _ => rfl, (Below.refl _ _).drew⟩
theorem keep_next {W wi wj : World} (hb : Below wi.heap.size wi wj) (h : (∀ b o, b < W.heap.size → wi.cell? ⟨b, o, none⟩ = W.cell? ⟨b, o, none⟩) ∧ Below W.heap.size W wi) : (∀ b o, b < W.heap.size → wj.cell? ⟨b, o, none⟩ = W.cell? ⟨b, o, none⟩) ∧ Below W.heap.size W wj := by
  have hB := h.2.trans (hb.mono h.2.size)
  exact ⟨fun b o hlt => hB.cell (p := ⟨b, o, none⟩) hlt, hB⟩
theorem keep_cell {W wi : World} {b o : Nat} {v : Value} (h : (∀ b o, b < W.heap.size → wi.cell? ⟨b, o, none⟩ = W.cell? ⟨b, o, none⟩) ∧ Below W.heap.size W wi) (hc : W.cell? ⟨b, o, none⟩ = some v) : wi.cell? ⟨b, o, none⟩ = some v := by
  rw [h.1 b o (block_lt_of_cell hc)]; exact hc
theorem cell_next {W w' : World} {b o : Nat} {v : Value} (hb : Below W.heap.size W w') (h : W.cell? ⟨b, o, none⟩ = some v) : w'.cell? ⟨b, o, none⟩ = some v := by
  rw [hb.cell (p := ⟨b, o, none⟩) (World.block_lt_of_cell? W _ h)]; exact h
theorem cell_alloc {W : World} {X : Obj} {b o : Nat} {v : Value} (h : W.cell? ⟨b, o, none⟩ = some v) : (W.alloc X).cell? ⟨b, o, none⟩ = some v := by
  rw [World.cell?_alloc_old W X ⟨b, o, none⟩ (Nat.ne_of_lt (block_lt_of_cell h))]; exact h

theorem fi_p (w : World) : Calls Tryz.prog 56 #[.int .i64 7, .int .i64 10] w fun e w' => e = .returned (.string ⟨#[55]⟩) ∧ w' = w :=
  by
  have h := Tryz.strconv_FormatInt_10_small 7 (by decide) w
  have e : Lib.decDigits 7 = [55] := by unfold Lib.decDigits; rfl
  rw [e] at h
  exact h

/-- the library's tables, as far as they are read here -/
structure Tabs (w : World) : Prop where
  hi : w.cell? ⟨15, 696, none⟩ = some (.int .u64 9223372036854775808)
  lo : w.cell? ⟨15, 697, none⟩ = some (.int .u64 0)
  opt : w.cell? ⟨5, 0, none⟩ = some (.bool true)
theorem Tabs.below {w w' : World} (h : Tabs w) (hb : Below w.heap.size w w') : Tabs w' := ⟨cell_next hb h.hi, cell_next hb h.lo, cell_next hb h.opt⟩

theorem pf_b (w : World) (h : Tabs w) : Calls Tryz.prog 55 #[.string ⟨#[49, 46, 54, 55, 55, 55, 50, 49, 55, 101, 55]⟩, .int .i64 32] w fun e w' => e = .returned (.tuple #[.float .f64 4715268809856909312, .nilIface]) ∧ Below w.heap.size w w' := by
  refine (pf_p w h.hi h.lo h.opt).mono ?_
  rintro e w' ⟨rfl, n, rfl⟩
  exact ⟨rfl, below_drewN (by go_grown) _⟩
set_option maxRecDepth 1000000 in
theorem conv_q (w : World) : (convert 80 22 (.float .f64 4715268809856909312)).run Tryz.prog w = .ok (.float .f32 1266679808) w :=
  run_convert_float_float w 80 22 .f64 .f32 4715268809856909312 1266679808 (by kernel_rfl) Tryz.underlying22 (by decide)

set_option maxRecDepth 1000000 in
set_option maxHeartbeats 2000000 in
theorem nearest_p (w : World) (hT : Tabs w) : Calls Tryz.prog 29 #[.agg #[.string sB, .int .i64 7]] w fun e w' => e = .returned (.tuple #[.float .f32 1266679808, .bool true]) ∧ Below w.heap.size w w' := by
  have hC := conv_q
  have hW1 : Tabs (w.alloc (.cells #[.string sB, .int .i64 7] 46)) := ⟨cell_alloc hT.hi, cell_alloc hT.lo, cell_alloc hT.opt⟩
  go_enter Tryz.func29, Tryz.ntmps29
  go_wp2
  go_region_held3 (fun w' => (∀ b o, b < (w.alloc (.cells #[.string sB, .int .i64 7] 46)).heap.size → w'.cell? ⟨b, o, none⟩ = (w.alloc (.cells #[.string sB, .int .i64 7] 46)).cell? ⟨b, o, none⟩) ∧ Below (w.alloc (.cells #[.string sB, .int .i64 7] 46)).heap.size (w.alloc (.cells #[.string sB, .int .i64 7] 46)) w')
    (first | exact keep_start | exact keep_next (by assumption) (by assumption))
    (first | (go_at_call 56; refine (fi_p _).mono ?_; rintro e w1 ⟨rfl, hw1⟩; obtain rfl := hw1.symm) | (go_at_call 55; refine (pf_b _ (hW1.below (And.right (by assumption)))).mono ?_; rintro e w1 ⟨rfl, hb⟩))
  all_goals rename_i hH
  all_goals go_wp2
  all_goals go_quiet (fail)
  all_goals go_wp2
  all_goals go_ret2
  all_goals exact ⟨rfl, below_drewN (((Below.refl w.heap.size w).alloc (Nat.le_refl _) _).trans (hH.2.mono (by simp))) _⟩

theorem parse_q (w : World) : Calls Tryz.prog 9 #[.string ⟨#[49]⟩] w fun e w' => e = .returned (.tuple #[.float .f32 0, .int .i64 30]) ∧ Below w.heap.size w w' := by
  have h3 := cutPrefix_no ⟨#[49]⟩ (by decide)
  have h4 := cut_q
  go_enter Tryz.func9, Tryz.ntmps9
  go_wp2_with (first
    | (go_at_call 25; refine (h3 _).mono ?_; rintro e9 w9 ⟨rfl, hw9⟩; obtain rfl := hw9.symm)
    | (go_at_call 28; refine (h4 _).mono ?_; rintro e9 w9 ⟨rfl, hb⟩))
  go_ret2
  exact ⟨rfl, hb.alloc hb.size _⟩

set_option maxRecDepth 1000000 in
theorem parse_p (w : World) (hT : Tabs w) : Calls Tryz.prog 9 #[.string sA] w fun e w' => e = .returned (.tuple #[.float .f32 1266679808, .int .i64 0]) ∧ Below w.heap.size w w' := by
  have h3 := cutPrefix_no sA (by decide)
  have h4 := cut_p
  have h5 := signed_any 1266679808 (by decide) false
  simp only [Bool.false_eq_true, if_false] at h5
  go_enter Tryz.func9, Tryz.ntmps9
  go_wp2_with (first
    | (go_at_call 25; refine (h3 _).mono ?_; rintro e9 w9 ⟨rfl, hw9⟩; obtain rfl := hw9.symm)
    | (go_at_call 28; refine (h4 _).mono ?_; rintro e9 w9 ⟨rfl, hb⟩)
    | (go_at_call 29; refine (nearest_p _ (hT.below (hb.alloc hb.size _))).mono ?_; rintro e9 w8 ⟨rfl, hb8⟩)
    | (go_at_call 30; refine (h5 _).mono ?_; rintro e9 w7 ⟨rfl, hw7⟩; obtain rfl := hw7.symm))
  go_ret2
  exact ⟨rfl, (hb.alloc hb.size _).trans (hb8.mono (hb.alloc hb.size _).size)⟩
end Go.Proofs.YtnljpbpphdhnpaaGreatDoor


