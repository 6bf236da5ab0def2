/- The library's parseFloat32 at the one number that is asked for. -/
import Derived.Test.YtnjbdaonmgadaaaGreatDoorRdF
import Derived.Test.YtnjbdaonmgadaaaGreatDoorShelf
import Derived.Deep.QuietTactic
import GoSem.PinnedTables
namespace Go.Proofs.YtnjbdaonmgadaaaGreatDoor
open Go.RowKit Go.PlainAid

set_option maxRecDepth 1000000 in
theorem run_sfrom (x : Nat) (w : World) : (callFunc 119 #[.int .u32 (x : Int)]).run Tryz.prog w = .ok (.value (.float .f32 x)) w :=
  (run_callFunc_extern (e := Extern.MathFloatBits.float32frombits) Tryz.func119 (by kernel_rfl) (by kernel_rfl) (by kernel_rfl) (by kernel_rfl) _ w).trans rfl

theorem len64_at (x : Int) (h0 : 0 ≤ x) (h1 : x ≤ 18446744073709551615) (n : Int) (hn : (Lib.bitLen x.toNat : Int) = n) (w : World) : Calls Tryz.prog 60 #[.int .u64 x] w fun e w' => e = .returned (.int .i64 n) ∧ w' = w := by
  rw [← hn]; exact Tryz.bits_Len64 x w h0 h1
theorem mul64_at (x y a b : Int) (hx : 0 ≤ x ∧ x < 18446744073709551616) (hy : 0 ≤ y ∧ y < 18446744073709551616) (ha : x * y / 18446744073709551616 = a) (hb : x * y % 18446744073709551616 = b) (w : World) :
    Calls Tryz.prog 110 #[.int .u64 x, .int .u64 y] w fun e w' => e = .returned (.tuple #[.int .u64 a, .int .u64 b]) ∧ w' = w := by
  obtain ⟨m, rfl⟩ := Int.eq_ofNat_of_zero_le hx.1
  obtain ⟨n, rfl⟩ := Int.eq_ofNat_of_zero_le hy.1
  have := Tryz.bits_Mul64 m n (by omega) (by omega) w
  rw [← ha, ← hb]
  exact this

set_option maxRecDepth 1000000 in
set_option maxHeartbeats 1000000 in
theorem prescale_any (k : Nat) (e p lp : Int) (hi lo : Int) (x0 x1 x2 : Int) (t : TypeId) (w : World) (hp : p = (k : Int) - 348) (h2 : k < 696) (he : -2000 ≤ e ∧ e ≤ 2000) (hl : -2000 ≤ lp ∧ lp ≤ 2000)
    (c0 : w.cell? ⟨15, k * 2, none⟩ = some (.int .u64 hi)) (c1 : w.cell? ⟨15, k * 2 + 1, none⟩ = some (.int .u64 lo)) :
    Calls Tryz.prog 149 #[.pointer (some ⟨w.heap.size, 0, none⟩), .int .i64 e, .int .i64 p, .int .i64 lp] (w.alloc (.cells #[.int .u64 x0, .int .u64 x1, .int .i64 x2] t)) fun e' w' => e' = .returned (.tuple #[]) ∧ w' = w.alloc (.cells #[.int .u64 hi, .int .u64 lo, .int .i64 (-(e + lp + 3))] t) := by
  have hsz : 15 < w.heap.size := block_lt_of_cell c0
  obtain ⟨he1, he2⟩ := he
  obtain ⟨hl1, hl2⟩ := hl
  subst hp
  go_enter Tryz.func149, Tryz.ntmps149
  go_wp2
  go_end0
  exact ⟨rfl, rfl⟩
end Go.Proofs.YtnjbdaonmgadaaaGreatDoor

