/- The library's parseFloat32 for numbers times a power of ten that is told exactly: its parts. -/
import Derived.Test.YtnjbdaonmgadaaaGreatDoorUsE
namespace Go.Proofs.YtnjbdaonmgadaaaGreatDoor
open Go.RowKit Go.PlainAid

theorem bitLen_log (d : Nat) (h0 : 0 < d) (h : d < 2 ^ 64) : Lib.bitLen d = d.log2 + 1 := by
  induction d using Nat.strongRecOn with
  | _ d ih =>
    rw [Lib.bitLen_half d (by omega) h, Nat.log2_def]
    by_cases h1 : 2 ≤ d
    · rw [if_pos h1, ih (d / 2) (by omega) (by omega) (by omega)]; omega
    · rw [if_neg h1, show d / 2 = 0 by omega]; rfl
/-- the places of ten to the power p, less one -/
def lpP (p : Nat) : Nat := p * 108853 / 32768
/-- ten to the power p, its first place at 2^63 -/
def hiP (p : Nat) : Nat := 10 ^ p * 2 ^ (63 - lpP p)
theorem lp_facts : ∀ p, p < 19 → lpP p ≤ 59 ∧ 2 ^ lpP p ≤ 10 ^ p ∧ 100 * 10 ^ p < 98 * 2 ^ (lpP p + 1) ∧ hiP p < 18446744073709551616 := by decide

set_option maxRecDepth 1000000 in
theorem log2_any (p : Nat) (h : p ≤ 18) (w : World) : Calls Tryz.prog 148 #[.int .i64 (p : Int)] w fun e w' => e = .returned (.int .i64 ((lpP p : Nat) : Int)) ∧ w' = w := by
  have e : ((p : Int) * 108853) / 2 ^ 15 = ((lpP p : Nat) : Int) := by unfold lpP; omega
  go_enter Tryz.func148, Tryz.ntmps148
  go_wp2
  go_ret
  exact ⟨by simp [← e], rfl⟩
set_option maxRecDepth 1000000 in
set_option maxHeartbeats 400000 in
theorem round_any (u q r : Int) (h : 0 ≤ u ∧ u < 1073741824) (e1 : bits .and .u64 (u / 4) 1 = q) (hq : 0 ≤ q ∧ q ≤ 1) (e2 : (u + 1 + q) / 4 = r) (w : World) : Calls Tryz.prog 153 #[.int .u64 u] w fun e w' => e = .returned (.int .u64 r) ∧ w' = w := by
  obtain ⟨h0, h1⟩ := h
  obtain ⟨q0, q1⟩ := hq
  have E2 : Hid ((u + 1 + q) / 4 = r) := e2
  clear e2
  go_enter Tryz.func153, Tryz.ntmps153
  go_wp2
  go_ret
  exact ⟨by simp [← E2.out], rfl⟩
end Go.Proofs.YtnjbdaonmgadaaaGreatDoor
