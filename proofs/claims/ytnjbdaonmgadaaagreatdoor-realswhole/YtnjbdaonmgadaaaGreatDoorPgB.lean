/- The library's parseFloat32 for numbers times a power of ten that is told exactly. -/
import Derived.Test.YtnjbdaonmgadaaaGreatDoorPgA
namespace Go.Proofs.YtnjbdaonmgadaaaGreatDoor
open Go.RowKit Go.PlainAid

theorem round_nat (u : Nat) (h : u < 1073741824) (w : World) : Calls Tryz.prog 153 #[.int .u64 (u : Int)] w fun e w' => e = .returned (.int .u64 ((rndU u : Nat) : Int)) ∧ w' = w := by
  have e1 : bits .and .u64 ((u : Int) / 4) 1 = ((u / 4 % 2 : Nat) : Int) := by
    rw [show (u : Int) / 4 = ((u / 4 : Nat) : Int) by omega]; exact and_one _ (by omega)
  exact round_any u _ _ (by omega) e1 (by omega) (by unfold rndU; omega) w

theorem and23 (m : Nat) (h : 8388608 ≤ m) (h2 : m < 16777216) : m &&& 8388608 = 8388608 := by
  have h3 : m &&& 2 ^ 23 = 2 ^ 23 := by
    apply Nat.eq_of_testBit_eq
    intro i
    rw [Nat.testBit_and, Nat.testBit_two_pow]
    by_cases hi : 23 = i
    · subst hi
      rw [Nat.testBit_eq_decide_div_mod_eq]
      simp
      omega
    · simp [hi]
  simpa using h3
theorem and23_bits (m : Nat) (h : 8388608 ≤ m) (h2 : m < 16777216) : bits .and .u32 (m : Int) 8388608 = 8388608 := by
  have := u32_and_nat m 8388608 (by omega) (by decide)
  rw [and23 m h h2] at this
  exact this
theorem andNot23_bits (m : Nat) (h : 8388608 ≤ m) (h2 : m < 16777216) : bits .andNot .u32 (m : Int) 8388608 = ((m - 8388608 : Nat) : Int) := by
  have h1 := u32_andNot_nat m 8388608 (by omega) (by decide)
  have e : ((8388608 : Nat) : Int) = 8388608 := rfl
  rw [e] at h1
  rw [h1, show 4294967295 - 8388608 = 4286578687 from rfl]
  have h4 : m &&& 4286578687 = m - 8388608 := by
    have h5 : m = 8388608 ||| (m - 8388608) := by
      have := Nat.two_pow_add_eq_or_of_lt (i := 23) (b := m - 8388608) (by omega) 1
      simp at this
      omega
    have h6 : (8388608 : Nat) &&& 4286578687 = 0 := by decide
    have h7 : (m - 8388608) &&& 4286578687 = m - 8388608 := by
      have e1 : (m - 8388608) &&& 8388607 = m - 8388608 := by
        rw [show (8388607 : Nat) = 2 ^ 23 - 1 by decide, Nat.and_two_pow_sub_one_eq_mod]; omega
      have e2 : (8388607 : Nat) &&& 4286578687 = 8388607 := by decide
      conv => lhs; rw [← e1, Nat.and_assoc, e2]
      exact e1
    conv => lhs; rw [h5, Nat.and_or_distrib_right, h6, h7]
    simp
  rw [h4]
theorem or23_bits (f k : Nat) (h : f < 8388608) (hk : k < 512) : bits .or .u32 (f : Int) ((k * 8388608 : Nat) : Int) = ((f + k * 8388608 : Nat) : Int) := by
  have h1 := u32_or_nat f (k * 8388608) (by omega) (by omega)
  rw [h1]
  have h2 := Nat.two_pow_add_eq_or_of_lt (i := 23) (b := f) (by omega) k
  rw [Nat.or_comm, show k * 8388608 = 2 ^ 23 * k by omega, ← h2]
  congr 1
  omega

set_option maxRecDepth 1000000 in
set_option maxHeartbeats 400000 in
theorem pack_raw (m E f K : Int) (zn : Nat) (e1 : bits .and .u32 m 8388608 = 8388608) (e2 : bits .andNot .u32 m 8388608 = f) (e3 : bits .or .u32 f K = (zn : Int)) (hE : -150 ≤ E ∧ E < 105) (hK : IntKind.u32.wrap ((150 + E) * 8388608) = K) (w : World) :
    Calls Tryz.prog 152 #[.int .u32 m, .int .i64 E] w fun e w' => e = .returned (.tuple #[.float .f32 zn, .nilIface]) ∧ w' = w := by
  have hF := run_sfrom zn
  obtain ⟨hE0, hE1⟩ := hE
  go_enter Tryz.func152, Tryz.ntmps152
  go_wp2
  go_ret2
  exact ⟨rfl, rfl⟩
theorem pack_any (m : Nat) (E : Int) (k : Nat) (h1 : 8388608 ≤ m) (h2 : m < 16777216) (hk : 150 + E = (k : Int)) (hk2 : k < 255) (w : World) :
    Calls Tryz.prog 152 #[.int .u32 (m : Int), .int .i64 E] w fun e w' => e = .returned (.tuple #[.float .f32 (m - 8388608 + k * 8388608), .nilIface]) ∧ w' = w :=
  pack_raw (m : Int) E _ _ (m - 8388608 + k * 8388608) (and23_bits m h1 h2) (andNot23_bits m h1 h2) (or23_bits (m - 8388608) k (by omega) (by omega)) (by omega) (by rw [hk, IntKind.wrap_u32]; omega) w
end Go.Proofs.YtnjbdaonmgadaaaGreatDoor
