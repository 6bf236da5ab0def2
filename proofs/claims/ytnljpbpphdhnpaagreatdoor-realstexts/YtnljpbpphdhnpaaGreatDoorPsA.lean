/- The library's scaling for float32: nothing comes too near, whatever the float; so it is exact. -/
import Derived.Test.YtnljpbpphdhnpaaGreatDoorUzN
import Derived.Test.YtnljpbpphdhnpaaGreatDoorPfC

namespace Go.Proofs.YtnljpbpphdhnpaaGreatDoor
open Go.RowKit Go.PlainAid

/-- the row of the power that brings one place of 2 to the power E to 1 or more, less than 10 (jS: three quarters of it) -/
def jN (E : Int) : Nat := (31 - E * 78913 / 262144).toNat
def jS (E : Int) : Nat := (31 - (E * 631305 - 261663) / 2097152).toNat
def rowOk (E : Int) (j : Nat) : Prop := j < 77 ∧ (j < 31 → (31 : Int) - j ≤ E) ∧ 34 ≤ 37 - E - lpR j ∧ (75 ≤ j → j = 75 ∧ 99 ≤ -E - 44 ∧ -E - 44 ≤ 102 ∨ j = 76 ∧ 101 ≤ -E - 45 ∧ -E - 45 ≤ 104)
instance (E : Int) (j : Nat) : Decidable (rowOk E j) := by unfold rowOk; infer_instance
theorem rows_ok : ∀ n : Nat, n < 254 → rowOk ((n : Int) - 149) (jN ((n : Int) - 149)) ∧ (1 ≤ n → rowOk ((n : Int) - 149) (jS ((n : Int) - 149))) := by
  decide +kernel

def inv5 (p : Nat) : Nat := if p = 45 then 11652860451967362934349200961085 else 2487675849794721005891063768881
def missOk (p K : Nat) : Prop := 5 ^ p * inv5 p % 2 ^ K = 1 ∧ ∀ c, c < 24 → c ≠ 0 → 67108867 ≤ c * inv5 p % 2 ^ K ∧ 67108867 ≤ (2 ^ K - c) * inv5 p % 2 ^ K
instance (p K : Nat) : Decidable (missOk p K) := by unfold missOk; infer_instance
theorem miss_ok : missOk 45 104 ∧ missOk 45 103 ∧ missOk 45 102 ∧ missOk 45 101 ∧ missOk 44 102 ∧ missOk 44 101 ∧ missOk 44 100 ∧ missOk 44 99 := by
  decide +kernel
theorem miss (p K X : Nat) (h : missOk p K) (hK : 27 ≤ K) (hX : X < 67108867) (h0 : X * 5 ^ p % 2 ^ K ≠ 0) : 24 ≤ X * 5 ^ p % 2 ^ K ∧ X * 5 ^ p % 2 ^ K + 24 ≤ 2 ^ K := by
  obtain ⟨h1, h2⟩ := h
  have hP : 0 < 2 ^ K := Nat.two_pow_pos K
  have hbig : 2 ^ 27 ≤ 2 ^ K := Nat.pow_le_pow_right (by decide) hK
  have hlt := Nat.mod_lt (X * 5 ^ p) hP
  have hinv : X * 5 ^ p % 2 ^ K * inv5 p % 2 ^ K = X := by
    rw [Nat.mod_mul_mod, Nat.mul_assoc, Nat.mul_mod, h1, Nat.mul_one, Nat.mod_mod]
    exact Nat.mod_eq_of_lt (by omega)
  generalize X * 5 ^ p % 2 ^ K = c at *
  generalize 2 ^ K = P at *
  refine ⟨?_, ?_⟩
  · rcases Nat.lt_or_ge c 24 with h | h
    · have := (h2 c h h0).1
      omega
    · exact h
  · rcases Nat.lt_or_ge P (c + 24) with h | h
    · have := (h2 (P - c) (by omega) (by omega)).2
      rw [show P - (P - c) = c by omega] at this
      omega
    · exact h

theorem two_mul_pow (a b c d : Nat) (h : a + b = c + d) : (2 : Nat) ^ a * 2 ^ b = 2 ^ c * 2 ^ d := by rw [← Nat.pow_add, ← Nat.pow_add, h]
theorem ten_split (n : Nat) : 10 ^ n = 2 ^ n * 5 ^ n := by rw [← Nat.mul_pow]
theorem five_le {q : Nat} (h : q ≤ 31) : 5 ^ q ≤ 2 ^ 72 := Nat.le_trans (Nat.pow_le_pow_right (by decide) h) (by decide +kernel)
/-- what the scaling asks: nothing that isn't whole stands nearer than three last places -/
def Gap (E : Int) (j X s : Nat) : Prop := (X * 2 ^ E.toNat * 10 ^ (j - 31)) % (2 ^ (-E).toNat * 10 ^ (31 - j)) = 0 ∨
      (3 * 18446744073709551616 * (2 ^ (-E).toNat * 10 ^ (31 - j)) ≤ (X * 2 ^ E.toNat * 10 ^ (j - 31)) % (2 ^ (-E).toNat * 10 ^ (31 - j)) * 2 ^ (128 + s) ∧
        3 * 18446744073709551616 * (2 ^ (-E).toNat * 10 ^ (31 - j)) ≤ (2 ^ (-E).toNat * 10 ^ (31 - j) - (X * 2 ^ E.toNat * 10 ^ (j - 31)) % (2 ^ (-E).toNat * 10 ^ (31 - j))) * 2 ^ (128 + s))
/-- the same, of a number with the factor a taken out: what is left of it, and how near it may come -/
theorem gap_of (num den a Y B m D : Nat) (hn : num = a * Y) (hd : den = a * B) (hr : Y % B ≠ 0 → m ≤ Y % B ∧ Y % B + m ≤ B) (hD : 3 * 18446744073709551616 * B ≤ m * D) :
    num % den = 0 ∨ (3 * 18446744073709551616 * den ≤ num % den * D ∧ 3 * 18446744073709551616 * den ≤ (den - num % den) * D) := by
  subst hn hd
  rw [Nat.mul_mod_mul_left]
  by_cases h : Y % B = 0
  · exact .inl (by rw [h, Nat.mul_zero])
  · obtain ⟨h1, h2⟩ := hr h
    refine .inr ⟨?_, ?_⟩
    · calc 3 * 18446744073709551616 * (a * B) = a * (3 * 18446744073709551616 * B) := by rw [Nat.mul_left_comm]
        _ ≤ a * (m * D) := Nat.mul_le_mul_left _ hD
        _ ≤ a * (Y % B * D) := Nat.mul_le_mul_left _ (Nat.mul_le_mul_right _ h1)
        _ = a * (Y % B) * D := by rw [Nat.mul_assoc]
    · calc 3 * 18446744073709551616 * (a * B) = a * (3 * 18446744073709551616 * B) := by rw [Nat.mul_left_comm]
        _ ≤ a * (m * D) := Nat.mul_le_mul_left _ hD
        _ ≤ a * ((B - Y % B) * D) := Nat.mul_le_mul_left _ (Nat.mul_le_mul_right _ (by omega))
        _ = (a * B - a * (Y % B)) * D := by rw [← Nat.mul_assoc, Nat.mul_sub]
set_option maxRecDepth 100000 in
theorem gap_any (E : Int) (j X s t : Nat) (hX : X < 67108867) (ht : 38 ≤ t) (hs : (s : Int) = (t : Int) - 1 - E - lpR j) (hr : rowOk E j) : Gap E j X s := by
  obtain ⟨r1, r2, r3, r4⟩ := hr
  obtain ⟨_, _, _, l1, l2, _, _, l3, l4⟩ := row_facts j r1
  have h34 : 34 ≤ s := by omega
  unfold Gap
  by_cases hj : j < 31
  · have hE := r2 hj
    have hz : (-E).toNat = 0 := by omega
    rw [hz, show j - 31 = 0 by omega]
    simp only [Nat.pow_zero, Nat.one_mul, Nat.mul_one]
    refine gap_of _ _ (2 ^ (31 - j)) (X * 2 ^ (E.toNat - (31 - j))) (5 ^ (31 - j)) 1 _ ?_ (ten_split _) (fun h => ⟨by omega, ?_⟩) ?_
    · have e := two_mul_pow (31 - j) (E.toNat - (31 - j)) E.toNat 0 (by omega)
      rw [Nat.pow_zero, Nat.mul_one] at e
      rw [← e, Nat.mul_left_comm]
    · have := Nat.mod_lt (X * 2 ^ (E.toNat - (31 - j))) (show 0 < 5 ^ (31 - j) from Nat.pow_pos (by decide))
      omega
    · have h5 := five_le (show 31 - j ≤ 31 by omega)
      have h2 : (2 : Nat) ^ 162 ≤ 2 ^ (128 + s) := Nat.pow_le_pow_right (by decide) (by omega)
      have h3 : 3 * 18446744073709551616 * 2 ^ 72 ≤ 2 ^ 162 := by decide +kernel
      rw [Nat.one_mul]
      exact Nat.le_trans (Nat.mul_le_mul_left _ h5) (Nat.le_trans h3 h2)
  · rw [show 31 - j = 0 by omega, Nat.pow_zero, Nat.mul_one]
    by_cases he : (-E).toNat ≤ j - 31
    · refine .inl (Nat.mod_eq_zero_of_dvd ?_)
      rw [ten_split]
      exact Nat.dvd_trans (Nat.pow_dvd_pow 2 he) (Nat.dvd_trans (Nat.dvd_mul_right _ _) (Nat.dvd_mul_left _ _))
    · rw [show E.toNat = 0 by omega, Nat.pow_zero, Nat.mul_one]
      have hnum : X * 10 ^ (j - 31) = 2 ^ (j - 31) * (X * 5 ^ (j - 31)) := by rw [ten_split, Nat.mul_left_comm]
      have hden : 2 ^ (-E).toNat = 2 ^ (j - 31) * 2 ^ ((-E).toNat - (j - 31)) := by rw [← Nat.pow_add]; congr 1; omega
      by_cases h7 : j ≤ 74
      · refine gap_of _ _ _ _ _ 1 _ hnum hden (fun h => ⟨by omega, ?_⟩) ?_
        · have := Nat.mod_lt (X * 5 ^ (j - 31)) (Nat.two_pow_pos ((-E).toNat - (j - 31)))
          omega
        · have h2 : (2 : Nat) ^ (66 + ((-E).toNat - (j - 31))) ≤ 2 ^ (128 + s) := Nat.pow_le_pow_right (by decide) (by have := l4 h7; omega)
          rw [Nat.pow_add] at h2
          rw [Nat.one_mul]
          have h3 : 3 * 18446744073709551616 ≤ 2 ^ 66 := by decide +kernel
          exact Nat.le_trans (Nat.mul_le_mul_right _ h3) h2
      · have hm : missOk (j - 31) ((-E).toNat - (j - 31)) := by
          obtain ⟨m1, m2, m3, m4, m5, m6, m7, m8⟩ := miss_ok
          rcases r4 (by omega) with ⟨rfl, h1, h2⟩ | ⟨rfl, h1, h2⟩
          · rcases (show E = -143 ∨ E = -144 ∨ E = -145 ∨ E = -146 by omega) with rfl | rfl | rfl | rfl
            · exact m8
            · exact m7
            · exact m6
            · exact m5
          · rcases (show E = -146 ∨ E = -147 ∨ E = -148 ∨ E = -149 by omega) with rfl | rfl | rfl | rfl
            · exact m4
            · exact m3
            · exact m2
            · exact m1
        refine gap_of _ _ _ _ _ 24 _ hnum hden (fun h => miss _ _ X hm ?_ hX h) ?_
        · clear hnum hden hm h
          rcases r4 (by omega) with ⟨h0, h1, h2⟩ | ⟨h0, h1, h2⟩ <;> omega
        · have h2 : (2 : Nat) ^ (64 + ((-E).toNat - (j - 31))) ≤ 2 ^ (3 + (128 + s)) := Nat.pow_le_pow_right (by decide) (by omega)
          rw [Nat.pow_add, Nat.pow_add 2 3] at h2
          have h3 := Nat.mul_le_mul_left 3 h2
          have h4 : (2 : Nat) ^ 64 = 18446744073709551616 := by decide +kernel
          rw [h4] at h3
          have h6 : (2 : Nat) ^ 3 = 8 := by decide
          rw [h6] at h3
          generalize 2 ^ ((-E).toNat - (j - 31)) = z at *
          generalize 2 ^ (128 + s) = y at *
          omega
/-- the library's scaling of a float32's halves and quarters, exact -/
theorem usc_any (E : Int) (j X s t : Nat) (hX : X < 67108867) (ht : 38 ≤ t) (hx : X * 2 ^ t + 4 ≤ 18446744073709551616) (hs : (s : Int) = (t : Int) - 1 - E - lpR j) (hr : rowOk E j) :
    uscN (X * 2 ^ t) (hiR j) (loR j) s = uN (X * 2 ^ E.toNat * 10 ^ (j - 31)) (2 ^ (-E).toNat * 10 ^ (31 - j)) :=
  usc_f32 E j X t s hr.1 hx hs (gap_any E j X s t hX ht hs hr)
end Go.Proofs.YtnljpbpphdhnpaaGreatDoor

/- The library's parseFloat32 for numbers times a power of ten that is told exactly: its parts. -/
namespace Go.Proofs.YtnljpbpphdhnpaaGreatDoor
open Go.RowKit Go.PlainAid

theorem bitLen_log (d : Nat) (h0 : 0 < d) (h : d < 2 ^ 64) : Lib.bitLen d = d.log2 + 1 := by
  induction d using Nat.strongRecOn with
  | _ d ih =>
    rw [Lib.bitLen_half d (by omega) h, Nat.log2_def]
    by_cases h1 : 2 ≤ d
    · rw [if_pos h1, ih (d / 2) (by omega) (by omega) (by omega)]; omega
    · rw [if_neg h1, show d / 2 = 0 by omega]; rfl
/-- the places of ten to the power p, less one -/
def lpP (p : Nat) : Nat := p * 108853 / 32768
/-- ten to the power p, its first place at 2^63 -/
def hiP (p : Nat) : Nat := 10 ^ p * 2 ^ (63 - lpP p)
theorem lp_facts : ∀ p, p < 19 → lpP p ≤ 59 ∧ 2 ^ lpP p ≤ 10 ^ p ∧ 100 * 10 ^ p < 98 * 2 ^ (lpP p + 1) ∧ hiP p < 18446744073709551616 := by decide

set_option maxRecDepth 1000000 in
theorem log2_any (p : Nat) (h : p ≤ 18) (w : World) : Calls Tryz.prog 172 #[.int .i64 (p : Int)] w fun e w' => e = .returned (.int .i64 ((lpP p : Nat) : Int)) ∧ w' = w := by
  have e : ((p : Int) * 108853) / 2 ^ 15 = ((lpP p : Nat) : Int) := by unfold lpP; omega
  go_enter Tryz.func172, Tryz.ntmps172
  go_wp2
  go_ret
  exact ⟨by simp [← e], rfl⟩
set_option maxRecDepth 1000000 in
set_option maxHeartbeats 400000 in
theorem round_any (u q r : Int) (h : 0 ≤ u ∧ u < 1073741824) (e1 : bits .and .u64 (u / 4) 1 = q) (hq : 0 ≤ q ∧ q ≤ 1) (e2 : (u + 1 + q) / 4 = r) (w : World) : Calls Tryz.prog 177 #[.int .u64 u] w fun e w' => e = .returned (.int .u64 r) ∧ w' = w := by
  obtain ⟨h0, h1⟩ := h
  obtain ⟨q0, q1⟩ := hq
  have E2 : Hid ((u + 1 + q) / 4 = r) := e2
  clear e2
  go_enter Tryz.func177, Tryz.ntmps177
  go_wp2
  go_ret
  exact ⟨by simp [← E2.out], rfl⟩
end Go.Proofs.YtnljpbpphdhnpaaGreatDoor


/- The library's atof32 and ParseFloat at the one text that is asked for. -/
namespace Go.Proofs.YtnljpbpphdhnpaaGreatDoor
open Go.RowKit Go.PlainAid

def sP : ByteArray := ⟨#[49, 46, 54, 55, 55, 55, 50, 49, 55, 101, 55]⟩

set_option maxRecDepth 1000000 in
theorem special_p (w : World) : Calls Tryz.prog 152 #[.string ⟨#[49, 46, 54, 55, 55, 55, 50, 49, 55, 101, 55]⟩] w fun e w' => e = .returned (.tuple #[.float .f64 0, .int .i64 0, .bool false]) ∧ w' = w := by
  go_enter Tryz.func152, Tryz.ntmps152
  go_wp2
  go_ret3
  exact ⟨rfl, rfl⟩

def mP (k : Nat) : Int := [0, 1, 1, 16, 167, 1677, 16777, 167772, 1677721, 16777217].getD k 0
def nP (k : Nat) : Int := [0, 1, 1, 2, 3, 4, 5, 6, 7, 8].getD k 0
def dP (k : Nat) : Int := [0, 0, 1, 1, 1, 1, 1, 1, 1, 1].getD k 0
def fP (k : Nat) : Bool := [false, false, true, true, true, true, true, true, true, true].getD k false
def eP (k : Nat) : Int := [0, 0, 0, 0, 0, 0, 0, 0, 0, 0, 0, 7].getD k 0

theorem read_p (w : World) : Calls Tryz.prog 153 #[.string sP] w fun e w' => e = .returned (.tuple #[.int .u64 16777217, .int .i64 0, .bool false, .bool false, .bool false, .int .i64 11, .bool true]) ∧ w' = w :=
  readFloat_any sP 9 mP nP dP fP eP w (by decide) (by unfold RunD; decide) (by decide) (by decide) (by decide) (by decide) (by decide) (by decide) (by
    intro k h1 h2
    have : k = 10 := by have : sP.size = 11 := rfl
                        omega
    subst this
    decide) (by decide) (by decide)

set_option maxRecDepth 1000000 in
theorem exact_p (w : World) : Calls Tryz.prog 157 #[.int .u64 16777217, .int .i64 0, .bool false] w fun e w' => e = .returned (.tuple #[.float .f32 0, .bool false]) ∧ w' = w := by
  go_enter Tryz.func157, Tryz.ntmps157
  go_wp2
  go_ret2
  exact ⟨rfl, rfl⟩
theorem bool2w_p (w : World) : Calls Tryz.prog 155 #[.bool false] w fun e w' => e = .returned (.int .u32 0) ∧ w' = w := by
  go_enter Tryz.func155, Tryz.ntmps155
  go_wp2
  go_ret
  exact ⟨rfl, rfl⟩

set_option maxRecDepth 1000000 in
set_option maxHeartbeats 1000000 in
theorem atof32_p (w : World) (c0 : w.cell? ⟨15, 696, none⟩ = some (.int .u64 9223372036854775808)) (c1 : w.cell? ⟨15, 697, none⟩ = some (.int .u64 0)) (c2 : w.cell? ⟨5, 0, none⟩ = some (.bool true)) :
    Calls Tryz.prog 124 #[.string ⟨#[49, 46, 54, 55, 55, 55, 50, 49, 55, 101, 55]⟩] w fun e w' => e = .returned (.tuple #[.float .f32 1266679808, .int .i64 11, .nilIface]) ∧ ∃ n, w' = (w.alloc (.cells #[.int .u64 9223372036854775808, .int .u64 0, .int .i64 37] 208)).drewN n := by
  have hR : ∀ w, Calls Tryz.prog 153 #[.string ⟨#[49, 46, 54, 55, 55, 55, 50, 49, 55, 101, 55]⟩] w fun e w' => e = .returned (.tuple #[.int .u64 16777217, .int .i64 0, .bool false, .bool false, .bool false, .int .i64 11, .bool true]) ∧ w' = w := fun w => read_p w
  have hQ := parse32_at w c0 c1
  clear c0 c1
  go_enter Tryz.func124, Tryz.ntmps124
  go_wp2_with (first
    | (go_at_call 152; refine (special_p _).mono ?_; rintro e9 w9 ⟨rfl, hw9⟩; obtain rfl := hw9.symm)
    | (go_at_call 153; refine (hR _).mono ?_; rintro e9 w9 ⟨rfl, hw9⟩; obtain rfl := hw9.symm)
    | (go_at_call 157; refine (exact_p _).mono ?_; rintro e9 w9 ⟨rfl, hw9⟩; obtain rfl := hw9.symm)
    | (go_at_call 155; refine (bool2w_p _).mono ?_; rintro e9 w9 ⟨rfl, hw9⟩; obtain rfl := hw9.symm)
    | (go_at_call 158; refine hQ.mono ?_; rintro e9 w9 ⟨rfl, n9, rfl⟩))
  go_ret3
  exact ⟨rfl, _, rfl⟩

set_option maxRecDepth 1000000 in
theorem conv_p (w : World) : (convert 22 80 (.float .f32 1266679808)).run Tryz.prog w = .ok (.float .f64 4715268809856909312) w :=
  run_convert_float_float w 22 80 .f32 .f64 1266679808 4715268809856909312 (by kernel_rfl) Tryz.underlying80 (by decide)

set_option maxRecDepth 1000000 in
theorem prefix_p (w : World) (c0 : w.cell? ⟨15, 696, none⟩ = some (.int .u64 9223372036854775808)) (c1 : w.cell? ⟨15, 697, none⟩ = some (.int .u64 0)) (c2 : w.cell? ⟨5, 0, none⟩ = some (.bool true)) :
    Calls Tryz.prog 99 #[.string ⟨#[49, 46, 54, 55, 55, 55, 50, 49, 55, 101, 55]⟩, .int .i64 32] w fun e w' => e = .returned (.tuple #[.float .f64 4715268809856909312, .int .i64 11, .nilIface]) ∧ ∃ n, w' = (w.alloc (.cells #[.int .u64 9223372036854775808, .int .u64 0, .int .i64 37] 208)).drewN n := by
  have hQ := atof32_p w c0 c1 c2
  have hC := conv_p
  clear c0 c1 c2
  go_enter Tryz.func99, Tryz.ntmps99
  go_wp2_with (first | (go_at_call 124; refine hQ.mono ?_; rintro e9 w9 ⟨rfl, n9, rfl⟩))
  go_ret3
  exact ⟨rfl, _, rfl⟩
set_option maxRecDepth 1000000 in
theorem ipf_p (w : World) (c0 : w.cell? ⟨15, 696, none⟩ = some (.int .u64 9223372036854775808)) (c1 : w.cell? ⟨15, 697, none⟩ = some (.int .u64 0)) (c2 : w.cell? ⟨5, 0, none⟩ = some (.bool true)) :
    Calls Tryz.prog 79 #[.string ⟨#[49, 46, 54, 55, 55, 55, 50, 49, 55, 101, 55]⟩, .int .i64 32] w fun e w' => e = .returned (.tuple #[.float .f64 4715268809856909312, .nilIface]) ∧ ∃ n, w' = (w.alloc (.cells #[.int .u64 9223372036854775808, .int .u64 0, .int .i64 37] 208)).drewN n := by
  have hQ := prefix_p w c0 c1 c2
  clear c0 c1 c2
  go_enter Tryz.func79, Tryz.ntmps79
  go_wp2_with (first | (go_at_call 99; refine hQ.mono ?_; rintro e9 w9 ⟨rfl, n9, rfl⟩))
  go_ret2
  exact ⟨rfl, _, rfl⟩
set_option maxRecDepth 1000000 in
theorem pf_p (w : World) (c0 : w.cell? ⟨15, 696, none⟩ = some (.int .u64 9223372036854775808)) (c1 : w.cell? ⟨15, 697, none⟩ = some (.int .u64 0)) (c2 : w.cell? ⟨5, 0, none⟩ = some (.bool true)) :
    Calls Tryz.prog 55 #[.string ⟨#[49, 46, 54, 55, 55, 55, 50, 49, 55, 101, 55]⟩, .int .i64 32] w fun e w' => e = .returned (.tuple #[.float .f64 4715268809856909312, .nilIface]) ∧ ∃ n, w' = (w.alloc (.cells #[.int .u64 9223372036854775808, .int .u64 0, .int .i64 37] 208)).drewN n := by
  have hQ := ipf_p w c0 c1 c2
  clear c0 c1 c2
  go_enter Tryz.func55, Tryz.ntmps55
  go_wp2_with (first | (go_at_call 79; refine hQ.mono ?_; rintro e9 w9 ⟨rfl, n9, rfl⟩))
  go_ret2
  exact ⟨rfl, _, rfl⟩
end Go.Proofs.YtnljpbpphdhnpaaGreatDoor



/- The library's Cut at one byte; the program's allDigits. -/
namespace Go.Proofs.YtnljpbpphdhnpaaGreatDoor
open Go.RowKit Go.PlainAid

theorem index_at (s : ByteArray) (c : UInt8) (i : Int) (h : Lib.indexByte s.data.toList c = i) (w : World) : Calls Tryz.prog 95 #[.string s, .string ⟨#[c]⟩] w fun e w' => e = .returned (.int .i64 i) ∧ w' = w := by
  rw [← h]; exact Tryz.stringslite_Index_one s c w

set_option maxRecDepth 1000000 in
theorem icut_none (s : ByteArray) (c : UInt8) (h : Lib.indexByte s.data.toList c = -1) (w : World) : Calls Tryz.prog 71 #[.string s, .string ⟨#[c]⟩] w fun e w' => e = .returned (.tuple #[.string s, .string ⟨#[]⟩, .bool false]) ∧ w' = w := by
  have hI := index_at s c (-1) h
  go_enter Tryz.func71, Tryz.ntmps71
  go_wp2_with (first | (go_at_call 95; refine (hI _).mono ?_; rintro e9 w9 ⟨rfl, hw9⟩; obtain rfl := hw9.symm))
  go_ret3
  exact ⟨rfl, rfl⟩
theorem cut_none (s : ByteArray) (c : UInt8) (h : Lib.indexByte s.data.toList c = -1) (w : World) : Calls Tryz.prog 50 #[.string s, .string ⟨#[c]⟩] w fun e w' => e = .returned (.tuple #[.string s, .string ⟨#[]⟩, .bool false]) ∧ w' = w := by
  have hI := icut_none s c h
  go_enter Tryz.func50, Tryz.ntmps50
  go_wp2_with (first | (go_at_call 71; refine (hI _).mono ?_; rintro e9 w9 ⟨rfl, hw9⟩; obtain rfl := hw9.symm))
  go_ret3
  exact ⟨rfl, rfl⟩
set_option maxRecDepth 1000000 in
theorem icut_at (s : ByteArray) (c : UInt8) (i : Nat) (hi : i < s.size) (hs : s.size ≤ maxLen) (h : Lib.indexByte s.data.toList c = (i : Int)) (w : World) : Calls Tryz.prog 71 #[.string s, .string ⟨#[c]⟩] w fun e w' => e = .returned (.tuple #[.string (s.extract 0 i), .string (s.extract (i + 1) s.size), .bool true]) ∧ ∃ n, w' = w.drewN n := by
  have hI := index_at s c i h
  have hs' : s.size ≤ 9223372036854775807 := hs
  have h1 : (i : Int) < (s.size : Int) := by omega
  have h2 : (i : Int) + 1 ≤ (s.size : Int) := by omega
  go_enter Tryz.func71, Tryz.ntmps71
  go_wp2_with (first | (go_at_call 95; refine (hI _).mono ?_; rintro e9 w9 ⟨rfl, hw9⟩; obtain rfl := hw9.symm))
  go_quiet (fail)
  go_wp2
  go_ret3
  exact ⟨rfl, _, rfl⟩
theorem cut_at (s : ByteArray) (c : UInt8) (i : Nat) (hi : i < s.size) (hs : s.size ≤ maxLen) (h : Lib.indexByte s.data.toList c = (i : Int)) (w : World) : Calls Tryz.prog 50 #[.string s, .string ⟨#[c]⟩] w fun e w' => e = .returned (.tuple #[.string (s.extract 0 i), .string (s.extract (i + 1) s.size), .bool true]) ∧ ∃ n, w' = w.drewN n := by
  have hI := icut_at s c i hi hs h
  go_enter Tryz.func50, Tryz.ntmps50
  go_wp2_with (first | (go_at_call 71; refine (hI _).mono ?_; rintro e9 w9 ⟨rfl, n9, rfl⟩))
  go_ret3
  exact ⟨rfl, _, rfl⟩

set_option maxRecDepth 1000000 in
theorem allDigits_yes (s : ByteArray) (h0 : 0 < s.size) (hall : ∀ j, j < s.size → 48 ≤ bt s j ∧ bt s j ≤ 57) (hs : s.size ≤ maxLen) (w : World) : Calls Tryz.prog 51 #[.string s] w fun e w' => e = .returned (.bool true) ∧ w' = w := by
  have HG : Hid (∀ i (h : i < s.size), ((s[i]'h).toNat : Int) = bt s i) := get_bt s
  have HA : Hid (∀ j, j < s.size → 48 ≤ bt s j ∧ bt s j ≤ 57) := hall
  have hne : s.toList.isEmpty = false := by
    have hl : s.toList.length = s.size := by rw [ByteArray.toList_eq]; exact Array.length_toList
    cases he : s.toList with
    | nil => rw [he] at hl; simp at hl; omega
    | cons x l => rfl
  have hs' : s.size ≤ 9223372036854775807 := hs
  clear hall
  go_enter Tryz.func51, Tryz.ntmps51
  go_wp2
  go_loop [6] (fun i => ∃ k : Nat, k ≤ s.size ∧ i = .int .i64 k) (fun i => s.size - (intOf i).toNat)
  case atStart => exact ⟨0, Nat.zero_le _, rfl⟩
  case round =>
    obtain ⟨k, hk, rfl⟩ := hrel
    by_cases hlt : k < s.size
    · have hki : (k : Int) < (s.size : Int) := by omega
      have gk : ((s[k]'hlt).toNat : Int) = bt s k := HG.out k hlt
      obtain ⟨r1, r2⟩ := HA.out k hlt
      generalize bt s k = c at *
      go_wp2
      go_round
      case rel => exact ⟨k + 1, by omega, by go_num⟩
      case measure => simp [intOf]; omega
    · go_wp2
      go_ret
      exact ⟨rfl, rfl⟩
theorem atMostFar_none (w : World) : Calls Tryz.prog 52 #[.string ⟨#[]⟩] w fun e w' => e = .returned (.int .i64 0) ∧ w' = w := by
  go_enter Tryz.func52, Tryz.ntmps52
  go_wp2
  go_rounds 1
  go_ret
  exact ⟨rfl, rfl⟩
end Go.Proofs.YtnljpbpphdhnpaaGreatDoor


