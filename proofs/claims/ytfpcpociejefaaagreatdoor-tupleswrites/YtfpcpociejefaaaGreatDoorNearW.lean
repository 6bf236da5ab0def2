/- Doublings and halvings of reals of 64 bits, exact; the way from there to 32 bits. -/
import Derived.Test.YtfpcpociejefaaaGreatDoorPsC
import Derived.Test.YtfpcpociejefaaaGreatDoorShB
import Derived.Test.YtfpcpociejefaaaGreatDoorBigH

namespace Go.Proofs.YtfpcpociejefaaaGreatDoor
open Go.RowKit Go.PlainAid Go.Lib
/-- the bits of M * 2^(E - 52), M with 53 digits -/
def wD (M : Nat) (E : Int) : Nat := (E + 1022).toNat * 4503599627370496 + M
theorem dconsts : Ieee.double.binade = 4503599627370496 ∧ Ieee.double.infRung = 9218868437227405312 ∧ Ieee.double.leastPlace = -1074 ∧ Ieee.double.signWeight = 9223372036854775808 := by decide
theorem log2_eq {n k : Nat} (h1 : 2 ^ k ≤ n) (h2 : n < 2 ^ (k + 1)) : n.log2 = k := by
 have h0 : n ≠ 0 := by have := Nat.two_pow_pos k; omega
 have a1 : n.log2 < k + 1 := (Nat.log2_lt h0).2 h2
 have a2 : ¬ n.log2 < k := fun h => by have := (Nat.log2_lt h0).1 h; omega
 omega
theorem cut_exact (s : Bool) (M t L : Nat) (_hM : 0 < M) (hL : (M * 2 ^ t).log2 = L) (ht : t ≤ L + 2) : Ieee.Toward.cut .even s (M * 2 ^ t) t = M := by
 have hp : 0 < 2 ^ t := Nat.two_pow_pos t
 unfold Ieee.Toward.cut
 simp only [Nat.one_shiftLeft, hL]
 rw [Nat.min_eq_left ht, Nat.mul_div_cancel _ hp, Nat.mul_mod_left]
 have h1 : decide (2 ^ t < 2 * 0) = false := by simp
 have h2 : (2 ^ t == 2 * 0) = false := by simp
 rw [h1, h2]
 rfl
theorem nearD (M t : Nat) (E place : Int) (h1 : 4503599627370496 ≤ M) (h2 : M < 9007199254740992) (hE : place + 52 + t = E) (lo : -1022 ≤ E) (hi : E ≤ 1023) : Ieee.double.nearest false (M * 2 ^ t) place = wD M E := by
 obtain ⟨c1, c2, c3, c4⟩ := dconsts
 have hp : 0 < 2 ^ t := Nat.two_pow_pos t
 have hlog : (M * 2 ^ t).log2 = 52 + t := by
  apply log2_eq
  ·rw [Nat.pow_add]; exact Nat.mul_le_mul_right _ h1
  ·rw [show 52 + t + 1 = 53 + t by omega, Nat.pow_add]; exact Nat.mul_lt_mul_of_pos_right h2 hp
 have hne : M * 2 ^ t ≠ 0 := by
  have := Nat.mul_pos (show 0 < M by omega) hp
  omega
 unfold Ieee.Format.nearest
 rw [if_neg hne]
 simp only [c1, c2, c3, hlog, show Ieee.double.fractionBits = 52 from rfl]
 rw [show max (place + ((52 + t : Nat) : Int) - ((52 : Nat) : Int)) (-1074) = place + t by omega]
 rw [show (place - (place + (t : Int))).toNat = 0 by omega, show (place + (t : Int) - place).toNat = t by omega, Nat.shiftLeft_eq, Nat.pow_zero, Nat.mul_one]
 rw [cut_exact false M t (52 + t) (by omega) hlog (by omega)]
 rw [show (place + (t : Int) - -1074).toNat = (E + 1022).toNat by omega]
 unfold Ieee.Format.word wD
 simp only [Bool.false_eq_true, if_false]
 rw [Nat.min_eq_left]
 have : (E + 1022).toNat ≤ 2045 := by omega
 omega
/-- a small whole number as a real of 64 bits -/
theorem nearS (m : Nat) (h0 : 0 < m) (hm : m < 16777216) : Ieee.double.nearest false m 0 = wD (m * 2 ^ (52 - m.log2)) (m.log2 : Int) ∧ 4503599627370496 ≤ m * 2 ^ (52 - m.log2) ∧ m * 2 ^ (52 - m.log2) < 9007199254740992 ∧ m.log2 ≤ 23 := by
 obtain ⟨c1, c2, c3, c4⟩ := dconsts
 have hlo : 2 ^ m.log2 ≤ m := Nat.log2_self_le (by omega)
 have hhi : m < 2 ^ (m.log2 + 1) := Nat.lt_log2_self
 have hL : m.log2 < 24 := (Nat.log2_lt (by omega)).2 hm
 generalize hl : m.log2 = L at hlo hhi hL
 have k1 : 2 ^ L * 2 ^ (52 - L) ≤ m * 2 ^ (52 - L) := Nat.mul_le_mul_right _ hlo
 rw [← Nat.pow_add, show L + (52 - L) = 52 by omega] at k1
 have k2 : m * 2 ^ (52 - L) < 2 ^ (L + 1) * 2 ^ (52 - L) := Nat.mul_lt_mul_of_pos_right hhi (Nat.two_pow_pos _)
 rw [← Nat.pow_add, show L + 1 + (52 - L) = 53 by omega] at k2
 refine ⟨?_, k1, k2, by omega⟩
 unfold Ieee.Format.nearest
 rw [if_neg (by omega)]
 simp only [c1, c2, c3, hl, show Ieee.double.fractionBits = 52 from rfl]
 rw [show max ((0 : Int) + (L : Int) - ((52 : Nat) : Int)) (-1074) = (L : Int) - 52 by omega]
 rw [show ((0 : Int) - ((L : Int) - 52)).toNat = 52 - L by omega, show (((L : Int) - 52) - 0).toNat = 0 by omega, Nat.shiftLeft_eq]
 have hcut : Ieee.Toward.cut .even false (m * 2 ^ (52 - L)) 0 = m * 2 ^ (52 - L) := by
  unfold Ieee.Toward.cut
  simp [Nat.mod_one]
 rw [hcut, show (((L : Int) - 52) - -1074).toNat = ((L : Int) + 1022).toNat by omega]
 unfold Ieee.Format.word wD
 simp only [Bool.false_eq_true, if_false]
 rw [Nat.min_eq_left]
 have : ((L : Int) + 1022).toNat ≤ 1046 := by omega
 have k3 : m * 2 ^ (52 - L) < 9007199254740992 := k2
 omega
theorem readD (M : Nat) (E : Int) (h1 : 4503599627370496 ≤ M) (h2 : M < 9007199254740992) (lo : -1022 ≤ E) (hi : E ≤ 1023) : Ieee.double.read (wD M E) = .number false M (E - 52) := by
 obtain ⟨c1, c2, c3, c4⟩ := dconsts
 obtain ⟨q, hq⟩ : ∃ q : Nat, (E + 1022).toNat = q := ⟨_, rfl⟩
 have hq2 : q ≤ 2045 := by omega
 unfold wD
 rw [hq]
 unfold Ieee.Format.read
 simp only [c1, c2, c3, c4]
 rw [show (q * 4503599627370496 + M) % 9223372036854775808 = q * 4503599627370496 + M by omega, show (q * 4503599627370496 + M) / 9223372036854775808 % 2 = 0 by omega]
 rw [if_neg (by omega), if_pos (by omega), show (q * 4503599627370496 + M) % 4503599627370496 = M - 4503599627370496 by omega, show (q * 4503599627370496 + M) / 4503599627370496 - 1 = q by omega]
 rw [show 4503599627370496 + (M - 4503599627370496) = M by omega, show (-1074 : Int) + (q : Int) = E - 52 by omega]
 rfl
theorem read2 : Ieee.double.read 4611686018427387904 = .number false 4503599627370496 (-51) := by decide
theorem mul2 (M : Nat) (E : Int) (h1 : 4503599627370496 ≤ M) (h2 : M < 9007199254740992) (lo : -1022 ≤ E) (hi : E ≤ 1022) : Ieee.double.mul (wD M E) 4611686018427387904 = some (wD M (E + 1)) := by
 unfold Ieee.Format.mul
 rw [readD M E h1 h2 lo (by omega), read2]
 simp only [Ieee.Datum.product, Option.map_some, Ieee.Format.write]
 congr 1
 exact nearD M 52 (E + 1) _ h1 h2 (by omega) (by omega) (by omega)
theorem div2 (M : Nat) (E : Int) (h1 : 4503599627370496 ≤ M) (h2 : M < 9007199254740992) (lo : -1021 ≤ E) (hi : E ≤ 1023) : Ieee.double.div (wD M E) 4611686018427387904 = some (wD M (E - 1)) := by
 unfold Ieee.Format.div
 rw [readD M E h1 h2 (by omega) hi, read2]
 have hlM : M.log2 = 52 := log2_eq h1 h2
 have hl2 : (4503599627370496 : Nat).log2 = 52 := by decide
 simp only [Ieee.Datum.quotient, hlM, hl2, show Ieee.double.fractionBits = 52 from rfl]
 rw [if_neg (by decide)]
 simp only [Option.map_some, Ieee.Format.write, Nat.shiftLeft_eq]
 congr 1
 have e1 : M * 2 ^ (52 + 2 + 52 - 52) / 4503599627370496 = M * 4 := by
  rw [show M * 2 ^ (52 + 2 + 52 - 52) = M * 4 * 4503599627370496 by rw [Nat.mul_assoc]]
  exact Nat.mul_div_cancel _ (by omega)
 have e2 : M * 2 ^ (52 + 2 + 52 - 52) % 4503599627370496 = 0 := by
  rw [show M * 2 ^ (52 + 2 + 52 - 52) = M * 4 * 4503599627370496 by rw [Nat.mul_assoc]]
  exact Nat.mul_mod_left _ _
 rw [e1, e2]
 rw [show 2 * (M * 4) + ((0 : Nat) != 0).toNat = M * 2 ^ 3 by simp; omega]
 exact nearD M 3 (E - 1) _ h1 h2 (by omega) (by omega) (by omega)
/-- what a rung of 32 bits is worth, and the way back from 64 bits -/
def atM (n : Nat) : Nat := if n < 8388608 then n else 8388608 + n % 8388608
def atE (n : Nat) : Int := if n < 8388608 then -149 else (n / 8388608 : Nat) - 150
theorem toSingle (n : Nat) (h0 : 0 < n) (hn : n < 2139095040) : Ieee.single.nearest false (atM n * 2 ^ (52 - (atM n).log2)) (((atM n).log2 : Int) + atE n - 52) = n := by
 have e2 : Ieee.single.binade = 8388608 := by decide
 have e3 : Ieee.single.infRung = 2139095040 := by decide
 have e4 : Ieee.single.leastPlace = -149 := by decide
 have hm0 : 0 < atM n := by unfold atM; split <;> omega
 have hm1 : atM n < 16777216 := by unfold atM; split <;> omega
 obtain ⟨_, k1, k2, k3⟩ := nearS (atM n) hm0 hm1
 generalize hL : (atM n).log2 = L at k1 k2 k3
 have hlog : (atM n * 2 ^ (52 - L)).log2 = 52 := log2_eq k1 k2
 unfold Ieee.Format.nearest
 rw [if_neg (by omega)]
 simp only [e2, e3, e4, hlog, show Ieee.single.fractionBits = 23 from rfl]
 by_cases hs : n < 8388608
 ·have hE : atE n = -149 := by unfold atE; rw [if_pos hs]
  have hM : atM n = n := by unfold atM; rw [if_pos hs]
  have hL22 : L ≤ 22 := by
   rw [← hL, hM]
   have := (Nat.log2_lt (show n ≠ 0 by omega)).2 (show n < 2 ^ 23 from hs)
   omega
  rw [hE]
  rw [show max ((L : Int) + -149 - 52 + ((52 : Nat) : Int) - ((23 : Nat) : Int)) (-149) = -149 by omega]
  rw [show ((L : Int) + -149 - 52 - -149).toNat = 0 by omega, show ((-149 : Int) - ((L : Int) + -149 - 52)).toNat = 52 - L by omega, Nat.shiftLeft_eq, Nat.pow_zero, Nat.mul_one]
  rw [cut_exact false (atM n) (52 - L) 52 hm0 hlog (by omega), hM]
  unfold Ieee.Format.word
  simp
  omega
 ·have hE : atE n = (n / 8388608 : Nat) - 150 := by unfold atE; rw [if_neg hs]
  have hM : atM n = 8388608 + n % 8388608 := by unfold atM; rw [if_neg hs]
  have hL23 : L = 23 := by
   rw [← hL, hM]
   exact log2_eq (by omega) (by omega)
  subst hL23
  rw [hE]
  rw [show max (((23 : Nat) : Int) + (((n / 8388608 : Nat) : Int) - 150) - 52 + ((52 : Nat) : Int) - ((23 : Nat) : Int)) (-149) = ((n / 8388608 : Nat) : Int) - 150 by omega]
  rw [show (((23 : Nat) : Int) + (((n / 8388608 : Nat) : Int) - 150) - 52 - (((n / 8388608 : Nat) : Int) - 150)).toNat = 0 by omega, show ((((n / 8388608 : Nat) : Int) - 150) - (((23 : Nat) : Int) + (((n / 8388608 : Nat) : Int) - 150) - 52)).toNat = 29 by omega, Nat.shiftLeft_eq, Nat.pow_zero, Nat.mul_one]
  rw [cut_exact false (atM n) 29 52 hm0 hlog (by omega), hM]
  rw [show ((((n / 8388608 : Nat) : Int) - 150) - -149).toNat = n / 8388608 - 1 by omega]
  unfold Ieee.Format.word
  simp only [Bool.false_eq_true, if_false]
  rw [Nat.min_eq_left] <;> omega
end Go.Proofs.YtfpcpociejefaaaGreatDoor

/- The real of a number: the steps from its digits in 64 bits to its 32 bits. -/
namespace Go.Proofs.YtfpcpociejefaaaGreatDoor
open Go.RowKit Go.PlainAid Go.Lib
/-- the digits of the rung n, k doublings on, in 64 bits -/
def fD (n : Nat) (k : Int) : Nat := if atM n = 0 then 0 else wD (atM n * 2 ^ (52 - (atM n).log2)) (((atM n).log2 : Int) + k)
theorem atM_lt (n : Nat) : atM n < 16777216 := by unfold atM; split <;> omega
theorem atE_lo (n : Nat) : -149 ≤ atE n := by unfold atE; split <;> omega
theorem atE_hi (n : Nat) (h : n < 2139095040) : atE n ≤ 104 := by unfold atE; split <;> omega
theorem fD_start (n : Nat) : floatOfInt .f64 ((atM n : Nat) : Int) = fD n 0 := by
 show Ieee.double.nearest (decide (((atM n : Nat) : Int) < 0)) ((atM n : Nat) : Int).natAbs 0 = _
 rw [show decide (((atM n : Nat) : Int) < 0) = false by simp, Int.natAbs_natCast]
 unfold fD
 by_cases h : atM n = 0
 ·rw [if_pos h, h]; decide
 ·rw [if_neg h, (nearS (atM n) (by omega) (atM_lt n)).1, Int.add_zero]
theorem fD_mul (n : Nat) (k : Int) (h0 : 0 ≤ k) (h1 : k < 104) : floatBits .mul .f64 (fD n k) 4611686018427387904 = some (fD n (k + 1)) := by
 show Ieee.double.mul _ _ = _
 unfold fD
 by_cases h : atM n = 0
 ·rw [if_pos h, if_pos h]; decide
 ·rw [if_neg h, if_neg h]
  obtain ⟨_, k1, k2, k3⟩ := nearS (atM n) (by omega) (atM_lt n)
  rw [mul2 _ _ k1 k2 (by omega) (by omega), Int.add_assoc]
theorem fD_div (n : Nat) (k : Int) (h0 : -149 ≤ k) (h1 : k ≤ 104) : floatBits .quo .f64 (fD n k) 4611686018427387904 = some (fD n (k - 1)) := by
 show Ieee.double.div _ _ = _
 unfold fD
 by_cases h : atM n = 0
 ·rw [if_pos h, if_pos h]; decide
 ·rw [if_neg h, if_neg h]
  obtain ⟨_, k1, k2, k3⟩ := nearS (atM n) (by omega) (atM_lt n)
  rw [div2 _ _ k1 k2 (by omega) (by omega)]
  congr 2
  omega
theorem fD_end (n : Nat) (h : n < 2139095040) : floatToFloatBits .f64 (fD n (atE n)) .f32 = some n := by
 unfold floatToFloatBits
 rw [if_neg (by decide)]
 show (match Ieee.double.read (fD n (atE n)) with | .nan _ _ => none | .infinity s => some (Ieee.single.write (.infinity s)) | .number s m e => if (Ieee.single.read (Ieee.single.write (.number s m e))).isInfinity then none else some (Ieee.single.write (.number s m e))) = _
 unfold fD
 by_cases h0 : atM n = 0
 ·have hn : n = 0 := by unfold atM at h0; split at h0 <;> omega
  subst hn
  decide
 ·rw [if_neg h0]
  have hn0 : 0 < n := by
   rcases Nat.eq_zero_or_pos n with hz | hz
   ·subst hz; exact absurd (by decide) h0
   ·exact hz
  obtain ⟨_, k1, k2, k3⟩ := nearS (atM n) (by omega) (atM_lt n)
  have a1 := atE_lo n
  have a2 := atE_hi n h
  rw [readD _ _ k1 k2 (by omega) (by omega)]
  have hw : Ieee.single.write (.number false (atM n * 2 ^ (52 - (atM n).log2)) (((atM n).log2 : Int) + atE n - 52)) = n := toSingle n hn0 h
  simp only [hw]
  obtain ⟨m, up, hr, _⟩ := read_num n (by unfold rungN; omega)
  rw [hr]
  rfl
end Go.Proofs.YtfpcpociejefaaaGreatDoor

/- The reference's At and Float: the real of a number. -/
namespace Go.Proofs.YtfpcpociejefaaaGreatDoor
open Go.RowKit Go.PlainAid Go.Lib
theorem at_any (n : Nat) (h : n < 2139095040) (w : World) : Calls Tryz.prog 116 #[.int .u32 (n : Int)] w fun e w' => e = .returned (.tuple #[.int .u64 (atM n : Nat), .int .i64 (atE n)]) ∧ w' = w := by
 by_cases hs : n < 8388608
 ·have h1 : (n : Int) < 8388608 := by omega
  have hM : atM n = n := by unfold atM; rw [if_pos hs]
  have hE : atE n = -149 := by unfold atE; rw [if_pos hs]
  rw [hM, hE]
  go_enter Tryz.func116, Tryz.ntmps116
  go_wp2
  go_ret2
  refine ⟨?_, rfl⟩
  go_num
 ·have h1 : ¬ (n : Int) < 8388608 := by omega
  have hM : atM n = 8388608 + n % 8388608 := by unfold atM; rw [if_neg hs]
  have hE : atE n = (n / 8388608 : Nat) - 150 := by unfold atE; rw [if_neg hs]
  rw [hM, hE]
  go_enter Tryz.func116, Tryz.ntmps116
  go_wp2
  go_ret2
  refine ⟨?_, rfl⟩
  go_num
theorem u64f64 (m : Nat) (w : World) : (convert 57 149 (.int .u64 (m : Int))).run Tryz.prog w = .ok (.float .f64 (floatOfInt .f64 (m : Int))) w := run_convert_int_float w 57 149 .u64 .f64 m (by kernel_rfl) Tryz.underlying149
theorem neg_low (n : Nat) (h : n < 2147483648) : Op.negFloat .f32 n = n + 2147483648 := by
 show n ^^^ 2147483648 = _
 rw [show (2147483648 : Nat) = 2 ^ 31 from rfl]
 have h2 : n ^^^ 2 ^ 31 = n ||| 2 ^ 31 := by
  apply Nat.eq_of_testBit_eq
  intro i
  rw [Nat.testBit_xor, Nat.testBit_or, Nat.testBit_two_pow]
  by_cases hi : 31 = i
  ·subst hi
   rw [Nat.testBit_lt_two_pow (show n < 2 ^ 31 from h)]
   rfl
  ·rw [show decide (31 = i) = false by simpa using hi]
   cases n.testBit i <;> rfl
 have h3 := Nat.two_pow_add_eq_or_of_lt (show n < 2 ^ 31 from h) 1
 rw [Nat.mul_one] at h3
 rw [h2, Nat.or_comm, ← h3]
 omega
set_option maxHeartbeats 1600000 in
theorem float_low (neg : Bool) (n : Nat) (h : n < 2139095040) (w : World) : Calls Tryz.prog 115 #[.bool neg, .int .u32 (n : Int)] w fun e w' => e = .returned (.float .f32 (if neg then n + 2147483648 else n)) ∧ w' = w := by
 have hA := at_any n h
 have h1 : ¬ (2139095040 ≤ (n : Int)) := by omega
 have hc := u64f64 (atM n)
 rw [fD_start] at hc
 have hm : ∀ (k : Int), 0 ≤ k → k < 104 → ∀ w, (binOp .mul 149 (.float .f64 (fD n k)) (.float .f64 4611686018427387904)).run Tryz.prog w = .ok (.float .f64 (fD n (k + 1))) w := fun k p q w => run_float_arith w .mul 149 .f64 _ _ _ (fD_mul n k p q)
 have hd : ∀ (k : Int), -149 ≤ k → k ≤ 104 → ∀ w, (binOp .quo 149 (.float .f64 (fD n k)) (.float .f64 4611686018427387904)).run Tryz.prog w = .ok (.float .f64 (fD n (k - 1))) w := fun k p q w => run_float_arith w .quo 149 .f64 _ _ _ (fD_div n k p q)
 have he : ∀ w, (convert 149 58 (.float .f64 (fD n (atE n)))).run Tryz.prog w = .ok (.float .f32 n) w := fun w => run_convert_float_float w 149 58 .f64 .f32 _ _ (by kernel_rfl) Tryz.underlying58 (fD_end n h)
 have hn := neg_low n (by omega)
 have a1 := atE_lo n
 have a2 := atE_hi n h
 generalize atE n = E at *
 generalize atM n = M at *
 generalize fD n = F at *
 have HM : Hid (∀ (k : Int), 0 ≤ k → k < 104 → ∀ w, (binOp .mul 149 (.float .f64 (F k)) (.float .f64 4611686018427387904)).run Tryz.prog w = .ok (.float .f64 (F (k + 1))) w) := hm
 have HD : Hid (∀ (k : Int), -149 ≤ k → k ≤ 104 → ∀ w, (binOp .quo 149 (.float .f64 (F k)) (.float .f64 4611686018427387904)).run Tryz.prog w = .ok (.float .f64 (F (k - 1))) w) := hd
 have HE : Hid (∀ w, (convert 149 58 (.float .f64 (F E))).run Tryz.prog w = .ok (.float .f32 n) w) := he
 have HN : Hid (Op.negFloat .f32 n = n + 2147483648) := hn
 clear hm hd he hn h
 go_enter Tryz.func115, Tryz.ntmps115
 go_wp2_with (first | (go_at_call 116; refine (hA _).mono ?_; rintro e9 w9 ⟨rfl, hw9⟩; obtain rfl := hw9.symm))
 go_loop [9, 10] (fun fv iv => ∃ k : Nat, iv = .int .i64 (k : Int) ∧ fv = .float .f64 (F (k : Int)) ∧ (k = 0 ∨ (k : Int) ≤ E)) (fun _ iv => (E - RowKit.intOf iv).toNat)
 case atStart => exact ⟨0, rfl, rfl, .inl rfl⟩
 case round =>
  obtain ⟨k, rfl, rfl, hk⟩ := hrel
  by_cases hlt : (k : Int) < E
  ·have hmk := HM.out (k : Int) (by omega) (by omega)
   go_wp2
   go_round
   case rel => exact ⟨k + 1, by go_num, rfl, .inr (by omega)⟩
   case measure => simp [RowKit.intOf]; omega
  ·go_wp2
   go_loop [9, 11] (fun fv iv => ∃ i : Int, iv = .int .i64 i ∧ E ≤ i ∧ (i ≤ 0 ∨ i = E) ∧ fv = .float .f64 (F ((k : Int) + E - i))) (fun _ iv => (- RowKit.intOf iv).toNat)
   case atStart => exact ⟨E, rfl, by omega, .inr rfl, by rw [show (k : Int) + E - E = k by omega]⟩
   case round =>
    obtain ⟨i, rfl, hi1, hi2, rfl⟩ := hrel
    by_cases hi : i < 0
    ·have hdk := HD.out ((k : Int) + E - i) (by omega) (by omega)
     go_wp2
     go_round
     case rel => exact ⟨i + 1, by go_num, by omega, .inl (by omega), by rw [show (k : Int) + E - i - 1 = k + E - (i + 1) by omega]⟩
     case measure => simp [RowKit.intOf]; omega
    ·have hce := HE.out
     rw [show (k : Int) + E - i = E by omega]
     have hng : ∀ w, (Op.unary .neg (.float .f32 n)).run Tryz.prog w = .ok (.float .f32 (n + 2147483648)) w := fun w => by
      show (pure (Value.float .f32 (Op.negFloat .f32 n)) : Sem Value).run Tryz.prog w = _
      rw [HN.out]
      rfl
     cases neg
     ·go_wp2
      go_ret
      exact ⟨rfl, rfl⟩
     ·go_wp2
      go_ret
      exact ⟨rfl, rfl⟩
end Go.Proofs.YtfpcpociejefaaaGreatDoor

/- The reference's Float at every number, Number, IsNan, Below, Same. -/
namespace Go.Proofs.YtfpcpociejefaaaGreatDoor
open Go.RowKit Go.PlainAid Go.Lib
set_option maxHeartbeats 1600000 in
theorem float_over (neg : Bool) (n : Nat) (h : 2139095040 ≤ n) (w : World) : Calls Tryz.prog 115 #[.bool neg, .int .u32 (n : Int)] w fun e w' => e = .returned (.float .f32 (if neg then 4286578688 else 2139095040)) ∧ w' = w := by
 have h1 : 2139095040 ≤ (n : Int) := by omega
 have hq : ∀ w, (binOp .quo 58 (.float .f32 1065353216) (.float .f32 0)).run Tryz.prog w = .ok (.float .f32 2139095040) w := fun w => run_float_arith w .quo 58 .f32 _ _ _ (by decide)
 have hng : ∀ w, (Op.unary .neg (.float .f32 2139095040)).run Tryz.prog w = .ok (.float .f32 4286578688) w := fun w => rfl
 cases neg
 ·go_enter Tryz.func115, Tryz.ntmps115
  go_wp2
  go_ret
  exact ⟨rfl, rfl⟩
 ·go_enter Tryz.func115, Tryz.ntmps115
  go_wp2
  go_ret
  exact ⟨rfl, rfl⟩
/-- Float of a number up to the infinite one's -/
theorem float_any (neg : Bool) (n : Nat) (h : n ≤ 2139095040) (w : World) : Calls Tryz.prog 115 #[.bool neg, .int .u32 (n : Int)] w fun e w' => e = .returned (.float .f32 (if neg then n + 2147483648 else n)) ∧ w' = w := by
 by_cases h1 : n < 2139095040
 ·exact float_low neg n h1 w
 ·obtain rfl : n = 2139095040 := by omega
  exact float_over neg _ (Nat.le_refl _) w
theorem rlt_any (a b : Nat) (ha : rungN a ≤ 2139095040) (hb : rungN b ≤ 2139095040) : (FloatKind.f32.format.order a b == some Ordering.lt) = decide (srungZ a < srungZ b) := by
 show (Ieee.single.order a b == some Ordering.lt) = _
 rw [order_any, if_neg (by omega)]
 rcases Int.lt_trichotomy (srungZ a) (srungZ b) with h | h | h
 ·rw [show compare (srungZ a) (srungZ b) = .lt from Int.compare_eq_lt.2 h, show decide (srungZ a < srungZ b) = true by simpa using h]; rfl
 ·rw [show compare (srungZ a) (srungZ b) = .eq from Int.compare_eq_eq.2 h, show decide (srungZ a < srungZ b) = false by simp; omega]; rfl
 ·rw [show compare (srungZ a) (srungZ b) = .gt from Int.compare_eq_gt.2 h, show decide (srungZ a < srungZ b) = false by simp; omega]; rfl
theorem req_any (a b : Nat) (ha : rungN a ≤ 2139095040) (hb : rungN b ≤ 2139095040) : (FloatKind.f32.format.order a b == some Ordering.eq) = decide (srungZ a = srungZ b) := by
 show (Ieee.single.order a b == some Ordering.eq) = _
 rw [order_any, if_neg (by omega)]
 rcases Int.lt_trichotomy (srungZ a) (srungZ b) with h | h | h
 ·rw [show compare (srungZ a) (srungZ b) = .lt from Int.compare_eq_lt.2 h, show decide (srungZ a = srungZ b) = false by simp; omega]; rfl
 ·rw [show compare (srungZ a) (srungZ b) = .eq from Int.compare_eq_eq.2 h, show decide (srungZ a = srungZ b) = true by simpa using h]; rfl
 ·rw [show compare (srungZ a) (srungZ b) = .gt from Int.compare_eq_gt.2 h, show decide (srungZ a = srungZ b) = false by simp; omega]; rfl
theorem neg_high (n : Nat) (h : 2147483648 ≤ n) (h2 : n < 4294967296) : Op.negFloat .f32 n = n - 2147483648 := by
 have h3 := neg_low (n - 2147483648) (by omega)
 have h4 : n - 2147483648 + 2147483648 = n := by omega
 rw [h4] at h3
 have h5 : Op.negFloat .f32 n = Op.negFloat .f32 (Op.negFloat .f32 (n - 2147483648)) := by rw [h3]
 rw [h5]
 show (n - 2147483648) ^^^ 2147483648 ^^^ 2147483648 = _
 rw [Nat.xor_assoc, Nat.xor_self, Nat.xor_zero]
theorem srung_low (n : Nat) (h : n < 2147483648) : srungZ n = n ∧ rungN n = n := by
 unfold srungZ rungN
 rw [if_neg (by omega)]
 omega
set_option maxHeartbeats 3200000 in
theorem number_any (x : Nat) (hx : x < 4294967296) (hn : nanB x = false) (w : World) : Calls Tryz.prog 99 #[.float .f32 x] w fun e w' => e = .returned (.int .u32 (rungN x : Nat)) ∧ w' = w := by
 have hr : rungN x ≤ 2139095040 := by simpa [nanB, rungN] using hn
 have hlt := rlt_any x 0 hr (by decide)
 rw [(srung_low 0 (by decide)).1] at hlt
 have key : ∀ y : Nat, rungN y = rungN x → srungZ y = (rungN x : Nat) → ∀ m : Nat, m ≤ 2139095040 → (FloatKind.f32.format.order m y == some Ordering.lt) = decide (m < rungN x) ∧ (FloatKind.f32.format.order m y == some Ordering.eq) = decide (m = rungN x) := fun y h1 h2 m hm => by
  have p1 : rungN m ≤ 2139095040 := by rw [(srung_low m (by omega)).2]; exact hm
  rw [rlt_any m y p1 (by rw [h1]; exact hr), req_any m y p1 (by rw [h1]; exact hr), (srung_low m (by omega)).1, h2]
  constructor
  ·simp
  ·simp; omega
 have hF := fun (m : Nat) (hm : m ≤ 2139095040) => float_any false m hm
 simp only [Bool.false_eq_true, if_false] at hF
 by_cases hb : srungZ x < ((0 : Nat) : Int)
 ·have hx2 : 2147483648 ≤ x := by
   unfold srungZ at hb
   split at hb <;> omega
  have hng : ∀ w, (Op.unary .neg (.float .f32 x)).run Tryz.prog w = .ok (.float .f32 (x - 2147483648)) w := fun w => by
   show (pure (Value.float .f32 (Op.negFloat .f32 x)) : Sem Value).run Tryz.prog w = _
   rw [neg_high x hx2 hx]
   rfl
  have k2 := key (x - 2147483648) (by unfold rungN; omega) (by rw [(srung_low _ (by omega)).1]; unfold rungN; omega)
  rw [show decide (srungZ x < ((0 : Nat) : Int)) = true by simpa using hb] at hlt
  have HK : Hid (∀ m : Nat, m ≤ 2139095040 → (FloatKind.f32.format.order m (x - 2147483648) == some Ordering.lt) = decide (m < rungN x) ∧ (FloatKind.f32.format.order m (x - 2147483648) == some Ordering.eq) = decide (m = rungN x)) := k2
  clear key hb hx2 k2 hn
  generalize rungN x = r at *
  generalize x - 2147483648 = y at *
  have HF : Hid (∀ (m : Nat), m ≤ 2139095040 → ∀ (w : World), Calls Tryz.prog 115 #[.bool false, .int .u32 (m : Int)] w fun e w' => e = .returned (.float .f32 m) ∧ w' = w) := hF
  clear hF
  go_enter Tryz.func99, Tryz.ntmps99
  go_wp2
  go_loop [3, 4] (fun lv hv => ∃ lo hi : Nat, lv = .int .u32 (lo : Int) ∧ hv = .int .u32 (hi : Int) ∧ lo ≤ r ∧ r < hi ∧ hi ≤ 2139095041) (fun lv hv => (RowKit.intOf hv - RowKit.intOf lv).toNat)
  case atStart => exact ⟨0, 2139095041, rfl, rfl, Nat.zero_le _, by omega, Nat.le_refl _⟩
  case round =>
   obtain ⟨lo, hi, rfl, rfl, l1, l2, l3⟩ := hrel
   by_cases hd : lo + 1 < hi
   ·have hdi : 1 < (hi : Int) - lo := by omega
    obtain ⟨m, hmid⟩ : ∃ m : Nat, m = lo + (hi - lo) / 2 := ⟨_, rfl⟩
    have hfm := HF.out m (by omega)
    obtain ⟨k1, k2⟩ := HK.out m (by omega)
    have hmz : (m : Int) = (lo : Int) + ((hi : Int) - lo) / 2 := by omega
    have HZ : Hid ((m : Int) = (lo : Int) + ((hi : Int) - lo) / 2 ∧ lo < m ∧ m < hi) := ⟨hmz, by omega, by omega⟩
    rw [hmz] at hfm
    clear hmz hmid
    rcases Nat.lt_trichotomy m r with hle | hle | hle
    ·rw [show decide (m < r) = true by simpa using hle] at k1
     clear k2
     go_wp2_with (go_at_call 115; refine (hfm _).mono ?_; rintro e9 w9 ⟨rfl, hw9⟩; obtain rfl := hw9.symm)
     go_round
     case rel => exact ⟨m, hi, by rw [HZ.out.1], rfl, by omega, l2, l3⟩
     case measure => have := HZ.out; simp only [RowKit.intOf]; omega
    ·rw [show decide (m < r) = false by simp; omega] at k1
     rw [show decide (m = r) = true by simpa using hle] at k2
     have HL : Hid (m = r) := hle
     clear hle
     go_wp2_with (go_at_call 115; refine (hfm _).mono ?_; rintro e9 w9 ⟨rfl, hw9⟩; obtain rfl := hw9.symm)
     go_round
     case rel => exact ⟨m, hi, by rw [HZ.out.1], rfl, by have := HL.out; omega, l2, l3⟩
     case measure => have := HZ.out; simp only [RowKit.intOf]; omega
    ·rw [show decide (m < r) = false by simp; omega] at k1
     rw [show decide (m = r) = false by simp; omega] at k2
     go_wp2_with (go_at_call 115; refine (hfm _).mono ?_; rintro e9 w9 ⟨rfl, hw9⟩; obtain rfl := hw9.symm)
     go_round
     case rel => exact ⟨lo, m, rfl, by rw [HZ.out.1], l1, by omega, by have := HZ.out; omega⟩
     case measure => have := HZ.out; simp only [RowKit.intOf]; omega
   ·have hdi : ¬ 1 < (hi : Int) - lo := by omega
    obtain rfl : lo = r := by omega
    go_wp2
    go_ret
    exact ⟨rfl, rfl⟩
 ·rw [show decide (srungZ x < ((0 : Nat) : Int)) = false by simpa using hb] at hlt
  have k2 := key x rfl (by unfold srungZ at hb ⊢; split at hb <;> simp_all <;> omega)
  have HK : Hid (∀ m : Nat, m ≤ 2139095040 → (FloatKind.f32.format.order m x == some Ordering.lt) = decide (m < rungN x) ∧ (FloatKind.f32.format.order m x == some Ordering.eq) = decide (m = rungN x)) := k2
  clear key hb k2 hn
  generalize rungN x = r at *
  have HF : Hid (∀ (m : Nat), m ≤ 2139095040 → ∀ (w : World), Calls Tryz.prog 115 #[.bool false, .int .u32 (m : Int)] w fun e w' => e = .returned (.float .f32 m) ∧ w' = w) := hF
  clear hF
  go_enter Tryz.func99, Tryz.ntmps99
  go_wp2
  go_loop [3, 4] (fun lv hv => ∃ lo hi : Nat, lv = .int .u32 (lo : Int) ∧ hv = .int .u32 (hi : Int) ∧ lo ≤ r ∧ r < hi ∧ hi ≤ 2139095041) (fun lv hv => (RowKit.intOf hv - RowKit.intOf lv).toNat)
  case atStart => exact ⟨0, 2139095041, rfl, rfl, Nat.zero_le _, by omega, Nat.le_refl _⟩
  case round =>
   obtain ⟨lo, hi, rfl, rfl, l1, l2, l3⟩ := hrel
   by_cases hd : lo + 1 < hi
   ·have hdi : 1 < (hi : Int) - lo := by omega
    obtain ⟨m, hmid⟩ : ∃ m : Nat, m = lo + (hi - lo) / 2 := ⟨_, rfl⟩
    have hfm := HF.out m (by omega)
    obtain ⟨k1, k2⟩ := HK.out m (by omega)
    have hmz : (m : Int) = (lo : Int) + ((hi : Int) - lo) / 2 := by omega
    have HZ : Hid ((m : Int) = (lo : Int) + ((hi : Int) - lo) / 2 ∧ lo < m ∧ m < hi) := ⟨hmz, by omega, by omega⟩
    rw [hmz] at hfm
    clear hmz hmid
    rcases Nat.lt_trichotomy m r with hle | hle | hle
    ·rw [show decide (m < r) = true by simpa using hle] at k1
     clear k2
     go_wp2_with (go_at_call 115; refine (hfm _).mono ?_; rintro e9 w9 ⟨rfl, hw9⟩; obtain rfl := hw9.symm)
     go_round
     case rel => exact ⟨m, hi, by rw [HZ.out.1], rfl, by omega, l2, l3⟩
     case measure => have := HZ.out; simp only [RowKit.intOf]; omega
    ·rw [show decide (m < r) = false by simp; omega] at k1
     rw [show decide (m = r) = true by simpa using hle] at k2
     have HL : Hid (m = r) := hle
     clear hle
     go_wp2_with (go_at_call 115; refine (hfm _).mono ?_; rintro e9 w9 ⟨rfl, hw9⟩; obtain rfl := hw9.symm)
     go_round
     case rel => exact ⟨m, hi, by rw [HZ.out.1], rfl, by have := HL.out; omega, l2, l3⟩
     case measure => have := HZ.out; simp only [RowKit.intOf]; omega
    ·rw [show decide (m < r) = false by simp; omega] at k1
     rw [show decide (m = r) = false by simp; omega] at k2
     go_wp2_with (go_at_call 115; refine (hfm _).mono ?_; rintro e9 w9 ⟨rfl, hw9⟩; obtain rfl := hw9.symm)
     go_round
     case rel => exact ⟨lo, m, rfl, by rw [HZ.out.1], l1, by omega, by have := HZ.out; omega⟩
     case measure => have := HZ.out; simp only [RowKit.intOf]; omega
   ·have hdi : ¬ 1 < (hi : Int) - lo := by omega
    obtain rfl : lo = r := by omega
    go_wp2
    go_ret
    exact ⟨rfl, rfl⟩
end Go.Proofs.YtfpcpociejefaaaGreatDoor

/- The reference's IsNan, Below, Same, Key, FromKey. -/
namespace Go.Proofs.YtfpcpociejefaaaGreatDoor
open Go.RowKit Go.PlainAid Go.Lib
theorem rIsNan_any (x : Nat) (w : World) : Calls Tryz.prog 97 #[.float .f32 x] w fun e w' => e = .returned (.bool (nanB x)) ∧ w' = w := by
 have hn := neq_self x
 cases hb : nanB x <;> rw [hb] at hn
 all_goals
  go_enter Tryz.func97, Tryz.ntmps97
  go_wp2
  go_ret
  exact ⟨rfl, rfl⟩
theorem order_nan (x y : Nat) (h : nanB x = true) (o : Ordering) : (FloatKind.f32.format.order x y == some o) = false := by
 show (Ieee.single.order x y == some o) = _
 rw [order_any, if_pos (.inl (by simpa [nanB, rungN] using h))]
 rfl
set_option maxRecDepth 100000 in
set_option maxHeartbeats 1600000 in
theorem rBelow_any (x : Nat) (h : x < 4294967296) (w : World) : Calls Tryz.prog 98 #[.float .f32 x] w fun e w' => e = .returned (.bool (belowB x)) ∧ w' = w := by
 unfold belowB
 cases hx : nanB x
 ·have hr : rungN x ≤ 2139095040 := by simpa [nanB, rungN] using hx
  have k1 := rlt_any x 0 hr (by decide)
  have k2 := req_any x 0 hr (by decide)
  rw [(srung_low 0 (by decide)).1] at k1 k2
  by_cases hs : 2147483648 ≤ x
  ·rw [show decide (2147483648 ≤ x) = true by simpa using hs]
   have hz : srungZ x = -(rungN x : Int) := by unfold srungZ; rw [if_pos (by omega)]
   by_cases h0 : rungN x = 0
   ·obtain rfl : x = 2147483648 := by unfold rungN at h0; omega
    rw [show decide (srungZ 2147483648 < ((0 : Nat) : Int)) = false by decide] at k1
    rw [show decide (srungZ 2147483648 = ((0 : Nat) : Int)) = true by decide] at k2
    have hq : ∀ w, (binOp .quo 58 (.float .f32 1065353216) (.float .f32 2147483648)).run Tryz.prog w = .ok (.float .f32 4286578688) w := fun w => run_float_arith w .quo 58 .f32 _ _ _ (by decide)
    have k3 : (FloatKind.f32.format.order 4286578688 0 == some Ordering.lt) = true := by decide
    go_enter Tryz.func98, Tryz.ntmps98
    go_wp2
    go_ret
    exact ⟨rfl, rfl⟩
   ·rw [show decide (srungZ x < ((0 : Nat) : Int)) = true by simp; omega] at k1
    clear k2 hz h0
    go_enter Tryz.func98, Tryz.ntmps98
    go_wp2
    go_ret
    exact ⟨rfl, rfl⟩
  ·rw [show decide (2147483648 ≤ x) = false by simpa using hs]
   obtain ⟨s1, s2⟩ := srung_low x (by omega)
   by_cases h0 : x = 0
   ·subst h0
    rw [show decide (srungZ 0 < ((0 : Nat) : Int)) = false by decide] at k1
    rw [show decide (srungZ 0 = ((0 : Nat) : Int)) = true by decide] at k2
    have hq : ∀ w, (binOp .quo 58 (.float .f32 1065353216) (.float .f32 0)).run Tryz.prog w = .ok (.float .f32 2139095040) w := fun w => run_float_arith w .quo 58 .f32 _ _ _ (by decide)
    have k3 : (FloatKind.f32.format.order 2139095040 0 == some Ordering.lt) = false := by decide
    go_enter Tryz.func98, Tryz.ntmps98
    go_wp2
    go_ret
    exact ⟨rfl, rfl⟩
   ·rw [show decide (srungZ x < ((0 : Nat) : Int)) = false by simp; omega] at k1
    rw [show decide (srungZ x = ((0 : Nat) : Int)) = false by simp; omega] at k2
    clear s1 s2 h0
    go_enter Tryz.func98, Tryz.ntmps98
    go_wp2
    go_ret
    exact ⟨rfl, rfl⟩
 ·have k1 := order_nan x 0 hx .lt
  have k2 := order_nan x 0 hx .eq
  go_enter Tryz.func98, Tryz.ntmps98
  go_wp2
  go_ret
  exact ⟨rfl, rfl⟩
end Go.Proofs.YtfpcpociejefaaaGreatDoor

/- The library's shortFloat, for the float32s below the least normal one. -/
namespace Go.Proofs.YtfpcpociejefaaaGreatDoor
open Go.RowKit Go.PlainAid
theorem wrap64_nat (M : Nat) (h : M < 9223372036854775808) : wrap64 ((M : Nat) : Int) = (M : Int) := by unfold wrap64; omega
set_option maxRecDepth 1000000 in
set_option maxHeartbeats 4000000 in
theorem short_U0 (m M z xl xh : Nat) (e : Int) (s ul uh um : Nat) (hz : 41 ≤ z ∧ z ≤ 63) (he : e = -149 - (z : Int)) (hne : m ≠ 9223372036854775808) (hxl : xl + 2 ^ (z - 1) = m) (hxh : m + 2 ^ (z - 1) = xh) (hxt : xh + 4 ≤ 18446744073709551616) (hmM : m / 2 ^ z = M) (hM : M % 2 = 0) (hML : M < 8388608)
  (hs : (s : Int) = -(e + 149 + 3)) (hs64 : s < 64)
  (hul : uscN xl (hiR 76) (loR 76) s = ul) (huh : uscN xh (hiR 76) (loR 76) s = uh) (hum : uscN m (hiR 76) (loR 76) s = um) (bl : 1 ≤ ul ∧ ul ≤ 1000000000) (bh : 1 ≤ uh ∧ uh ≤ 1000000000) (bm : 1 ≤ um ∧ um ≤ 1000000000)
  (w : World) (c0 : w.cell? ⟨11, 393 * 2, none⟩ = some (.int .u64 (hiR 76 : Int))) (c1 : w.cell? ⟨11, 393 * 2 + 1, none⟩ = some (.int .u64 (loR 76 : Int))) :
  Calls Tryz.prog 186 #[.int .u64 (m : Int), .int .i64 e] w fun r w' => r = .returned (.tuple #[.int .u64 ((shD ul uh um 0).1 : Int), .int .i64 (-45 + ((shD ul uh um 0).2 : Int))]) ∧ ∃ n, w' = (w.alloc (preO (hiR 76) (loR 76) s)).drewN n := by
 obtain ⟨a1, a2, a3, a4, a5, a6⟩ := row_facts 76 (by decide)
 clear a6
 have hlog := log10_any (-149) (by omega)
 have hl2 := log2_neg 45 (by omega)
 have hP := fun x0 x1 x2 => prescale_any 393 e 45 149 (hiR 76 : Int) (loR 76 : Int) x0 x1 x2 214 w (by omega) (by omega) (by omega) (by omega) c0 c1
 rw [← hs] at hP
 clear hs
 have hle : ∀ x : Nat, x * loR 76 ≤ x * hiR 76 * 18446744073709551616 := fun x => by
  rw [Nat.mul_assoc]
  exact Nat.mul_le_mul_left _ a3
 have hpz : ((2 : Int) ^ (z - 1)) = ((2 ^ (z - 1) : Nat) : Int) := by norm_cast
 have hpz2 : ((2 : Int) ^ z) = ((2 ^ z : Nat) : Int) := by norm_cast
 have hzp : 0 < 2 ^ (z - 1) := Nat.two_pow_pos _
 have hU1 := usc_nat xl (hiR 76) (loR 76) s (by omega) a1 a2 hs64 (hle _) w 0
 have hU2 := fun n => usc_nat xh (hiR 76) (loR 76) s (by omega) a1 a2 hs64 (hle _) w n
 have hU3 := fun n => usc_nat m (hiR 76) (loR 76) s (by omega) a1 a2 hs64 (hle _) w n
 rw [hul] at hU1
 rw [huh] at hU2
 rw [hum] at hU3
 have hn1 := nudge_0 (ul : Int) (by omega)
 have hn2 := nudge_0 (uh : Int) (by omega)
 have hce := ceil_any ((ul : Int)) (by omega)
 have hfl := floor_any ((uh : Int)) (by omega)
 have hro := round_any (um : Int) ((um / 4 % 2 : Nat) : Int) ((rndU um : Nat) : Int) (by omega) (by rw [show (um : Int) / 4 = ((um / 4 : Nat) : Int) by omega]; exact and_one _ (by omega)) (by omega) (by unfold rndU; omega)
 have r0 : IntKind.u64.wrap ((2 : Int) ^ (z - 1)) = ((2 ^ (z - 1) : Nat) : Int) := by rw [hpz]; exact u64_small _ (by omega) (by omega)
 have r1 : IntKind.u64.wrap ((m : Int) - IntKind.u64.wrap ((2 : Int) ^ (z - 1))) = (xl : Int) := by rw [r0]; rw [u64_small _ (by omega) (by omega)]; omega
 have r2 : IntKind.u64.wrap ((m : Int) + IntKind.u64.wrap ((2 : Int) ^ (z - 1))) = (xh : Int) := by rw [r0]; rw [u64_small _ (by omega) (by omega)]; omega
 have r3 : bits .and .i64 (wrap64 ((m : Int) / 2 ^ z)) 1 = 0 := by
  rw [hpz2, show (m : Int) / ((2 ^ z : Nat) : Int) = ((m / 2 ^ z : Nat) : Int) from rfl, hmM, wrap64_nat M (by omega)]
  exact and_odd M 0 hM (by omega)
 have hE1 : (40 : Int) + (-189 - e) = (z : Int) := by omega
 have hE2 : e + (z : Int) = -149 := by omega
 have he2 : -212 ≤ e ∧ e ≤ -190 := by omega
 have ht2 : decide (-189 < e) = false := decide_eq_false (by omega)
 have ht3 : decide (-189 ≤ e) = false := decide_eq_false (by omega)
 have hzz : 41 ≤ (z : Int) ∧ (z : Int) ≤ 63 := by omega
 have ht1 : ((m : Int) == 9223372036854775808) = false := by rw [beq_eq_false_iff_ne]; omega
 clear hne
 clear he hul huh hum hle c0 c1 hmM hM a1 a2 a3 a4 a5 hxl hxh hxt hpz hpz2 hzp r0 hML
 go_enter Tryz.func186, Tryz.ntmps186
 go_wp2_with fail
 refine (hlog _).mono ?_
 rintro e9 w9 ⟨rfl, hw9⟩
 obtain rfl := hw9.symm
 clear hlog
 go_wp2_with fail
 refine (hl2 _).mono ?_
 rintro e9 w9 ⟨rfl, hw9⟩
 obtain rfl := hw9.symm
 clear hl2
 go_wp2_with fail
 refine (hP _ _ _).mono ?_
 rintro e9 w9 ⟨rfl, hw9⟩
 obtain rfl := hw9.symm
 go_wp2_with fail
 refine hU1.mono ?_
 rintro e9 w9 ⟨rfl, n1, rfl⟩
 clear hU1 hP
 go_wp2_with fail
 refine (hn1 _).mono ?_
 rintro e9 w9 ⟨rfl, hw9⟩
 obtain rfl := hw9.symm
 clear hn1
 go_wp2_with fail
 refine (hce _).mono ?_
 rintro e9 w9 ⟨rfl, hw9⟩
 obtain rfl := hw9.symm
 clear hce
 go_wp2_with fail
 refine (hU2 _).mono ?_
 rintro e9 w9 ⟨rfl, n2, rfl⟩
 clear hU2
 go_wp2_with fail
 refine (hn2 _).mono ?_
 rintro e9 w9 ⟨rfl, hw9⟩
 obtain rfl := hw9.symm
 clear hn2
 go_wp2_with fail
 refine (hfl _).mono ?_
 rintro e9 w9 ⟨rfl, hw9⟩
 obtain rfl := hw9.symm
 clear hfl
 by_cases hA : (ul + 0 + 3) / 4 ≤ (uh - 0) / 4 / 10 * 10
 ·have hD : Hid (shD ul uh um 0 = ((uh - 0) / 4 / 10, 1)) := by show _ = _; unfold shD; rw [if_pos hA]
  have gA : decide (((ul : Int) + 3) / 4 ≤ (uh : Int) / 4 / 10 * 10) = true := decide_eq_true (by omega)
  clear hA hU3 hro
  go_wp2_with fail
  go_ret2
  exact ⟨by rw [hD.out]; exact congrArg Ending.returned (tup2 (by dsimp only <;> omega) (by dsimp only <;> omega)), _, rfl⟩
 ·have gA : decide (((ul : Int) + 3) / 4 ≤ (uh : Int) / 4 / 10 * 10) = false := decide_eq_false (by omega)
  by_cases hB : (ul + 0 + 3) / 4 < (uh - 0) / 4
  ·have hD : Hid (shD ul uh um 0 = (rndU um, 0)) := by show _ = _; unfold shD; rw [if_neg hA, if_pos hB]
   have gB : decide (((ul : Int) + 3) / 4 < (uh : Int) / 4) = true := decide_eq_true (by omega)
   clear hA hB
   go_wp2_with fail
   refine (hU3 _).mono ?_
   rintro e9 w9 ⟨rfl, n3, rfl⟩
   clear hU3
   go_wp2_with fail
   refine (hro _).mono ?_
   rintro e9 w9 ⟨rfl, hw9⟩
   obtain rfl := hw9.symm
   clear hro
   go_wp2_with fail
   go_ret2
   exact ⟨by rw [hD.out]; exact congrArg Ending.returned (tup2 (by dsimp only <;> omega) (by dsimp only <;> omega)), _, rfl⟩
  ·have hD : Hid (shD ul uh um 0 = ((ul + 0 + 3) / 4, 0)) := by show _ = _; unfold shD; rw [if_neg hA, if_neg hB]
   have gB : decide (((ul : Int) + 3) / 4 < (uh : Int) / 4) = false := decide_eq_false (by omega)
   clear hA hB hU3 hro
   go_wp2_with fail
   go_ret2
   exact ⟨by rw [hD.out]; exact congrArg Ending.returned (tup2 (by dsimp only <;> omega) (by dsimp only <;> omega)), _, rfl⟩
set_option maxRecDepth 1000000 in
set_option maxHeartbeats 4000000 in
theorem short_U1 (m M z xl xh : Nat) (e : Int) (s ul uh um : Nat) (hz : 41 ≤ z ∧ z ≤ 63) (he : e = -149 - (z : Int)) (hne : m ≠ 9223372036854775808) (hxl : xl + 2 ^ (z - 1) = m) (hxh : m + 2 ^ (z - 1) = xh) (hxt : xh + 4 ≤ 18446744073709551616) (hmM : m / 2 ^ z = M) (hM : M % 2 = 1) (hML : M < 8388608)
  (hs : (s : Int) = -(e + 149 + 3)) (hs64 : s < 64)
  (hul : uscN xl (hiR 76) (loR 76) s = ul) (huh : uscN xh (hiR 76) (loR 76) s = uh) (hum : uscN m (hiR 76) (loR 76) s = um) (bl : 1 ≤ ul ∧ ul ≤ 1000000000) (bh : 1 ≤ uh ∧ uh ≤ 1000000000) (bm : 1 ≤ um ∧ um ≤ 1000000000)
  (w : World) (c0 : w.cell? ⟨11, 393 * 2, none⟩ = some (.int .u64 (hiR 76 : Int))) (c1 : w.cell? ⟨11, 393 * 2 + 1, none⟩ = some (.int .u64 (loR 76 : Int))) :
  Calls Tryz.prog 186 #[.int .u64 (m : Int), .int .i64 e] w fun r w' => r = .returned (.tuple #[.int .u64 ((shD ul uh um 1).1 : Int), .int .i64 (-45 + ((shD ul uh um 1).2 : Int))]) ∧ ∃ n, w' = (w.alloc (preO (hiR 76) (loR 76) s)).drewN n := by
 obtain ⟨a1, a2, a3, a4, a5, a6⟩ := row_facts 76 (by decide)
 clear a6
 have hlog := log10_any (-149) (by omega)
 have hl2 := log2_neg 45 (by omega)
 have hP := fun x0 x1 x2 => prescale_any 393 e 45 149 (hiR 76 : Int) (loR 76 : Int) x0 x1 x2 214 w (by omega) (by omega) (by omega) (by omega) c0 c1
 rw [← hs] at hP
 clear hs
 have hle : ∀ x : Nat, x * loR 76 ≤ x * hiR 76 * 18446744073709551616 := fun x => by
  rw [Nat.mul_assoc]
  exact Nat.mul_le_mul_left _ a3
 have hpz : ((2 : Int) ^ (z - 1)) = ((2 ^ (z - 1) : Nat) : Int) := by norm_cast
 have hpz2 : ((2 : Int) ^ z) = ((2 ^ z : Nat) : Int) := by norm_cast
 have hzp : 0 < 2 ^ (z - 1) := Nat.two_pow_pos _
 have hU1 := usc_nat xl (hiR 76) (loR 76) s (by omega) a1 a2 hs64 (hle _) w 0
 have hU2 := fun n => usc_nat xh (hiR 76) (loR 76) s (by omega) a1 a2 hs64 (hle _) w n
 have hU3 := fun n => usc_nat m (hiR 76) (loR 76) s (by omega) a1 a2 hs64 (hle _) w n
 rw [hul] at hU1
 rw [huh] at hU2
 rw [hum] at hU3
 have hn1 := nudge_1 (ul : Int) (by omega)
 have hn2 := nudge_m (uh : Int) (by omega)
 have hce := ceil_any ((ul : Int) + 1) (by omega)
 have hfl := floor_any ((uh : Int) - 1) (by omega)
 have hro := round_any (um : Int) ((um / 4 % 2 : Nat) : Int) ((rndU um : Nat) : Int) (by omega) (by rw [show (um : Int) / 4 = ((um / 4 : Nat) : Int) by omega]; exact and_one _ (by omega)) (by omega) (by unfold rndU; omega)
 have r0 : IntKind.u64.wrap ((2 : Int) ^ (z - 1)) = ((2 ^ (z - 1) : Nat) : Int) := by rw [hpz]; exact u64_small _ (by omega) (by omega)
 have r1 : IntKind.u64.wrap ((m : Int) - IntKind.u64.wrap ((2 : Int) ^ (z - 1))) = (xl : Int) := by rw [r0]; rw [u64_small _ (by omega) (by omega)]; omega
 have r2 : IntKind.u64.wrap ((m : Int) + IntKind.u64.wrap ((2 : Int) ^ (z - 1))) = (xh : Int) := by rw [r0]; rw [u64_small _ (by omega) (by omega)]; omega
 have r3 : bits .and .i64 (wrap64 ((m : Int) / 2 ^ z)) 1 = 1 := by
  rw [hpz2, show (m : Int) / ((2 ^ z : Nat) : Int) = ((m / 2 ^ z : Nat) : Int) from rfl, hmM, wrap64_nat M (by omega)]
  exact and_odd M 1 hM (by omega)
 have hE1 : (40 : Int) + (-189 - e) = (z : Int) := by omega
 have hE2 : e + (z : Int) = -149 := by omega
 have he2 : -212 ≤ e ∧ e ≤ -190 := by omega
 have ht2 : decide (-189 < e) = false := decide_eq_false (by omega)
 have ht3 : decide (-189 ≤ e) = false := decide_eq_false (by omega)
 have hzz : 41 ≤ (z : Int) ∧ (z : Int) ≤ 63 := by omega
 have ht1 : ((m : Int) == 9223372036854775808) = false := by rw [beq_eq_false_iff_ne]; omega
 clear hne
 clear he hul huh hum hle c0 c1 hmM hM a1 a2 a3 a4 a5 hxl hxh hxt hpz hpz2 hzp r0 hML
 go_enter Tryz.func186, Tryz.ntmps186
 go_wp2_with fail
 refine (hlog _).mono ?_
 rintro e9 w9 ⟨rfl, hw9⟩
 obtain rfl := hw9.symm
 clear hlog
 go_wp2_with fail
 refine (hl2 _).mono ?_
 rintro e9 w9 ⟨rfl, hw9⟩
 obtain rfl := hw9.symm
 clear hl2
 go_wp2_with fail
 refine (hP _ _ _).mono ?_
 rintro e9 w9 ⟨rfl, hw9⟩
 obtain rfl := hw9.symm
 go_wp2_with fail
 refine hU1.mono ?_
 rintro e9 w9 ⟨rfl, n1, rfl⟩
 clear hU1 hP
 go_wp2_with fail
 refine (hn1 _).mono ?_
 rintro e9 w9 ⟨rfl, hw9⟩
 obtain rfl := hw9.symm
 clear hn1
 go_wp2_with fail
 refine (hce _).mono ?_
 rintro e9 w9 ⟨rfl, hw9⟩
 obtain rfl := hw9.symm
 clear hce
 go_wp2_with fail
 refine (hU2 _).mono ?_
 rintro e9 w9 ⟨rfl, n2, rfl⟩
 clear hU2
 go_wp2_with fail
 refine (hn2 _).mono ?_
 rintro e9 w9 ⟨rfl, hw9⟩
 obtain rfl := hw9.symm
 clear hn2
 go_wp2_with fail
 refine (hfl _).mono ?_
 rintro e9 w9 ⟨rfl, hw9⟩
 obtain rfl := hw9.symm
 clear hfl
 by_cases hA : (ul + 1 + 3) / 4 ≤ (uh - 1) / 4 / 10 * 10
 ·have hD : Hid (shD ul uh um 1 = ((uh - 1) / 4 / 10, 1)) := by show _ = _; unfold shD; rw [if_pos hA]
  have gA : decide (((ul : Int) + 1 + 3) / 4 ≤ ((uh : Int) - 1) / 4 / 10 * 10) = true := decide_eq_true (by omega)
  clear hA hU3 hro
  go_wp2_with fail
  go_ret2
  exact ⟨by rw [hD.out]; exact congrArg Ending.returned (tup2 (by dsimp only <;> omega) (by dsimp only <;> omega)), _, rfl⟩
 ·have gA : decide (((ul : Int) + 1 + 3) / 4 ≤ ((uh : Int) - 1) / 4 / 10 * 10) = false := decide_eq_false (by omega)
  by_cases hB : (ul + 1 + 3) / 4 < (uh - 1) / 4
  ·have hD : Hid (shD ul uh um 1 = (rndU um, 0)) := by show _ = _; unfold shD; rw [if_neg hA, if_pos hB]
   have gB : decide (((ul : Int) + 1 + 3) / 4 < ((uh : Int) - 1) / 4) = true := decide_eq_true (by omega)
   clear hA hB
   go_wp2_with fail
   refine (hU3 _).mono ?_
   rintro e9 w9 ⟨rfl, n3, rfl⟩
   clear hU3
   go_wp2_with fail
   refine (hro _).mono ?_
   rintro e9 w9 ⟨rfl, hw9⟩
   obtain rfl := hw9.symm
   clear hro
   go_wp2_with fail
   go_ret2
   exact ⟨by rw [hD.out]; exact congrArg Ending.returned (tup2 (by dsimp only <;> omega) (by dsimp only <;> omega)), _, rfl⟩
  ·have hD : Hid (shD ul uh um 1 = ((ul + 1 + 3) / 4, 0)) := by show _ = _; unfold shD; rw [if_neg hA, if_neg hB]
   have gB : decide (((ul : Int) + 1 + 3) / 4 < ((uh : Int) - 1) / 4) = false := decide_eq_false (by omega)
   clear hA hB hU3 hro
   go_wp2_with fail
   go_ret2
   exact ⟨by rw [hD.out]; exact congrArg Ending.returned (tup2 (by dsimp only <;> omega) (by dsimp only <;> omega)), _, rfl⟩
set_option maxRecDepth 1000000 in
set_option maxHeartbeats 4000000 in
theorem short_V0 (m M z xl xh : Nat) (e : Int) (s ul uh um : Nat) (hz : 41 ≤ z ∧ z ≤ 63) (he : e = -149 - (z : Int)) (hme : m = 9223372036854775808) (hxl : xl + 2 ^ (z - 1) = m) (hxh : m + 2 ^ (z - 1) = xh) (hxt : xh + 4 ≤ 18446744073709551616) (hmM : m / 2 ^ z = M) (hM : M % 2 = 0) (hML : M < 8388608)
  (hs : (s : Int) = -(e + 149 + 3)) (hs64 : s < 64)
  (hul : uscN xl (hiR 76) (loR 76) s = ul) (huh : uscN xh (hiR 76) (loR 76) s = uh) (hum : uscN m (hiR 76) (loR 76) s = um) (bl : 1 ≤ ul ∧ ul ≤ 1000000000) (bh : 1 ≤ uh ∧ uh ≤ 1000000000) (bm : 1 ≤ um ∧ um ≤ 1000000000)
  (w : World) (c0 : w.cell? ⟨11, 393 * 2, none⟩ = some (.int .u64 (hiR 76 : Int))) (c1 : w.cell? ⟨11, 393 * 2 + 1, none⟩ = some (.int .u64 (loR 76 : Int))) :
  Calls Tryz.prog 186 #[.int .u64 (m : Int), .int .i64 e] w fun r w' => r = .returned (.tuple #[.int .u64 ((shD ul uh um 0).1 : Int), .int .i64 (-45 + ((shD ul uh um 0).2 : Int))]) ∧ ∃ n, w' = (w.alloc (preO (hiR 76) (loR 76) s)).drewN n := by
 obtain ⟨a1, a2, a3, a4, a5, a6⟩ := row_facts 76 (by decide)
 clear a6
 have hlog := log10_any (-149) (by omega)
 have hl2 := log2_neg 45 (by omega)
 have hP := fun x0 x1 x2 => prescale_any 393 e 45 149 (hiR 76 : Int) (loR 76 : Int) x0 x1 x2 214 w (by omega) (by omega) (by omega) (by omega) c0 c1
 rw [← hs] at hP
 clear hs
 have hle : ∀ x : Nat, x * loR 76 ≤ x * hiR 76 * 18446744073709551616 := fun x => by
  rw [Nat.mul_assoc]
  exact Nat.mul_le_mul_left _ a3
 have hpz : ((2 : Int) ^ (z - 1)) = ((2 ^ (z - 1) : Nat) : Int) := by norm_cast
 have hpz2 : ((2 : Int) ^ z) = ((2 ^ z : Nat) : Int) := by norm_cast
 have hzp : 0 < 2 ^ (z - 1) := Nat.two_pow_pos _
 have hU1 := usc_nat xl (hiR 76) (loR 76) s (by omega) a1 a2 hs64 (hle _) w 0
 have hU2 := fun n => usc_nat xh (hiR 76) (loR 76) s (by omega) a1 a2 hs64 (hle _) w n
 have hU3 := fun n => usc_nat m (hiR 76) (loR 76) s (by omega) a1 a2 hs64 (hle _) w n
 rw [hul] at hU1
 rw [huh] at hU2
 rw [hum] at hU3
 have hn1 := nudge_0 (ul : Int) (by omega)
 have hn2 := nudge_0 (uh : Int) (by omega)
 have hce := ceil_any ((ul : Int)) (by omega)
 have hfl := floor_any ((uh : Int)) (by omega)
 have hro := round_any (um : Int) ((um / 4 % 2 : Nat) : Int) ((rndU um : Nat) : Int) (by omega) (by rw [show (um : Int) / 4 = ((um / 4 : Nat) : Int) by omega]; exact and_one _ (by omega)) (by omega) (by unfold rndU; omega)
 have r0 : IntKind.u64.wrap ((2 : Int) ^ (z - 1)) = ((2 ^ (z - 1) : Nat) : Int) := by rw [hpz]; exact u64_small _ (by omega) (by omega)
 have r1 : IntKind.u64.wrap ((m : Int) - IntKind.u64.wrap ((2 : Int) ^ (z - 1))) = (xl : Int) := by rw [r0]; rw [u64_small _ (by omega) (by omega)]; omega
 have r2 : IntKind.u64.wrap ((m : Int) + IntKind.u64.wrap ((2 : Int) ^ (z - 1))) = (xh : Int) := by rw [r0]; rw [u64_small _ (by omega) (by omega)]; omega
 have r3 : bits .and .i64 (wrap64 ((m : Int) / 2 ^ z)) 1 = 0 := by
  rw [hpz2, show (m : Int) / ((2 ^ z : Nat) : Int) = ((m / 2 ^ z : Nat) : Int) from rfl, hmM, wrap64_nat M (by omega)]
  exact and_odd M 0 hM (by omega)
 have hE1 : (40 : Int) + (-189 - e) = (z : Int) := by omega
 have hE2 : e + (z : Int) = -149 := by omega
 have he2 : -212 ≤ e ∧ e ≤ -190 := by omega
 have ht2 : decide (-189 < e) = false := decide_eq_false (by omega)
 have ht3 : decide (-189 ≤ e) = false := decide_eq_false (by omega)
 have hzz : 41 ≤ (z : Int) ∧ (z : Int) ≤ 63 := by omega
 have ht1 : ((m : Int) == 9223372036854775808) = true := by rw [beq_iff_eq]; omega
 clear hme
 clear he hul huh hum hle c0 c1 hmM hM a1 a2 a3 a4 a5 hxl hxh hxt hpz hpz2 hzp r0 hML
 go_enter Tryz.func186, Tryz.ntmps186
 go_wp2_with fail
 refine (hlog _).mono ?_
 rintro e9 w9 ⟨rfl, hw9⟩
 obtain rfl := hw9.symm
 clear hlog
 go_wp2_with fail
 refine (hl2 _).mono ?_
 rintro e9 w9 ⟨rfl, hw9⟩
 obtain rfl := hw9.symm
 clear hl2
 go_wp2_with fail
 refine (hP _ _ _).mono ?_
 rintro e9 w9 ⟨rfl, hw9⟩
 obtain rfl := hw9.symm
 go_wp2_with fail
 refine hU1.mono ?_
 rintro e9 w9 ⟨rfl, n1, rfl⟩
 clear hU1 hP
 go_wp2_with fail
 refine (hn1 _).mono ?_
 rintro e9 w9 ⟨rfl, hw9⟩
 obtain rfl := hw9.symm
 clear hn1
 go_wp2_with fail
 refine (hce _).mono ?_
 rintro e9 w9 ⟨rfl, hw9⟩
 obtain rfl := hw9.symm
 clear hce
 go_wp2_with fail
 refine (hU2 _).mono ?_
 rintro e9 w9 ⟨rfl, n2, rfl⟩
 clear hU2
 go_wp2_with fail
 refine (hn2 _).mono ?_
 rintro e9 w9 ⟨rfl, hw9⟩
 obtain rfl := hw9.symm
 clear hn2
 go_wp2_with fail
 refine (hfl _).mono ?_
 rintro e9 w9 ⟨rfl, hw9⟩
 obtain rfl := hw9.symm
 clear hfl
 by_cases hA : (ul + 0 + 3) / 4 ≤ (uh - 0) / 4 / 10 * 10
 ·have hD : Hid (shD ul uh um 0 = ((uh - 0) / 4 / 10, 1)) := by show _ = _; unfold shD; rw [if_pos hA]
  have gA : decide (((ul : Int) + 3) / 4 ≤ (uh : Int) / 4 / 10 * 10) = true := decide_eq_true (by omega)
  clear hA hU3 hro
  go_wp2_with fail
  go_ret2
  exact ⟨by rw [hD.out]; exact congrArg Ending.returned (tup2 (by dsimp only <;> omega) (by dsimp only <;> omega)), _, rfl⟩
 ·have gA : decide (((ul : Int) + 3) / 4 ≤ (uh : Int) / 4 / 10 * 10) = false := decide_eq_false (by omega)
  by_cases hB : (ul + 0 + 3) / 4 < (uh - 0) / 4
  ·have hD : Hid (shD ul uh um 0 = (rndU um, 0)) := by show _ = _; unfold shD; rw [if_neg hA, if_pos hB]
   have gB : decide (((ul : Int) + 3) / 4 < (uh : Int) / 4) = true := decide_eq_true (by omega)
   clear hA hB
   go_wp2_with fail
   refine (hU3 _).mono ?_
   rintro e9 w9 ⟨rfl, n3, rfl⟩
   clear hU3
   go_wp2_with fail
   refine (hro _).mono ?_
   rintro e9 w9 ⟨rfl, hw9⟩
   obtain rfl := hw9.symm
   clear hro
   go_wp2_with fail
   go_ret2
   exact ⟨by rw [hD.out]; exact congrArg Ending.returned (tup2 (by dsimp only <;> omega) (by dsimp only <;> omega)), _, rfl⟩
  ·have hD : Hid (shD ul uh um 0 = ((ul + 0 + 3) / 4, 0)) := by show _ = _; unfold shD; rw [if_neg hA, if_neg hB]
   have gB : decide (((ul : Int) + 3) / 4 < (uh : Int) / 4) = false := decide_eq_false (by omega)
   clear hA hB hU3 hro
   go_wp2_with fail
   go_ret2
   exact ⟨by rw [hD.out]; exact congrArg Ending.returned (tup2 (by dsimp only <;> omega) (by dsimp only <;> omega)), _, rfl⟩
set_option maxRecDepth 1000000 in
set_option maxHeartbeats 4000000 in
theorem short_V1 (m M z xl xh : Nat) (e : Int) (s ul uh um : Nat) (hz : 41 ≤ z ∧ z ≤ 63) (he : e = -149 - (z : Int)) (hme : m = 9223372036854775808) (hxl : xl + 2 ^ (z - 1) = m) (hxh : m + 2 ^ (z - 1) = xh) (hxt : xh + 4 ≤ 18446744073709551616) (hmM : m / 2 ^ z = M) (hM : M % 2 = 1) (hML : M < 8388608)
  (hs : (s : Int) = -(e + 149 + 3)) (hs64 : s < 64)
  (hul : uscN xl (hiR 76) (loR 76) s = ul) (huh : uscN xh (hiR 76) (loR 76) s = uh) (hum : uscN m (hiR 76) (loR 76) s = um) (bl : 1 ≤ ul ∧ ul ≤ 1000000000) (bh : 1 ≤ uh ∧ uh ≤ 1000000000) (bm : 1 ≤ um ∧ um ≤ 1000000000)
  (w : World) (c0 : w.cell? ⟨11, 393 * 2, none⟩ = some (.int .u64 (hiR 76 : Int))) (c1 : w.cell? ⟨11, 393 * 2 + 1, none⟩ = some (.int .u64 (loR 76 : Int))) :
  Calls Tryz.prog 186 #[.int .u64 (m : Int), .int .i64 e] w fun r w' => r = .returned (.tuple #[.int .u64 ((shD ul uh um 1).1 : Int), .int .i64 (-45 + ((shD ul uh um 1).2 : Int))]) ∧ ∃ n, w' = (w.alloc (preO (hiR 76) (loR 76) s)).drewN n := by
 obtain ⟨a1, a2, a3, a4, a5, a6⟩ := row_facts 76 (by decide)
 clear a6
 have hlog := log10_any (-149) (by omega)
 have hl2 := log2_neg 45 (by omega)
 have hP := fun x0 x1 x2 => prescale_any 393 e 45 149 (hiR 76 : Int) (loR 76 : Int) x0 x1 x2 214 w (by omega) (by omega) (by omega) (by omega) c0 c1
 rw [← hs] at hP
 clear hs
 have hle : ∀ x : Nat, x * loR 76 ≤ x * hiR 76 * 18446744073709551616 := fun x => by
  rw [Nat.mul_assoc]
  exact Nat.mul_le_mul_left _ a3
 have hpz : ((2 : Int) ^ (z - 1)) = ((2 ^ (z - 1) : Nat) : Int) := by norm_cast
 have hpz2 : ((2 : Int) ^ z) = ((2 ^ z : Nat) : Int) := by norm_cast
 have hzp : 0 < 2 ^ (z - 1) := Nat.two_pow_pos _
 have hU1 := usc_nat xl (hiR 76) (loR 76) s (by omega) a1 a2 hs64 (hle _) w 0
 have hU2 := fun n => usc_nat xh (hiR 76) (loR 76) s (by omega) a1 a2 hs64 (hle _) w n
 have hU3 := fun n => usc_nat m (hiR 76) (loR 76) s (by omega) a1 a2 hs64 (hle _) w n
 rw [hul] at hU1
 rw [huh] at hU2
 rw [hum] at hU3
 have hn1 := nudge_1 (ul : Int) (by omega)
 have hn2 := nudge_m (uh : Int) (by omega)
 have hce := ceil_any ((ul : Int) + 1) (by omega)
 have hfl := floor_any ((uh : Int) - 1) (by omega)
 have hro := round_any (um : Int) ((um / 4 % 2 : Nat) : Int) ((rndU um : Nat) : Int) (by omega) (by rw [show (um : Int) / 4 = ((um / 4 : Nat) : Int) by omega]; exact and_one _ (by omega)) (by omega) (by unfold rndU; omega)
 have r0 : IntKind.u64.wrap ((2 : Int) ^ (z - 1)) = ((2 ^ (z - 1) : Nat) : Int) := by rw [hpz]; exact u64_small _ (by omega) (by omega)
 have r1 : IntKind.u64.wrap ((m : Int) - IntKind.u64.wrap ((2 : Int) ^ (z - 1))) = (xl : Int) := by rw [r0]; rw [u64_small _ (by omega) (by omega)]; omega
 have r2 : IntKind.u64.wrap ((m : Int) + IntKind.u64.wrap ((2 : Int) ^ (z - 1))) = (xh : Int) := by rw [r0]; rw [u64_small _ (by omega) (by omega)]; omega
 have r3 : bits .and .i64 (wrap64 ((m : Int) / 2 ^ z)) 1 = 1 := by
  rw [hpz2, show (m : Int) / ((2 ^ z : Nat) : Int) = ((m / 2 ^ z : Nat) : Int) from rfl, hmM, wrap64_nat M (by omega)]
  exact and_odd M 1 hM (by omega)
 have hE1 : (40 : Int) + (-189 - e) = (z : Int) := by omega
 have hE2 : e + (z : Int) = -149 := by omega
 have he2 : -212 ≤ e ∧ e ≤ -190 := by omega
 have ht2 : decide (-189 < e) = false := decide_eq_false (by omega)
 have ht3 : decide (-189 ≤ e) = false := decide_eq_false (by omega)
 have hzz : 41 ≤ (z : Int) ∧ (z : Int) ≤ 63 := by omega
 have ht1 : ((m : Int) == 9223372036854775808) = true := by rw [beq_iff_eq]; omega
 clear hme
 clear he hul huh hum hle c0 c1 hmM hM a1 a2 a3 a4 a5 hxl hxh hxt hpz hpz2 hzp r0 hML
 go_enter Tryz.func186, Tryz.ntmps186
 go_wp2_with fail
 refine (hlog _).mono ?_
 rintro e9 w9 ⟨rfl, hw9⟩
 obtain rfl := hw9.symm
 clear hlog
 go_wp2_with fail
 refine (hl2 _).mono ?_
 rintro e9 w9 ⟨rfl, hw9⟩
 obtain rfl := hw9.symm
 clear hl2
 go_wp2_with fail
 refine (hP _ _ _).mono ?_
 rintro e9 w9 ⟨rfl, hw9⟩
 obtain rfl := hw9.symm
 go_wp2_with fail
 refine hU1.mono ?_
 rintro e9 w9 ⟨rfl, n1, rfl⟩
 clear hU1 hP
 go_wp2_with fail
 refine (hn1 _).mono ?_
 rintro e9 w9 ⟨rfl, hw9⟩
 obtain rfl := hw9.symm
 clear hn1
 go_wp2_with fail
 refine (hce _).mono ?_
 rintro e9 w9 ⟨rfl, hw9⟩
 obtain rfl := hw9.symm
 clear hce
 go_wp2_with fail
 refine (hU2 _).mono ?_
 rintro e9 w9 ⟨rfl, n2, rfl⟩
 clear hU2
 go_wp2_with fail
 refine (hn2 _).mono ?_
 rintro e9 w9 ⟨rfl, hw9⟩
 obtain rfl := hw9.symm
 clear hn2
 go_wp2_with fail
 refine (hfl _).mono ?_
 rintro e9 w9 ⟨rfl, hw9⟩
 obtain rfl := hw9.symm
 clear hfl
 by_cases hA : (ul + 1 + 3) / 4 ≤ (uh - 1) / 4 / 10 * 10
 ·have hD : Hid (shD ul uh um 1 = ((uh - 1) / 4 / 10, 1)) := by show _ = _; unfold shD; rw [if_pos hA]
  have gA : decide (((ul : Int) + 1 + 3) / 4 ≤ ((uh : Int) - 1) / 4 / 10 * 10) = true := decide_eq_true (by omega)
  clear hA hU3 hro
  go_wp2_with fail
  go_ret2
  exact ⟨by rw [hD.out]; exact congrArg Ending.returned (tup2 (by dsimp only <;> omega) (by dsimp only <;> omega)), _, rfl⟩
 ·have gA : decide (((ul : Int) + 1 + 3) / 4 ≤ ((uh : Int) - 1) / 4 / 10 * 10) = false := decide_eq_false (by omega)
  by_cases hB : (ul + 1 + 3) / 4 < (uh - 1) / 4
  ·have hD : Hid (shD ul uh um 1 = (rndU um, 0)) := by show _ = _; unfold shD; rw [if_neg hA, if_pos hB]
   have gB : decide (((ul : Int) + 1 + 3) / 4 < ((uh : Int) - 1) / 4) = true := decide_eq_true (by omega)
   clear hA hB
   go_wp2_with fail
   refine (hU3 _).mono ?_
   rintro e9 w9 ⟨rfl, n3, rfl⟩
   clear hU3
   go_wp2_with fail
   refine (hro _).mono ?_
   rintro e9 w9 ⟨rfl, hw9⟩
   obtain rfl := hw9.symm
   clear hro
   go_wp2_with fail
   go_ret2
   exact ⟨by rw [hD.out]; exact congrArg Ending.returned (tup2 (by dsimp only <;> omega) (by dsimp only <;> omega)), _, rfl⟩
  ·have hD : Hid (shD ul uh um 1 = ((ul + 1 + 3) / 4, 0)) := by show _ = _; unfold shD; rw [if_neg hA, if_neg hB]
   have gB : decide (((ul : Int) + 1 + 3) / 4 < ((uh : Int) - 1) / 4) = false := decide_eq_false (by omega)
   clear hA hB hU3 hro
   go_wp2_with fail
   go_ret2
   exact ⟨by rw [hD.out]; exact congrArg Ending.returned (tup2 (by dsimp only <;> omega) (by dsimp only <;> omega)), _, rfl⟩
end Go.Proofs.YtfpcpociejefaaaGreatDoor

/- The library's shortFloat in one, for every float32 above 0. -/
namespace Go.Proofs.YtfpcpociejefaaaGreatDoor
open Go.RowKit Go.PlainAid
/-- is it a power of two whose lower neighbour stands at half the distance? -/
def skw (n : Nat) : Bool := decide (n % 8388608 = 0) && decide (16777216 ≤ n)
def jF (n : Nat) : Nat := if skw n then jS (atE n) else jN (atE n)
/-- four times a worth of so many quarters, brought to the scale, cut -/
def u4 (n X : Nat) : Nat := uN (X * 2 ^ (atE n).toNat * 10 ^ (jF n - 31)) (2 ^ (-(atE n)).toNat * 10 ^ (31 - jF n))
def xlo (n : Nat) : Nat := if skw n then 4 * atM n - 1 else 4 * atM n - 2
/-- the digits as a number, and the power of ten of the last one -/
def shN (n : Nat) : Nat × Nat := shD (u4 n (xlo n)) (u4 n (4 * atM n + 2)) (u4 n (4 * atM n)) (atM n % 2)
def dF (n : Nat) : Nat := (shN n).1
def pF (n : Nat) : Int := 31 - (jF n : Int) + ((shN n).2 : Int)
def scaleOk (E : Int) (j : Nat) : Prop := 2 ^ (-E).toNat * 10 ^ (31 - j) ≤ 2 ^ E.toNat * 10 ^ (j - 31) ∧ 2 ^ E.toNat * 10 ^ (j - 31) ≤ 14 * (2 ^ (-E).toNat * 10 ^ (31 - j))
instance (E : Int) (j : Nat) : Decidable (scaleOk E j) := by unfold scaleOk; infer_instance
theorem scales_ok : ∀ n : Nat, n < 254 → scaleOk ((n : Int) - 149) (jN ((n : Int) - 149)) ∧ (1 ≤ n → scaleOk ((n : Int) - 149) (jS ((n : Int) - 149))) := by
 decide +kernel
theorem uN_bounds (a b lo hi : Nat) (hb : 0 < b) (h1 : lo * b ≤ a) (h2 : a ≤ hi * b) : lo ≤ uN a b ∧ uN a b ≤ hi + 1 := by
 have g1 : lo ≤ a / b := (Nat.le_div_iff_mul_le hb).2 h1
 have g2 : a / b ≤ hi := Nat.div_le_of_le_mul (by rw [Nat.mul_comm]; exact h2)
 unfold uN
 split <;> omega
theorem at_facts (n : Nat) (h1 : 1 ≤ n) (h2 : n < 2139095040) : -149 ≤ atE n ∧ atE n ≤ 104 ∧ 1 ≤ atM n ∧ atM n < 16777216 ∧ (8388608 ≤ n → 8388608 ≤ atM n) ∧ (n < 8388608 → atM n = n ∧ atE n = -149) ∧ (skw n = true → atM n = 8388608 ∧ -148 ≤ atE n) ∧ (skw n = false → 8388608 ≤ n → atM n = 8388608 → atE n = -149) := by
 unfold atE atM skw
 by_cases h : n < 8388608
 ·simp only [if_pos h]
  refine ⟨by omega, by omega, by omega, by omega, fun h5 => absurd h5 (by omega), by simp, fun hs => ?_, fun _ h5 _ => absurd h5 (by omega)⟩
  simp at hs
  omega
 ·simp only [if_neg h]
  refine ⟨by omega, by omega, by omega, by omega, fun _ => by omega, fun h6 => absurd h6 h, fun hs => ?_, fun hs _ hm => ?_⟩
  ·simp at hs
   omega
  ·simp at hs
   have : n % 8388608 = 0 := by omega
   have := hs this
   omega
theorem row_of (n : Nat) (h1 : 1 ≤ n) (h2 : n < 2139095040) : rowOk (atE n) (jF n) ∧ scaleOk (atE n) (jF n) := by
 obtain ⟨a1, a2, _, _, _, _, a7, _⟩ := at_facts n h1 h2
 obtain ⟨k, hk⟩ : ∃ k : Nat, atE n = (k : Int) - 149 := ⟨(atE n + 149).toNat, by omega⟩
 have hk2 : k < 254 := by omega
 unfold jF
 by_cases hs : skw n = true
 ·rw [if_pos hs]
  have := (a7 hs).2
  rw [hk]
  exact ⟨(rows_ok k hk2).2 (by omega), (scales_ok k hk2).2 (by omega)⟩
 ·rw [if_neg hs, hk]
  exact ⟨(rows_ok k hk2).1, (scales_ok k hk2).1⟩
theorem u4_bounds (n X : Nat) (h1 : 1 ≤ n) (h2 : n < 2139095040) : X ≤ u4 n X ∧ u4 n X ≤ 14 * X + 1 := by
 obtain ⟨_, s1, s2⟩ := row_of n h1 h2
 unfold u4
 have hb : 0 < 2 ^ (-(atE n)).toNat * 10 ^ (31 - jF n) := Nat.mul_pos (Nat.two_pow_pos _) (Nat.pow_pos (by decide))
 refine uN_bounds _ _ _ _ hb ?_ ?_
 ·rw [Nat.mul_assoc X]
  exact Nat.mul_le_mul_left _ s1
 ·rw [Nat.mul_assoc X, Nat.mul_comm 14 X, Nat.mul_assoc X]
  exact Nat.mul_le_mul_left _ s2
end Go.Proofs.YtfpcpociejefaaaGreatDoor

/- What the document tells of a float's digits, in units of some power of ten, beside the library's way. -/
namespace Go.Proofs.YtfpcpociejefaaaGreatDoor
theorem uN_le (a t y : Nat) (ht : 0 < t) : uN a t ≤ 2 * y ↔ a ≤ 2 * y * t := by
 unfold uN
 have hd := Nat.div_add_mod a t
 have hm := Nat.mod_lt a ht
 by_cases h : a % t = 0
 ·rw [if_pos h]
  rw [h, Nat.add_zero] at hd
  constructor
  ·intro g
   rw [← hd, Nat.mul_comm]
   exact Nat.mul_le_mul_right t g
  ·intro g
   exact Nat.div_le_of_le_mul (by rw [Nat.mul_comm]; exact g)
 ·rw [if_neg h]
  constructor
  ·intro g
   have g2 : a / t < 2 * y := by omega
   exact Nat.le_of_lt ((Nat.div_lt_iff_lt_mul ht).1 g2)
  ·intro g
   have g2 : a < 2 * y * t := by
    rcases Nat.lt_or_eq_of_le g with h1 | h1
    ·exact h1
    ·exact absurd (by rw [h1]; exact Nat.mul_mod_left _ _) h
   have g3 := (Nat.div_lt_iff_lt_mul ht).2 g2
   omega
theorem uN_lt (a t y : Nat) (ht : 0 < t) : uN a t < 2 * y ↔ a < 2 * y * t := by
 unfold uN
 by_cases h : a % t = 0
 ·rw [if_pos h]
  exact Nat.div_lt_iff_lt_mul ht
 ·rw [if_neg h]
  rw [← Nat.div_lt_iff_lt_mul ht]
  omega
/-- does the number of c of these units lie where it is read as the float (all twice; o: is the float's number odd?) -/
def LiesI (L2 H2 o c : Nat) : Prop := L2 + o ≤ 2 * c ∧ 2 * c + o ≤ H2
theorem lo_iff (L2 t o x : Nat) (ht : 0 < t) (ho : o < 2) : (uN (2 * L2) t + o + 3) / 4 ≤ x ↔ L2 + o ≤ 2 * (x * t) := by
 have e1 : 2 * (2 * x) * t = 2 * (2 * (x * t)) := by rw [Nat.mul_assoc, Nat.mul_assoc]
 rcases Nat.lt_or_ge o 1 with h | h
 ·have : o = 0 := by omega
  subst this
  have := uN_le (2 * L2) t (2 * x) ht
  rw [e1] at this
  omega
 ·have : o = 1 := by omega
  subst this
  have := uN_lt (2 * L2) t (2 * x) ht
  rw [e1] at this
  omega
theorem hi_iff (H2 t o x : Nat) (ht : 0 < t) (ho : o < 2) (hx : 1 ≤ x ∨ o ≤ H2) : x ≤ (uN (2 * H2) t - o) / 4 ↔ 2 * (x * t) + o ≤ H2 := by
 have e1 : 2 * (2 * x) * t = 2 * (2 * (x * t)) := by rw [Nat.mul_assoc, Nat.mul_assoc]
 rcases Nat.lt_or_ge o 1 with h | h
 ·have : o = 0 := by omega
  subst this
  have := uN_lt (2 * H2) t (2 * x) ht
  rw [e1] at this
  omega
 ·have : o = 1 := by omega
  subst this
  have h1 := uN_le (2 * H2) t (2 * x) ht
  rw [e1] at h1
  rcases Nat.eq_zero_or_pos x with h0 | h0
  ·subst h0
   simp at hx ⊢
   omega
  ·omega
theorem rnd_q (N t : Nat) (ht : 0 < t) : rndU (uN (4 * N) t) = if 2 * N < (2 * (N / t) + 1) * t ∨ (2 * N = (2 * (N / t) + 1) * t ∧ N / t % 2 = 0) then N / t else N / t + 1 := by
 have hd := Nat.div_add_mod N t
 have hm := Nat.mod_lt N ht
 have a1 := uN_le (4 * N) t (2 * (N / t) + 1) ht
 have a2 := uN_lt (4 * N) t (2 * (N / t) + 1) ht
 have a3 := uN_lt (4 * N) t (2 * (N / t)) ht
 have a4 := uN_lt (4 * N) t (2 * (N / t) + 2) ht
 generalize N / t = q at *
 generalize uN (4 * N) t = u at *
 generalize N % t = r at *
 have e1 : 2 * (2 * q + 1) * t = 4 * (t * q) + 2 * t := by rw [Nat.mul_assoc, Nat.add_mul, Nat.mul_assoc 2 q, Nat.mul_comm q t]; omega
 have e2 : (2 * q + 1) * t = 2 * (t * q) + t := by rw [Nat.add_mul, Nat.mul_assoc 2 q, Nat.mul_comm q t]; omega
 have e3 : 2 * (2 * q) * t = 4 * (t * q) := by rw [Nat.mul_assoc, Nat.mul_assoc, Nat.mul_comm q t]; omega
 have e4 : 2 * (2 * q + 2) * t = 4 * (t * q) + 4 * t := by rw [Nat.mul_assoc, Nat.add_mul, Nat.mul_assoc 2 q, Nat.mul_comm q t]; omega
 rw [e1] at a1 a2
 rw [e3] at a3
 rw [e4] at a4
 rw [e2]
 generalize t * q = z at *
 unfold rndU
 have g1 : 4 * q ≤ u := by omega
 have g2 : u < 4 * q + 4 := by omega
 have g3 : u / 4 = q := by omega
 rw [g3]
 split <;> omega
/-- what both tell: a number of units of which no tenth lies there, or the only one of ten units -/
structure Sp (t N L2 H2 o : Nat) : Prop where
 t0 : 0 < t
 ho : o < 2
 lo : L2 < 2 * N
 hi : 2 * N < H2
 hh : H2 - 2 * N = 2 * N - L2 ∨ H2 - 2 * N = 2 * (2 * N - L2)
 wide : 2 * t < H2 - L2 ∨ N % t = 0
 thin : H2 - L2 < 20 * t
/-- q * t is what is told: in the way of the document, among the neighbours -/
def Told (t N L2 H2 o q : Nat) : Prop :=
 (q = N / t ∧ LiesI L2 H2 o (N / t * t) ∧ (LiesI L2 H2 o ((N / t + 1) * t) → 2 * N < (2 * (N / t) + 1) * t ∨ (2 * N = (2 * (N / t) + 1) * t ∧ N / t % 2 = 0))) ∨
 (q = N / t + 1 ∧ LiesI L2 H2 o ((N / t + 1) * t) ∧ (LiesI L2 H2 o (N / t * t) → ¬ (2 * N < (2 * (N / t) + 1) * t ∨ (2 * N = (2 * (N / t) + 1) * t ∧ N / t % 2 = 0))))
theorem Told.liesI {t N L2 H2 o q : Nat} (h : Told t N L2 H2 o q) : LiesI L2 H2 o (q * t) := by
 rcases h with ⟨rfl, h, _⟩ | ⟨rfl, h, _⟩ <;> exact h
/-- where some number of units lies there, a neighbour does -/
theorem near_in (t N L2 H2 o x : Nat) (ht : 0 < t) (ho : o < 2) (hlo : L2 < 2 * N) (hhi : 2 * N < H2) (hx : LiesI L2 H2 o (x * t)) : LiesI L2 H2 o (N / t * t) ∨ LiesI L2 H2 o ((N / t + 1) * t) := by
 have hd := Nat.div_add_mod N t
 have hm := Nat.mod_lt N ht
 rw [Nat.mul_comm] at hd
 rcases Nat.lt_or_ge (N / t) x with h | h
 ·right
  have : (N / t + 1) * t ≤ x * t := Nat.mul_le_mul_right t h
  unfold LiesI at *
  rw [Nat.add_mul, Nat.one_mul] at *
  omega
 ·left
  have : x * t ≤ N / t * t := Nat.mul_le_mul_right t h
  unfold LiesI at *
  omega
theorem told_of (t N L2 H2 o : Nat) (h : LiesI L2 H2 o (N / t * t) ∨ LiesI L2 H2 o ((N / t + 1) * t)) : ∃ q, Told t N L2 H2 o q := by
 unfold Told
 by_cases a : LiesI L2 H2 o (N / t * t)
 ·by_cases b : LiesI L2 H2 o ((N / t + 1) * t)
  ·by_cases c : 2 * N < (2 * (N / t) + 1) * t ∨ (2 * N = (2 * (N / t) + 1) * t ∧ N / t % 2 = 0)
   ·exact ⟨_, .inl ⟨rfl, a, fun _ => c⟩⟩
   ·exact ⟨_, .inr ⟨rfl, b, fun _ => c⟩⟩
  ·exact ⟨_, .inl ⟨rfl, a, fun h => absurd h b⟩⟩
 ·have b := h.resolve_left a
  exact ⟨_, .inr ⟨rfl, b, fun h => absurd h a⟩⟩
theorem told_one (t N L2 H2 o p q : Nat) (h1 : Told t N L2 H2 o p) (h2 : Told t N L2 H2 o q) : p = q := by
 rcases h1 with ⟨rfl, a1, b1⟩ | ⟨rfl, a1, b1⟩ <;> rcases h2 with ⟨rfl, a2, b2⟩ | ⟨rfl, a2, b2⟩
 ·rfl
 ·exact absurd (b1 a2) (b2 a1)
 ·exact absurd (b2 a1) (b1 a2)
 ·rfl
/-- the library's digits: of ten units, if one of these lies there; else what the document tells of the unit -/
theorem shD_told (t N L2 H2 o : Nat) (h : Sp t N L2 H2 o) :
  ((shD (uN (2 * L2) t) (uN (2 * H2) t) (uN (4 * N) t) o).2 = 1 ∧ LiesI L2 H2 o ((shD (uN (2 * L2) t) (uN (2 * H2) t) (uN (4 * N) t) o).1 * (10 * t))) ∨
  ((shD (uN (2 * L2) t) (uN (2 * H2) t) (uN (4 * N) t) o).2 = 0 ∧ Told t N L2 H2 o (shD (uN (2 * L2) t) (uN (2 * H2) t) (uN (4 * N) t) o).1 ∧ ∀ x, ¬ LiesI L2 H2 o (x * (10 * t))) := by
 obtain ⟨t0, ho, hlo, hhi, hh, wide, thin⟩ := h
 have l := fun x => lo_iff L2 t o x t0 ho
 have u := fun x => hi_iff H2 t o x t0 ho (.inr (by omega))
 have hr := rnd_q N t t0
 have hd := Nat.div_add_mod N t
 have hm := Nat.mod_lt N t0
 generalize uN (2 * L2) t = ul at *
 generalize uN (2 * H2) t = uh at *
 generalize uN (4 * N) t = um at *
 have liesI : ∀ x, LiesI L2 H2 o (x * t) ↔ (ul + o + 3) / 4 ≤ x ∧ x ≤ (uh - o) / 4 := fun x => by
  unfold LiesI
  rw [l x, u x]
 unfold shD
 generalize (ul + o + 3) / 4 = dl at *
 generalize (uh - o) / 4 = dh at *
 have liesI10 : ∀ x, LiesI L2 H2 o (x * (10 * t)) ↔ dl ≤ x * 10 ∧ x * 10 ≤ dh := fun x => by
  rw [← Nat.mul_assoc]
  exact liesI (x * 10)
 have hcx : ∀ x y z, x ≤ y → y ≤ z → LiesI L2 H2 o (x * t) → LiesI L2 H2 o (z * t) → LiesI L2 H2 o (y * t) := fun x y z h1 h2 g1 g2 => by
  rw [liesI] at *
  omega
 have hex : ∃ x, LiesI L2 H2 o (x * t) := by
  by_cases hN : N % t = 0
  ·refine ⟨N / t, ?_⟩
   rw [Nat.mul_comm] at hd
   unfold LiesI
   omega
  ·have hw := wide.resolve_right hN
   refine ⟨L2 / (2 * t) + 1, ?_⟩
   have d1 := Nat.div_add_mod L2 (2 * t)
   have d2 := Nat.mod_lt L2 (show 0 < 2 * t by omega)
   have e : 2 * ((L2 / (2 * t) + 1) * t) = 2 * t * (L2 / (2 * t)) + 2 * t := by
    rw [Nat.add_mul, Nat.one_mul, Nat.mul_add, Nat.mul_assoc 2 t, Nat.mul_comm t]
   unfold LiesI
   rw [e]
   omega
 obtain ⟨x0, hx0⟩ := hex
 have hx1 := (liesI x0).1 hx0
 obtain ⟨q, hq⟩ := told_of t N L2 H2 o (near_in t N L2 H2 o x0 t0 ho hlo hhi hx0)
 have hqi := (liesI q).1 hq.liesI
 by_cases c1 : dl ≤ dh / 10 * 10
 ·rw [if_pos c1]
  exact .inl ⟨rfl, (liesI10 _).2 ⟨c1, by omega⟩⟩
 ·rw [if_neg c1]
  have hno : ∀ x, ¬ LiesI L2 H2 o (x * (10 * t)) := fun x hx => by
   have := (liesI10 x).1 hx
   omega
  right
  by_cases c2 : dl < dh
  ·rw [if_pos c2]
   refine ⟨rfl, ?_, hno⟩
   show Told t N L2 H2 o (rndU um)
   have i1 : LiesI L2 H2 o (dl * t) := (liesI _).2 ⟨Nat.le_refl _, by omega⟩
   have i2 : LiesI L2 H2 o ((dl + 1) * t) := (liesI _).2 ⟨by omega, by omega⟩
   have hqr : rndU um = q := by
    rw [hr]
    rcases hq with ⟨rfl, a, b⟩ | ⟨rfl, b, a⟩
    ·rw [if_pos ?_]
     by_cases hb : LiesI L2 H2 o ((N / t + 1) * t)
     ·exact b hb
     ·exfalso
      have n1 : dl + 1 ≤ N / t := by
       rcases Nat.lt_or_ge (N / t) (dl + 1) with h | h
       ·exact absurd (hcx _ (N / t + 1) _ (by omega) h a i2) hb
       ·exact h
      obtain ⟨k, hk⟩ : ∃ k, N / t = k + 1 := ⟨N / t - 1, by omega⟩
      have i3 := hcx dl k (N / t) (by omega) (by omega) i1 a
      rw [hk] at hb hd a
      unfold LiesI at i3 hb a
      have e1 : t * (k + 1) = k * t + t := by rw [Nat.mul_add, Nat.mul_comm]; omega
      have e2 : (k + 1 + 1) * t = k * t + t + t := by rw [Nat.add_mul, Nat.add_mul]; omega
      have e3 : (k + 1) * t = k * t + t := by rw [Nat.add_mul]; omega
      rw [e1] at hd
      rw [e2] at hb
      rw [e3] at a
      generalize k * t = z at *
      omega
    ·rw [if_neg ?_]
     by_cases ha : LiesI L2 H2 o (N / t * t)
     ·exact a ha
     ·have n1 : N / t + 1 ≤ dl := by
       rcases Nat.lt_or_ge dl (N / t + 1) with h | h
       ·exact absurd (hcx dl (N / t) _ (by omega) (by omega) i1 b) ha
       ·exact h
      have i3 := hcx (N / t + 1) (N / t + 2) (dl + 1) (by omega) (by omega) b i2
      generalize N / t = k at *
      unfold LiesI at i3 ha b
      have e1 : t * k = k * t := Nat.mul_comm _ _
      have e2 : (k + 2) * t = k * t + t + t := by rw [Nat.add_mul]; omega
      have e3 : (k + 1) * t = k * t + t := by rw [Nat.add_mul]; omega
      have e4 : (2 * k + 1) * t = 2 * (k * t) + t := by rw [Nat.add_mul, Nat.mul_assoc]; omega
      rw [e1] at hd
      rw [e2] at i3
      rw [e3] at b
      rw [e4]
      generalize k * t = z at *
      omega
   rw [hqr]
   exact hq
  ·rw [if_neg c2]
   have : dl = q := by omega
   refine ⟨rfl, ?_, hno⟩
   show Told t N L2 H2 o dl
   rw [this]
   exact hq
end Go.Proofs.YtfpcpociejefaaaGreatDoor

/- The mathematics of the document's Nearest: the float below a number, and the nearer one of it and the next, is what rounding to the nearest gives. -/
namespace Go.Proofs.YtfpcpociejefaaaGreatDoor
theorem valN_succ (n : Nat) : valN (n + 1) = valN n + (if n < 8388608 then 1 else 2 ^ (n / 8388608 - 1)) := by
 unfold valN
 by_cases h1 : n < 8388608
 ·rw [if_pos h1, if_pos h1]
  by_cases h2 : n + 1 < 8388608
  ·rw [if_pos h2]
  ·have : n = 8388607 := by omega
   subst this
   rfl
 ·rw [if_neg h1, if_neg h1, if_neg (by omega)]
  by_cases h2 : n % 8388608 = 8388607
  ·have e1 : (n + 1) % 8388608 = 0 := by omega
   have e2 : (n + 1) / 8388608 - 1 = (n / 8388608 - 1) + 1 := by omega
   rw [e1, e2, h2, Nat.pow_succ]
   generalize 2 ^ (n / 8388608 - 1) = p
   omega
  ·have e1 : (n + 1) % 8388608 = n % 8388608 + 1 := by omega
   have e2 : (n + 1) / 8388608 - 1 = n / 8388608 - 1 := by omega
   rw [e1, e2, ← Nat.add_assoc, Nat.succ_mul]
def upB (V2 S n : Nat) : Bool := decide (S < V2) || (decide (V2 = S) && decide (n % 2 = 1))
theorem cmp_scale (a b s : Nat) (hs : 0 < s) : cmpI ((a * s : Nat) : Int) ((b * s : Nat) : Int) = cmpI (a : Nat) (b : Nat) := by
 unfold cmpI
 rcases Nat.lt_trichotomy a b with h | h | h
 ·have := Nat.mul_lt_mul_of_pos_right h hs
  rw [if_pos (by omega), if_pos (by omega)]
 ·subst h
  rw [if_neg (by omega), if_neg (by omega), if_neg (by omega), if_neg (by omega)]
 ·have := Nat.mul_lt_mul_of_pos_right h hs
  rw [if_neg (by omega), if_pos (by omega), if_neg (by omega), if_pos (by omega)]
theorem against_val (A B n : Nat) : cmpI ((A * 2 ^ (-(atE n)).toNat : Nat) : Int) ((atM n * 2 ^ (atE n).toNat * B : Nat) : Int) = cmpI ((A * 2 ^ 149 : Nat) : Int) ((valN n * B : Nat) : Int) := by
 unfold atE atM valN
 by_cases h : n < 8388608
 ·rw [if_pos h, if_pos h, if_pos h]
  simp
 ·rw [if_neg h, if_neg h, if_neg h]
  have hk : 1 ≤ n / 8388608 := by omega
  generalize n / 8388608 = k at *
  generalize 8388608 + n % 8388608 = m
  by_cases hk2 : k ≤ 150
  ·rw [show (-((k : Int) - 150)).toNat = 150 - k by omega, show ((k : Int) - 150).toNat = 0 by omega, ← cmp_scale _ _ (2 ^ (k - 1)) (Nat.two_pow_pos _)]
   have e1 : A * 2 ^ (150 - k) * 2 ^ (k - 1) = A * 2 ^ 149 := by rw [Nat.mul_assoc, ← Nat.pow_add, show 150 - k + (k - 1) = 149 by omega]
   have e2 : m * 2 ^ 0 * B * 2 ^ (k - 1) = m * 2 ^ (k - 1) * B := by rw [Nat.pow_zero, Nat.mul_one, Nat.mul_assoc, Nat.mul_comm B, ← Nat.mul_assoc]
   rw [e1, e2]
  ·rw [show (-((k : Int) - 150)).toNat = 0 by omega, show ((k : Int) - 150).toNat = k - 150 by omega, ← cmp_scale _ _ (2 ^ 149) (Nat.two_pow_pos _)]
   have e2 : m * 2 ^ (k - 150) * B * 2 ^ 149 = m * 2 ^ (k - 1) * B := by
    rw [Nat.mul_assoc, Nat.mul_comm B, ← Nat.mul_assoc, Nat.mul_assoc m, ← Nat.pow_add, show k - 150 + 149 = k - 1 by omega]
   rw [e2, Nat.pow_zero, Nat.mul_one]
theorem against_half (A B n : Nat) : cmpI ((A * 2 ^ (-(atE n - 1)).toNat : Nat) : Int) (((2 * atM n + 1) * 2 ^ (atE n - 1).toNat * B : Nat) : Int) = cmpI ((2 * (A * 2 ^ 149) : Nat) : Int) (((valN n + valN (n + 1)) * B : Nat) : Int) := by
 rw [valN_succ]
 have eA : 2 * (A * 2 ^ 149) = A * 2 ^ 150 := by rw [Nat.mul_comm, Nat.mul_assoc, ← Nat.pow_succ]
 rw [eA]
 unfold atE atM valN
 by_cases h : n < 8388608
 ·rw [if_pos h, if_pos h, if_pos h, if_pos h]
  rw [show (-((-149 : Int) - 1)).toNat = 150 from rfl, show ((-149 : Int) - 1).toNat = 0 from rfl, Nat.pow_zero, Nat.mul_one, show 2 * n + 1 = n + (n + 1) by omega]
 ·rw [if_neg h, if_neg h, if_neg h, if_neg h]
  have hk : 1 ≤ n / 8388608 := by omega
  generalize n / 8388608 = k at *
  generalize 8388608 + n % 8388608 = m
  have eS : m * 2 ^ (k - 1) + (m * 2 ^ (k - 1) + 2 ^ (k - 1)) = (2 * m + 1) * 2 ^ (k - 1) := by
   rw [Nat.add_mul, Nat.mul_assoc]; omega
  rw [eS]
  generalize 2 * m + 1 = m2
  by_cases hk2 : k ≤ 151
  ·rw [show (-((k : Int) - 150 - 1)).toNat = 151 - k by omega, show ((k : Int) - 150 - 1).toNat = 0 by omega, ← cmp_scale _ _ (2 ^ (k - 1)) (Nat.two_pow_pos _)]
   have e1 : A * 2 ^ (151 - k) * 2 ^ (k - 1) = A * 2 ^ 150 := by rw [Nat.mul_assoc, ← Nat.pow_add, show 151 - k + (k - 1) = 150 by omega]
   have e2 : m2 * 2 ^ 0 * B * 2 ^ (k - 1) = m2 * 2 ^ (k - 1) * B := by rw [Nat.pow_zero, Nat.mul_one, Nat.mul_assoc, Nat.mul_comm B, ← Nat.mul_assoc]
   rw [e1, e2]
  ·rw [show (-((k : Int) - 150 - 1)).toNat = 0 by omega, show ((k : Int) - 150 - 1).toNat = k - 151 by omega, ← cmp_scale _ _ (2 ^ 150) (Nat.two_pow_pos _)]
   have e2 : m2 * 2 ^ (k - 151) * B * 2 ^ 150 = m2 * 2 ^ (k - 1) * B := by
    rw [Nat.mul_assoc, Nat.mul_comm B, ← Nat.mul_assoc, Nat.mul_assoc m2, ← Nat.pow_add, show k - 151 + 150 = k - 1 by omega]
   rw [e2, Nat.pow_zero, Nat.mul_one]
end Go.Proofs.YtfpcpociejefaaaGreatDoor

/- A float's neighbours, in whole units. -/
namespace Go.Proofs.YtfpcpociejefaaaGreatDoor
/-- ten to a place (from the 60th behind the point on), in units that hold all worths: 2 to the power -149 and ten to the power -60 -/
def Q60 : Nat := 10 ^ 60
def tP (P : Nat) : Nat := 10 ^ P * 2 ^ 149
def wN (n : Nat) : Nat := valN n * Q60
def l2N (n : Nat) : Nat := (valN (n - 1) + valN n) * Q60
def h2N (n : Nat) : Nat := (valN n + valN (n + 1)) * Q60
theorem tP_pos (P : Nat) : 0 < tP P := Nat.mul_pos (Nat.pow_pos (by decide)) (Nat.two_pow_pos _)
theorem tP_add (P k : Nat) : tP (P + k) = 10 ^ k * tP P := by
 unfold tP
 rw [Nat.pow_add, Nat.mul_comm (10 ^ P), Nat.mul_assoc]
theorem uN_scale (a b c : Nat) (hc : 0 < c) : uN (a * c) (b * c) = uN a b := by
 unfold uN
 rw [Nat.mul_mod_mul_right, Nat.mul_div_mul_right _ _ hc]
 have : a % b * c = 0 ↔ a % b = 0 := by
  rw [Nat.mul_eq_zero]
  omega
 by_cases h : a % b = 0
 ·rw [if_pos h, if_pos (this.2 h)]
 ·rw [if_neg h, if_neg (fun g => h (this.1 g))]
theorem u4_unit (n X : Nat) (hj : jF n ≤ 91) (hE : -149 ≤ atE n) : u4 n X = uN (X * 2 ^ (atE n + 149).toNat * Q60) (tP (91 - jF n)) := by
 unfold u4 tP
 rw [← uN_scale (X * 2 ^ (atE n).toNat * 10 ^ (jF n - 31)) _ (10 ^ (91 - jF n - (31 - jF n)) * 2 ^ (149 - (-(atE n)).toNat)) (Nat.mul_pos (Nat.pow_pos (by decide)) (Nat.two_pow_pos _))]
 have e1 : Q60 = 10 ^ (jF n - 31) * 10 ^ (91 - jF n - (31 - jF n)) := by
  unfold Q60
  rw [← Nat.pow_add]
  congr 1
  omega
 have e2 : (2 : Nat) ^ (atE n + 149).toNat = 2 ^ (atE n).toNat * 2 ^ (149 - (-(atE n)).toNat) := by
  rw [← Nat.pow_add]
  congr 1
  omega
 have e3 : (10 : Nat) ^ (91 - jF n) = 10 ^ (31 - jF n) * 10 ^ (91 - jF n - (31 - jF n)) := by
  rw [← Nat.pow_add]
  congr 1
  omega
 have e4 : (2 : Nat) ^ 149 = 2 ^ (-(atE n)).toNat * 2 ^ (149 - (-(atE n)).toNat) := by
  rw [← Nat.pow_add]
  congr 1
  omega
 rw [e1, e2, e3, e4]
 clear e1 e2 e3 e4
 generalize (2 : Nat) ^ (atE n).toNat = a
 generalize (2 : Nat) ^ (-(atE n)).toNat = b
 generalize (10 : Nat) ^ (jF n - 31) = c
 generalize (10 : Nat) ^ (31 - jF n) = d
 generalize (10 : Nat) ^ (91 - jF n - (31 - jF n)) = f
 generalize (2 : Nat) ^ (149 - (-(atE n)).toNat) = g
 congr 1
 ·ac_rfl
 ·ac_rfl
/-- a float's own step, in these units without the tens -/
def ulp (n : Nat) : Nat := 2 ^ (atE n + 149).toNat
theorem val_ulp (n : Nat) : valN n = atM n * ulp n := by
 unfold valN atM ulp atE
 by_cases h : n < 8388608
 ·simp only [if_pos h]
  rw [show (-149 + 149 : Int).toNat = 0 by decide, Nat.pow_zero, Nat.mul_one]
 ·simp only [if_neg h]
  congr 2
  omega
theorem val_up (n : Nat) : valN (n + 1) = valN n + ulp n := by
 rw [valN_succ]
 unfold ulp atE
 by_cases h : n < 8388608
 ·simp only [if_pos h]
  rw [show (-149 + 149 : Int).toNat = 0 by decide, Nat.pow_zero]
 ·simp only [if_neg h]
  congr 2
  omega
theorem val_down (n : Nat) (h1 : 1 ≤ n) : (skw n = false → valN n = valN (n - 1) + ulp n) ∧ (skw n = true → ∃ h, ulp n = 2 * h ∧ valN n = valN (n - 1) + h ∧ 1 ≤ h) := by
 obtain ⟨m, rfl⟩ : ∃ m, n = m + 1 := ⟨n - 1, by omega⟩
 rw [Nat.add_sub_cancel, valN_succ]
 unfold ulp atE skw
 constructor
 ·intro hs
  simp at hs
  congr 1
  by_cases h : m + 1 < 8388608
  ·rw [if_pos h, if_pos (by omega)]
   decide
  ·rw [if_neg h]
   by_cases h2 : m < 8388608
   ·have : m = 8388607 := by omega
    subst this
    decide
   ·rw [if_neg h2]
    congr 1
    have : (m + 1) % 8388608 ≠ 0 := by
     intro h0
     have := hs h0
     omega
    omega
 ·intro hs
  simp at hs
  obtain ⟨a, b⟩ := hs
  have h : ¬ m + 1 < 8388608 := by omega
  have h2 : ¬ m < 8388608 := by omega
  rw [if_neg h2]
  simp only [if_neg h]
  refine ⟨2 ^ (m / 8388608 - 1), ?_, rfl, Nat.one_le_two_pow⟩
  rw [← Nat.pow_succ']
  congr 1
  omega
def okN (k : Nat) : Prop := jN ((k : Int) - 149) ≤ 76 ∧ ((10 ^ (91 - jN ((k : Int) - 149)) * 2 ^ 149 < 2 ^ k * Q60 ∨ (2 ^ k * Q60) % (10 ^ (91 - jN ((k : Int) - 149)) * 2 ^ 149) = 0) ∧ 2 ^ k * Q60 < 10 * (10 ^ (91 - jN ((k : Int) - 149)) * 2 ^ 149))
def okS (k : Nat) : Prop := jS ((k : Int) - 149) ≤ 76 ∧ (4 * (10 ^ (91 - jS ((k : Int) - 149)) * 2 ^ 149) < 3 * (2 ^ k * Q60) ∧ 3 * (2 ^ k * Q60) < 40 * (10 ^ (91 - jS ((k : Int) - 149)) * 2 ^ 149))
instance (k : Nat) : Decidable (okN k) := by unfold okN; infer_instance
instance (k : Nat) : Decidable (okS k) := by unfold okS; infer_instance
theorem oks : ∀ k, k < 254 → okN k ∧ (1 ≤ k → okS k) := by decide +kernel
theorem at_facts2 (n : Nat) (h2 : n < 2139095040) : -149 ≤ atE n ∧ atE n ≤ 104 ∧ (skw n = true → -148 ≤ atE n) ∧ atM n % 2 = n % 2 ∧ (1 ≤ n → 1 ≤ atM n) ∧ (10 ≤ n → 10 ≤ atM n) := by
 unfold atE atM skw
 by_cases h : n < 8388608
 ·simp only [if_pos h]
  refine ⟨by omega, by omega, fun hs => ?_, trivial, id, id⟩
  simp at hs
  omega
 ·simp only [if_neg h]
  refine ⟨by omega, by omega, fun hs => ?_, by omega, fun _ => by omega, fun _ => by omega⟩
  simp at hs
  omega
theorem lin1 (v h z : Nat) : (v + (v + h)) * z = 2 * (v * z) + h * z := by
 simp only [Nat.add_mul]
 omega
theorem lin2 (v h z : Nat) : (v + h + (v + h + 2 * h)) * z = 2 * (v * z) + 4 * (h * z) := by
 simp only [Nat.add_mul, Nat.mul_assoc]
 omega
theorem lin3 (v h z : Nat) : (v + h + (v + h + h)) * z = 2 * (v * z) + 3 * (h * z) := by
 simp only [Nat.add_mul]
 omega
theorem sp_of (n : Nat) (h1 : 1 ≤ n) (h2 : n < 2139095040) : Sp (tP (91 - jF n)) (wN n) (l2N n) (h2N n) (n % 2) ∧ tP (91 - jF n) ≤ wN n ∧ (10 ≤ n → 10 * tP (91 - jF n) ≤ wN n) ∧ jF n ≤ 76 := by
 obtain ⟨a1, a2, a3, a4, a5, a6⟩ := at_facts2 n h2
 have hv := val_ulp n
 have hu := val_up n
 obtain ⟨d1, d2⟩ := val_down n h1
 obtain ⟨k, hk⟩ : ∃ k : Nat, atE n = (k : Int) - 149 := ⟨(atE n + 149).toNat, by omega⟩
 have hk2 : k < 254 := by omega
 have hul : ulp n = 2 ^ k := by unfold ulp; congr 1; omega
 have hp : 0 < 2 ^ k := Nat.two_pow_pos k
 have h60 : 0 < Q60 := Nat.pow_pos (by decide)
 have ht0 := tP_pos (91 - jF n)
 have hM := a5 h1
 by_cases hs : skw n = true
 ·obtain ⟨b1, b2, b3⟩ := (oks k hk2).2 (by have := a3 hs; omega)
  obtain ⟨hh, e1, e2, e3⟩ := d2 hs
  have hj : jF n = jS ((k : Int) - 149) := by unfold jF; rw [if_pos hs, hk]
  rw [← hj] at b1 b2 b3
  change 4 * tP (91 - jF n) < _ at b2
  change _ < 40 * tP (91 - jF n) at b3
  have hM8 : 8388608 ≤ atM n := by
   unfold atM skw at *
   simp at hs
   rw [if_neg (by omega)]
   omega
  generalize tP (91 - jF n) = t at *
  rw [hul] at e1 hv hu
  have hb : 10 * t ≤ wN n := by
   unfold wN
   rw [hv, Nat.mul_assoc]
   have : 8388608 * (2 ^ k * Q60) ≤ atM n * (2 ^ k * Q60) := Nat.mul_le_mul_right _ hM8
   omega
  have f1 : wN n = valN (n - 1) * Q60 + hh * Q60 := by unfold wN; rw [e2, Nat.add_mul]
  have f2 : l2N n = 2 * (valN (n - 1) * Q60) + hh * Q60 := by
   unfold l2N
   rw [e2]
   exact lin1 _ _ _
  have f3 : h2N n = 2 * (valN (n - 1) * Q60) + 4 * (hh * Q60) := by
   unfold h2N
   rw [hu, e1, e2]
   exact lin2 _ _ _
  have f4 : 0 < hh * Q60 := Nat.mul_pos (by omega) h60
  rw [e1, Nat.mul_assoc 2 hh] at b2 b3
  rw [f1] at hb
  rw [f1, f2, f3]
  generalize valN (n - 1) * Q60 = y at *
  generalize hh * Q60 = x at *
  exact ⟨⟨ht0, by omega, by omega, by omega, by omega, .inl (by omega), by omega⟩, by omega, fun _ => hb, b1⟩
 ·have hs0 : skw n = false := by simpa using hs
  obtain ⟨b1, b2, b3⟩ := (oks k hk2).1
  have e2 := d1 hs0
  have hj : jF n = jN ((k : Int) - 149) := by unfold jF; rw [if_neg hs, hk]
  rw [← hj] at b1 b2 b3
  change tP (91 - jF n) < _ ∨ _ % tP (91 - jF n) = 0 at b2
  change _ < 10 * tP (91 - jF n) at b3
  generalize tP (91 - jF n) = t at *
  rw [hul] at e2 hv hu
  have hw : wN n = atM n * (2 ^ k * Q60) := by unfold wN; rw [hv, Nat.mul_assoc]
  have f0 : 0 < 2 ^ k * Q60 := Nat.mul_pos hp h60
  have f1 : wN n = valN (n - 1) * Q60 + 2 ^ k * Q60 := by unfold wN; rw [e2, Nat.add_mul]
  have f2 : l2N n = 2 * (valN (n - 1) * Q60) + 2 ^ k * Q60 := by
   unfold l2N
   rw [e2]
   exact lin1 _ _ _
  have f3 : h2N n = 2 * (valN (n - 1) * Q60) + 3 * (2 ^ k * Q60) := by
   unfold h2N
   rw [hu, e2]
   exact lin3 _ _ _
  have hge : 2 ^ k * Q60 ≤ wN n := by rw [f1]; omega
  have ht1 : t ≤ 2 ^ k * Q60 := by
   rcases b2 with b2 | b2
   ·omega
   ·exact Nat.le_of_dvd f0 (Nat.dvd_of_mod_eq_zero b2)
  have hm : 2 * t < 2 * (2 ^ k * Q60) ∨ wN n % t = 0 := by
   rcases b2 with b2 | b2
   ·exact .inl (by omega)
   ·right
    rw [hw]
    exact Nat.mod_eq_zero_of_dvd (Nat.dvd_mul_left_of_dvd (Nat.dvd_of_mod_eq_zero b2) _)
  have h10 : 10 ≤ n → 10 * t ≤ wN n := fun h => by
   have g1 : 10 * (2 ^ k * Q60) ≤ wN n := by rw [hw]; exact Nat.mul_le_mul_right _ (a6 h)
   omega
  rw [f1] at hm
  have h12 : 2 * t < h2N n - l2N n ∨ wN n % t = 0 := by
   rw [f1, f2, f3]
   rcases hm with hm | hm
   ·left
    omega
   ·exact .inr hm
  refine ⟨⟨ht0, by omega, by omega, by omega, by omega, h12, by omega⟩, by omega, h10, b1⟩
end Go.Proofs.YtfpcpociejefaaaGreatDoor

/- The library's digits without their noughts are what the document comes to. -/
namespace Go.Proofs.YtfpcpociejefaaaGreatDoor
theorem at_lo (n : Nat) : -149 ≤ atE n := by unfold atE; split <;> omega
theorem shN_units (n : Nat) (h1 : 1 ≤ n) (h2 : n < 2139095040) (hj : jF n ≤ 76) : shN n = shD (uN (2 * l2N n) (tP (91 - jF n))) (uN (2 * h2N n) (tP (91 - jF n))) (uN (4 * wN n) (tP (91 - jF n))) (n % 2) := by
 obtain ⟨a1, a2, a3, a4, a5, a6⟩ := at_facts2 n h2
 have hv := val_ulp n
 have hu := val_up n
 obtain ⟨d1, d2⟩ := val_down n h1
 have e1 : 4 * atM n * ulp n * Q60 = 4 * wN n := by unfold wN; rw [hv, Nat.mul_assoc 4, Nat.mul_assoc 4]
 have e2 : (4 * atM n + 2) * ulp n * Q60 = 2 * h2N n := by
  unfold h2N
  rw [hu, hv]
  generalize ulp n = u
  simp only [Nat.add_mul, Nat.mul_add, Nat.mul_assoc]
  omega
 have e3 : xlo n * ulp n * Q60 = 2 * l2N n := by
  unfold l2N xlo
  have hM := a5 h1
  by_cases hs : skw n = true
  ·obtain ⟨h, f1, f2, f3⟩ := d2 hs
   rw [if_pos hs]
   have g1 : (4 * atM n - 1) * ulp n = 4 * valN n - ulp n := by rw [hv, Nat.sub_mul, Nat.mul_assoc, Nat.one_mul]
   rw [g1, ← Nat.mul_assoc]
   congr 1
   omega
  ·have hs0 : skw n = false := by simpa using hs
   have f2 := d1 hs0
   rw [if_neg hs]
   have g1 : (4 * atM n - 2) * ulp n = 4 * valN n - 2 * ulp n := by rw [hv, Nat.sub_mul, Nat.mul_assoc]
   rw [g1, ← Nat.mul_assoc]
   congr 1
   omega
 unfold shN
 rw [u4_unit n _ (by omega) a1, u4_unit n _ (by omega) a1, u4_unit n _ (by omega) a1, a4]
 change shD (uN (xlo n * ulp n * Q60) _) (uN ((4 * atM n + 2) * ulp n * Q60) _) (uN (4 * atM n * ulp n * Q60) _) _ = _
 rw [e1, e2, e3]
/-- the digits q, so many, with the last one at ten to the power P - 60, are the library's without their noughts -/
def IsD (n q s P : Nat) : Prop := 1 ≤ s ∧ 10 ^ (s - 1) ≤ q ∧ q < 10 ^ s ∧ q % 10 ≠ 0 ∧ ∃ z : Nat, dF n = q * 10 ^ z ∧ (P : Int) - 60 = pF n + (z : Int)
theorem smallA : ∀ n, n < 10 → 1 ≤ n → (shN n).2 = 1 → n = 7 := by decide +kernel
theorem sevenA : dF 7 = 1 ∧ jF 7 = 76 ∧ wN 7 / tP 15 = 9 ∧ ¬ LiesI (l2N 7) (h2N 7) (7 % 2) (9 * tP 15) := by
 unfold LiesI
 decide +kernel
theorem in_one (t L2 H2 o x y : Nat) (thin : H2 - L2 < 20 * t) (hx : LiesI L2 H2 o (x * (10 * t))) (hy : LiesI L2 H2 o (y * (10 * t))) : x = y := by
 unfold LiesI at hx hy
 rcases Nat.lt_trichotomy x y with h | h | h
 ·have : (x + 1) * (10 * t) ≤ y * (10 * t) := Nat.mul_le_mul_right _ h
  rw [Nat.add_mul] at this
  omega
 ·exact h
 ·have : (y + 1) * (10 * t) ≤ x * (10 * t) := Nat.mul_le_mul_right _ h
  rw [Nat.add_mul] at this
  omega
theorem out_prog (n q s P : Nat) (h1 : 1 ≤ n) (h2 : n < 2139095040) (hs : 1 ≤ s) (hk1 : tP (P + s - 1) ≤ wN n) (hk2 : wN n < tP (P + s)) (ht : Told (tP P) (wN n) (l2N n) (h2N n) (n % 2) q)
  (hno : s = 1 ∨ ∀ x, ¬ LiesI (l2N n) (h2N n) (n % 2) (x * (10 * tP P))) : (q ≠ 10 ^ s ∧ IsD n q s P) ∨ (q = 10 ^ s ∧ IsD n 1 1 (P + s)) := by
 obtain ⟨sp, big, big10, hj⟩ := sp_of n h1 h2
 have hsh := shN_units n h1 h2 hj
 have hD := shD_told _ _ _ _ _ sp
 rw [← hsh] at hD
 have hpF : pF n = ((91 - jF n : Nat) : Int) - 60 + ((shN n).2 : Int) := by unfold pF; omega
 have hdF : dF n = (shN n).1 := rfl
 rw [← hdF] at hD
 have hsm := fun h => smallA n h h1
 generalize hz : (shN n).2 = z0 at *
 clear hsh hdF
 have q1 : 10 ^ (s - 1) ≤ wN n / tP P := by
  rw [show P + s - 1 = P + (s - 1) by omega, tP_add] at hk1
  exact (Nat.le_div_iff_mul_le (tP_pos P)).2 hk1
 have q2 : wN n / tP P < 10 ^ s := by
  rw [tP_add] at hk2
  exact (Nat.div_lt_iff_lt_mul (tP_pos P)).2 hk2
 have q3 : 10 ^ (s - 1) ≤ q ∧ q ≤ 10 ^ s := by
  rcases ht with ⟨h, _⟩ | ⟨h, _⟩ <;> omega
 have hin := ht.liesI
 -- no tenth: not where one more place ahead would have done
 have hten : s ≠ 1 → q % 10 ≠ 0 := fun h hm => by
  refine (hno.resolve_left h) (q / 10) ?_
  rw [← Nat.mul_assoc, show q / 10 * 10 = q by omega]
  exact hin
 have hpow : s ≠ 1 → q ≠ 10 ^ s := fun h he => by
  refine hten h ?_
  rw [he]
  obtain ⟨r, rfl⟩ : ∃ r, s = r + 1 := ⟨s - 1, by omega⟩
  rw [Nat.pow_succ]
  exact Nat.mul_mod_left _ _
 have hlow : s = 1 → 91 - jF n ≤ P := fun h => by
  subst h
  rcases Nat.lt_or_ge P (91 - jF n) with g | g
  ·exfalso
   obtain ⟨i, hi⟩ : ∃ i, 91 - jF n = P + 1 + i := ⟨91 - jF n - P - 1, by omega⟩
   rw [hi, tP_add] at big
   have : 1 * tP (P + 1) ≤ 10 ^ i * tP (P + 1) := Nat.mul_le_mul_right _ (Nat.one_le_pow _ _ (by decide))
   omega
  ·exact g
 generalize hP0 : 91 - jF n = P0 at *
 rcases hD with ⟨rfl, hA⟩ | ⟨rfl, hB, hB2⟩
 ·rcases Nat.lt_or_ge P0 P with g | g
  ·obtain ⟨i, rfl⟩ : ∃ i, P = P0 + 1 + i := ⟨P - P0 - 1, by omega⟩
   have e : q * tP (P0 + 1 + i) = q * 10 ^ i * (10 * tP P0) := by
    rw [tP_add, tP_add, Nat.pow_one, Nat.mul_assoc]
   rw [e] at hin
   have hd := in_one _ _ _ _ _ _ sp.thin hA hin
   by_cases h : s = 1
   ·subst h
    by_cases h10 : q = 10 ^ 1
    ·right
     refine ⟨h10, by decide, by decide, by decide, by decide, i + 1, ?_, by rw [hpF]; omega⟩
     rw [hd, h10, show (10 : Nat) ^ 1 = 10 from rfl, Nat.pow_succ, Nat.one_mul, Nat.mul_comm]
    ·left
     exact ⟨h10, by decide, q3.1, by omega, by simp at q3 h10; omega, i, hd, by rw [hpF]; omega⟩
   ·left
    have := hpow h
    exact ⟨this, hs, q3.1, by omega, hten h, i, hd, by rw [hpF]; omega⟩
  ·obtain ⟨i, rfl⟩ : ∃ i, P0 = P + i := ⟨P0 - P, by omega⟩
   by_cases h : s = 1
   ·subst h
    have hi : i = 0 := by have := hlow rfl; omega
    subst hi
    rw [Nat.add_zero] at *
    by_cases hn : 10 ≤ n
    ·exfalso
     have b := big10 hn
     have e : tP (P + 1) = 10 * tP P := by rw [tP_add, Nat.pow_one]
     omega
    ·have h7 := hsm (by omega) rfl
     subst h7
     obtain ⟨s1, s2, s3, s4⟩ := sevenA
     have hP : P = 15 := by omega
     subst hP
     right
     have hq : q = 10 := by
      rcases ht with ⟨_, h, _⟩ | ⟨h, _⟩
      ·rw [s3] at h
       exact absurd h s4
      ·rw [s3] at h
       exact h
     refine ⟨hq, by decide, by decide, by decide, by decide, 0, by rw [s1], by rw [hpF]; omega⟩
   ·exfalso
    refine (hno.resolve_left h) (dF n * 10 ^ i) ?_
    rw [tP_add] at hA
    rw [show dF n * 10 ^ i * (10 * tP P) = dF n * (10 * (10 ^ i * tP P)) by ac_rfl]
    exact hA
 ·rcases Nat.lt_trichotomy P0 P with g | g | g
  ·exfalso
   obtain ⟨i, rfl⟩ : ∃ i, P = P0 + 1 + i := ⟨P - P0 - 1, by omega⟩
   have e : q * tP (P0 + 1 + i) = q * 10 ^ i * (10 * tP P0) := by
    rw [tP_add, tP_add, Nat.pow_one, Nat.mul_assoc]
   rw [e] at hin
   exact hB2 _ hin
  ·subst g
   left
   have hq := told_one _ _ _ _ _ _ _ ht hB
   have h10 : q % 10 ≠ 0 := fun hm => by
    refine hB2 (q / 10) ?_
    rw [← Nat.mul_assoc, show q / 10 * 10 = q by omega]
    exact hin
   have hne : q ≠ 10 ^ s := fun he => by
    refine h10 ?_
    rw [he]
    obtain ⟨r, rfl⟩ : ∃ r, s = r + 1 := ⟨s - 1, by omega⟩
    rw [Nat.pow_succ]
    exact Nat.mul_mod_left _ _
   refine ⟨hne, hs, q3.1, by omega, h10, 0, by rw [Nat.pow_zero, Nat.mul_one, hq], by rw [hpF]; omega⟩
  ·exfalso
   by_cases h : s = 1
   ·have := hlow h
    omega
   ·obtain ⟨i, rfl⟩ : ∃ i, P0 = P + 1 + i := ⟨P0 - P - 1, by omega⟩
    refine (hno.resolve_left h) (dF n * 10 ^ i) ?_
    have hin2 := hB.liesI
    rw [tP_add, tP_add, Nat.pow_one] at hin2
    rw [show dF n * 10 ^ i * (10 * tP P) = dF n * (10 ^ i * (10 * tP P)) by ac_rfl]
    exact hin2
/-- where a tenth of these units would do, some number of them does: the document comes to an end -/
theorem some_in (n P : Nat) (h1 : 1 ≤ n) (h2 : n < 2139095040) (hP : P ≤ 91 - jF n) : ∃ x, LiesI (l2N n) (h2N n) (n % 2) (x * tP P) := by
 obtain ⟨sp, big, big10, hj⟩ := sp_of n h1 h2
 have hD := shD_told _ _ _ _ _ sp
 obtain ⟨i, hi⟩ : ∃ i, 91 - jF n = P + i := ⟨91 - jF n - P, by omega⟩
 rcases hD with ⟨_, h⟩ | ⟨_, h, _⟩
 ·rw [hi, tP_add, ← Nat.mul_assoc, ← Nat.mul_assoc] at h
  exact ⟨_, h⟩
 ·have h := h.liesI
  rw [hi, tP_add, ← Nat.mul_assoc] at h
  exact ⟨_, h⟩
end Go.Proofs.YtfpcpociejefaaaGreatDoor

/- The document's Nearest. -/
namespace Go.Proofs.YtfpcpociejefaaaGreatDoor
open Go.RowKit Go.PlainAid
theorem at_le (n : Nat) (h : n ≤ 2139095040) (w : World) : Calls Tryz.prog 116 #[.int .u32 (n : Int)] w fun e w' => e = .returned (.tuple #[.int .u64 (atM n : Nat), .int .i64 (atE n)]) ∧ w' = w := by
 by_cases h1 : n < 2139095040
 ·exact at_any n h1 w
 ·obtain rfl : n = 2139095040 := by omega
  have hM : ((atM 2139095040 : Nat) : Int) = 8388608 := by decide
  have hE : atE 2139095040 = 105 := by decide
  rw [hM, hE]
  go_enter Tryz.func116, Tryz.ntmps116
  go_wp2
  go_ret2
  exact ⟨rfl, rfl⟩
theorem at_bounds (n : Nat) (h : n ≤ 2139095040) : atM n < 16777216 ∧ -149 ≤ atE n ∧ atE n ≤ 105 := by
 unfold atM atE
 split <;> omega
/-- n is the float below A over B, or the last one -/
def LowB (A B n : Nat) : Prop := n ≤ 2139095040 ∧ valN n * B ≤ A * 2 ^ 149 ∧ (n = 2139095040 ∨ A * 2 ^ 149 < valN (n + 1) * B)
def nearB (A B n : Nat) : Nat := if n = 2139095040 then n else if upB (2 * (A * 2 ^ 149)) ((valN n + valN (n + 1)) * B) n = true then n + 1 else n
/-- how the halving stands -/
def Hal (A B lo hi : Nat) : Prop := lo < hi ∧ hi ≤ 2139095041 ∧ valN lo * B ≤ A * 2 ^ 149 ∧ (hi = 2139095041 ∨ A * 2 ^ 149 < valN hi * B)
set_option maxRecDepth 1000000 in
set_option maxHeartbeats 3200000 in
theorem nearest_any (fa fb : Value) (A B K L : Nat) (w : World) (ha : Big w fa A K) (hb : Big w fb B L) (hK : K ≤ 3000) (hL : L ≤ 3000) :
  Calls Tryz.prog 120 #[.agg #[fa, fb]] w fun r w' => ∃ n, LowB A B n ∧ r = .returned (.int .u32 ((nearB A B n : Nat) : Int)) ∧ Keep [] w w' := by
 obtain ⟨ao, na, ca, rfl⟩ := ha.sl
 obtain ⟨bo, nb, cb, rfl⟩ := hb.sl
 have hAg : ∀ (n : Nat) (wr : World), n ≤ 2139095040 → Keep [] w wr → _ := fun n wr hn kw => against_any (.slice ao na ca) (.slice bo nb cb) A B K L (atM n) (atE n) wr (ha.keep kw (Off.nil _)) (hb.keep kw (Off.nil _)) hK hL (by have := at_bounds n hn; omega) (by have := at_bounds n hn; omega) (by have := at_bounds n hn; omega)
 have hAh : ∀ (n : Nat) (wr : World), n ≤ 2139095040 → Keep [] w wr → _ := fun n wr hn kw => against_any (.slice ao na ca) (.slice bo nb cb) A B K L (2 * atM n + 1) (atE n - 1) wr (ha.keep kw (Off.nil _)) (hb.keep kw (Off.nil _)) hK hL (by have := at_bounds n hn; omega) (by have := at_bounds n hn; omega) (by have := at_bounds n hn; omega)
 simp only [against_val] at hAg
 simp only [against_half] at hAh
 have HG : Hid _ := hAg
 have HH : Hid _ := hAh
 clear hAg hAh ha hb
 go_enter Tryz.func120, Tryz.ntmps120
 go_wp2
 go_loopw [3, 4] (fun lv hv wr => ∃ lo hi : Nat, lv = .int .u32 (lo : Int) ∧ hv = .int .u32 (hi : Int) ∧ Hid (Hal A B lo hi) ∧ Hid (wr.cell? ⟨w.heap.size, 0, none⟩ = some (.slice ao na ca) ∧ wr.cell? ⟨w.heap.size, 1, none⟩ = some (.slice bo nb cb) ∧ Keep [] w wr)) (fun lv hv _ => (intOf hv - intOf lv).toNat)
 case atStart => exact ⟨0, 2139095041, rfl, rfl, (⟨by decide, Nat.le_refl _, by rw [valN_zero]; simp, .inl rfl⟩ : Hal A B 0 2139095041), (⟨by simp, by simp, Keep.alloc1 w _⟩ : _ ∧ _ ∧ _)⟩
 case round =>
  obtain ⟨lo, hi, rfl, rfl, HI, HC⟩ := hrel
  have hlh : lo < hi := HI.out.1
  have hh1 : hi ≤ 2139095041 := HI.out.2.1
  have hc0 := HC.out.1
  have hc1 := HC.out.2.1
  by_cases hd : lo + 1 < hi
  ·have hdi : 1 < (hi : Int) - lo := by omega
   obtain ⟨m, hmid⟩ : ∃ m : Nat, m = lo + (hi - lo) / 2 := ⟨_, rfl⟩
   have hmle : m ≤ 2139095040 := by omega
   have hAt := at_le m hmle
   have hmz : (m : Int) = (lo : Int) + ((hi : Int) - lo) / 2 := by omega
   have HZ : Hid ((m : Int) = (lo : Int) + ((hi : Int) - lo) / 2 ∧ lo < m ∧ m < hi) := ⟨hmz, by omega, by omega⟩
   have hag := HG.out m wr hmle HC.out.2.2
   rw [hmz] at hAt
   clear hmz hmid
   have hbd := at_bounds m hmle
   have hM0 : Hid (0 ≤ (atM m : Int) ∧ (atM m : Int) ≤ 16777216) := show 0 ≤ (atM m : Int) ∧ (atM m : Int) ≤ 16777216 by omega
   by_cases hc : valN m * B ≤ A * 2 ^ 149
   ·have hge : (0 : Int) ≤ cmpI ((A * 2 ^ 149 : Nat) : Int) ((valN m * B : Nat) : Int) := by unfold cmpI; split; omega; split <;> omega
    have HJ : Hid (Hal A B m hi) := (⟨HZ.out.2.2, hh1, hc, HI.out.2.2.2⟩ : Hal A B m hi)
    clear hc
    generalize cmpI ((A * 2 ^ 149 : Nat) : Int) ((valN m * B : Nat) : Int) = z at *
    generalize ((atM m : Nat) : Int) = M at *
    generalize atE m = E at *
    go_wp2_with (first
     | (go_at_call 116; refine (hAt _).mono ?_; rintro e9 w9 ⟨rfl, hw9⟩; obtain rfl := hw9.symm)
     | (go_at_call 117; refine hag.mono ?_; rintro e9 w8 ⟨rfl, hk8⟩))
    have HC2 : Hid (w8.cell? ⟨w.heap.size, 0, none⟩ = some (.slice ao na ca) ∧ w8.cell? ⟨w.heap.size, 1, none⟩ = some (.slice bo nb cb) ∧ Keep [] w w8) := ⟨hk8.cell' HC.out.1 (by simp), hk8.cell' HC.out.2.1 (by simp), HC.out.2.2.trans' hk8⟩
    clear hk8
    go_roundw
    case rel => exact ⟨m, hi, by rw [HZ.out.1], rfl, HJ, HC2⟩
    case measure => have := HZ.out; simp only [intOf]; omega
   ·have hge : ¬ (0 : Int) ≤ cmpI ((A * 2 ^ 149 : Nat) : Int) ((valN m * B : Nat) : Int) := by unfold cmpI; rw [if_pos (by omega)]; decide
    have HJ : Hid (Hal A B lo m) := (⟨HZ.out.2.1, by omega, HI.out.2.2.1, .inr (by omega)⟩ : Hal A B lo m)
    clear hc
    generalize cmpI ((A * 2 ^ 149 : Nat) : Int) ((valN m * B : Nat) : Int) = z at *
    generalize ((atM m : Nat) : Int) = M at *
    generalize atE m = E at *
    go_wp2_with (first
     | (go_at_call 116; refine (hAt _).mono ?_; rintro e9 w9 ⟨rfl, hw9⟩; obtain rfl := hw9.symm)
     | (go_at_call 117; refine hag.mono ?_; rintro e9 w8 ⟨rfl, hk8⟩))
    have HC2 : Hid (w8.cell? ⟨w.heap.size, 0, none⟩ = some (.slice ao na ca) ∧ w8.cell? ⟨w.heap.size, 1, none⟩ = some (.slice bo nb cb) ∧ Keep [] w w8) := ⟨hk8.cell' HC.out.1 (by simp), hk8.cell' HC.out.2.1 (by simp), HC.out.2.2.trans' hk8⟩
    clear hk8
    go_roundw
    case rel => exact ⟨lo, m, rfl, by rw [HZ.out.1], HJ, HC2⟩
    case measure => have := HZ.out; simp only [intOf]; omega
  ·have hdi : ¬ 1 < (hi : Int) - lo := by omega
   have hhi : hi = lo + 1 := by omega
   have HLow : Hid (LowB A B lo) := (⟨by omega, HI.out.2.2.1, by
    rcases HI.out.2.2.2 with h | h
    ·exact .inl (by omega)
    ·exact .inr (by rw [← hhi]; exact h)⟩ : LowB A B lo)
   clear HI HG hd
   by_cases ho : lo = 2139095040
   ·have HN : Hid (nearB A B lo = lo) := show nearB A B lo = lo by unfold nearB; rw [if_pos ho]
    have t0 : ((lo : Int) == 2139095040) = true := by simp; omega
    clear HH hhi ho
    go_wp2
    go_ret
    exact ⟨lo, HLow.out, by rw [HN.out]; rfl, HC.out.2.2⟩
   ·have hlo : lo ≤ 2139095040 := HLow.out.1
    have hAt := at_le lo hlo
    have hah := HH.out lo wr hlo HC.out.2.2
    rw [show ((2 * atM lo + 1 : Nat) : Int) = 2 * ((atM lo : Nat) : Int) + 1 by omega] at hah
    have hbd := at_bounds lo hlo
    have t0 : ((lo : Int) == 2139095040) = false := by simp; omega
    have hM0 : (0 : Int) ≤ ((atM lo : Nat) : Int) ∧ ((atM lo : Nat) : Int) < 16777216 := by omega
    have hE0 : -149 ≤ atE lo ∧ atE lo ≤ 105 := hbd.2
    have hln : (lo : Int) ≤ 2139095039 := by omega
    clear HH hhi hbd
    have hnear : nearB A B lo = if upB (2 * (A * 2 ^ 149)) ((valN lo + valN (lo + 1)) * B) lo = true then lo + 1 else lo := by unfold nearB; rw [if_neg ho]
    unfold upB at hnear
    generalize hS : (valN lo + valN (lo + 1)) * B = S at hnear hah
    generalize hV2 : 2 * (A * 2 ^ 149) = V2 at hnear hah
    have HS : Hid ((valN lo + valN (lo + 1)) * B = S ∧ 2 * (A * 2 ^ 149) = V2) := ⟨hS, hV2⟩
    clear hS hV2
    generalize ((atM lo : Nat) : Int) = M at *
    generalize atE lo = E at *
    obtain ⟨hM1, hM2⟩ := hM0
    obtain ⟨hE1, hE2⟩ := hE0
    rcases Nat.lt_trichotomy S V2 with c1 | c1 | c1
    ·have hz : cmpI (V2 : Nat) (S : Nat) = 1 := by unfold cmpI; rw [if_neg (by omega), if_pos (by omega)]
     rw [hz] at hah
     have HN : Hid (((nearB A B lo : Nat) : Int) = (lo : Int) + 1) := show ((nearB A B lo : Nat) : Int) = (lo : Int) + 1 by rw [hnear, decide_eq_true c1, Bool.true_or, if_pos rfl]; omega
     clear hnear hz c1 ho
     go_wp2_with (first
      | (go_at_call 116; refine (hAt _).mono ?_; rintro e9 w9 ⟨rfl, hw9⟩; obtain rfl := hw9.symm)
      | (go_at_call 117; refine hah.mono ?_; rintro e9 w8 ⟨rfl, hk8⟩))
     go_ret
     refine ⟨lo, HLow.out, ?_, HC.out.2.2.trans' hk8⟩
     rw [HN.out]
     rfl
    ·have hz : cmpI (V2 : Nat) (S : Nat) = 0 := by unfold cmpI; rw [if_neg (by omega), if_neg (by omega)]
     rw [hz] at hah
     by_cases hp : lo % 2 = 1
     ·have HN : Hid (((nearB A B lo : Nat) : Int) = (lo : Int) + 1) := show ((nearB A B lo : Nat) : Int) = (lo : Int) + 1 by rw [hnear, decide_eq_true c1.symm, decide_eq_true hp, Bool.and_true, Bool.or_true, if_pos rfl]; omega
      have t1 : ((lo : Int) % 2 == 1) = true := by simp; omega
      clear hnear hz c1 ho
      go_wp2_with (first
       | (go_at_call 116; refine (hAt _).mono ?_; rintro e9 w9 ⟨rfl, hw9⟩; obtain rfl := hw9.symm)
       | (go_at_call 117; refine hah.mono ?_; rintro e9 w8 ⟨rfl, hk8⟩))
      go_ret
      refine ⟨lo, HLow.out, ?_, HC.out.2.2.trans' hk8⟩
      rw [HN.out]
      rfl
     ·have HN : Hid (((nearB A B lo : Nat) : Int) = (lo : Int)) := show ((nearB A B lo : Nat) : Int) = (lo : Int) by rw [hnear, decide_eq_false hp, Bool.and_false, Bool.or_false, decide_eq_false (show ¬ S < V2 by omega), if_neg (by decide)]
      have t1 : ((lo : Int) % 2 == 1) = false := by simp; omega
      clear hnear hz c1 ho
      go_wp2_with (first
       | (go_at_call 116; refine (hAt _).mono ?_; rintro e9 w9 ⟨rfl, hw9⟩; obtain rfl := hw9.symm)
       | (go_at_call 117; refine hah.mono ?_; rintro e9 w8 ⟨rfl, hk8⟩))
      go_ret
      refine ⟨lo, HLow.out, ?_, HC.out.2.2.trans' hk8⟩
      rw [HN.out]
      rfl
    ·have hz : cmpI (V2 : Nat) (S : Nat) = -1 := by unfold cmpI; rw [if_pos (by omega)]
     rw [hz] at hah
     have HN : Hid (((nearB A B lo : Nat) : Int) = (lo : Int)) := show ((nearB A B lo : Nat) : Int) = (lo : Int) by rw [hnear, decide_eq_false (show ¬ S < V2 by omega), decide_eq_false (show ¬ V2 = S by omega), Bool.false_and, Bool.or_false, if_neg (by decide)]
     clear hnear hz c1 ho
     go_wp2_with (first
      | (go_at_call 116; refine (hAt _).mono ?_; rintro e9 w9 ⟨rfl, hw9⟩; obtain rfl := hw9.symm)
      | (go_at_call 117; refine hah.mono ?_; rintro e9 w8 ⟨rfl, hk8⟩))
     go_ret
     refine ⟨lo, HLow.out, ?_, HC.out.2.2.trans' hk8⟩
     rw [HN.out]
     rfl
end Go.Proofs.YtfpcpociejefaaaGreatDoor
