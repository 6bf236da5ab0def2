/- Doublings and halvings of reals of 64 bits, exact; the way from there to 32 bits. -/
import Derived.Test.YtncbanpimfhhbaaGreatDoorFloN

namespace Go.Proofs.YtncbanpimfhhbaaGreatDoor
open Go.RowKit Go.PlainAid Go.Lib

/-- the bits of M * 2^(E - 52), M with 53 digits -/
def wD (M : Nat) (E : Int) : Nat := (E + 1022).toNat * 4503599627370496 + M

theorem dconsts : Ieee.double.binade = 4503599627370496 ∧ Ieee.double.infRung = 9218868437227405312 ∧ Ieee.double.leastPlace = -1074 ∧ Ieee.double.signWeight = 9223372036854775808 := by decide

theorem log2_eq {n k : Nat} (h1 : 2 ^ k ≤ n) (h2 : n < 2 ^ (k + 1)) : n.log2 = k := by
  have h0 : n ≠ 0 := by have := Nat.two_pow_pos k; omega
  have a1 : n.log2 < k + 1 := (Nat.log2_lt h0).2 h2
  have a2 : ¬ n.log2 < k := fun h => by have := (Nat.log2_lt h0).1 h; omega
  omega

theorem cut_exact (s : Bool) (M t L : Nat) (_hM : 0 < M) (hL : (M * 2 ^ t).log2 = L) (ht : t ≤ L + 2) : Ieee.Toward.cut .even s (M * 2 ^ t) t = M := by
  have hp : 0 < 2 ^ t := Nat.two_pow_pos t
  unfold Ieee.Toward.cut
  simp only [Nat.one_shiftLeft, hL]
  rw [Nat.min_eq_left ht, Nat.mul_div_cancel _ hp, Nat.mul_mod_left]
  have h1 : decide (2 ^ t < 2 * 0) = false := by simp
  have h2 : (2 ^ t == 2 * 0) = false := by simp
  rw [h1, h2]
  rfl

theorem nearD (M t : Nat) (E place : Int) (h1 : 4503599627370496 ≤ M) (h2 : M < 9007199254740992) (hE : place + 52 + t = E) (lo : -1022 ≤ E) (hi : E ≤ 1023) : Ieee.double.nearest false (M * 2 ^ t) place = wD M E := by
  obtain ⟨c1, c2, c3, c4⟩ := dconsts
  have hp : 0 < 2 ^ t := Nat.two_pow_pos t
  have hlog : (M * 2 ^ t).log2 = 52 + t := by
    apply log2_eq
    · rw [Nat.pow_add]; exact Nat.mul_le_mul_right _ h1
    · rw [show 52 + t + 1 = 53 + t by omega, Nat.pow_add]; exact Nat.mul_lt_mul_of_pos_right h2 hp
  have hne : M * 2 ^ t ≠ 0 := by
    have := Nat.mul_pos (show 0 < M by omega) hp
    omega
  unfold Ieee.Format.nearest
  rw [if_neg hne]
  simp only [c1, c2, c3, hlog, show Ieee.double.fractionBits = 52 from rfl]
  rw [show max (place + ((52 + t : Nat) : Int) - ((52 : Nat) : Int)) (-1074) = place + t by omega]
  rw [show (place - (place + (t : Int))).toNat = 0 by omega, show (place + (t : Int) - place).toNat = t by omega, Nat.shiftLeft_eq, Nat.pow_zero, Nat.mul_one]
  rw [cut_exact false M t (52 + t) (by omega) hlog (by omega)]
  rw [show (place + (t : Int) - -1074).toNat = (E + 1022).toNat by omega]
  unfold Ieee.Format.word wD
  simp only [Bool.false_eq_true, if_false]
  rw [Nat.min_eq_left]
  have : (E + 1022).toNat ≤ 2045 := by omega
  omega

/-- a small whole number as a real of 64 bits -/
theorem nearS (m : Nat) (h0 : 0 < m) (hm : m < 16777216) : Ieee.double.nearest false m 0 = wD (m * 2 ^ (52 - m.log2)) (m.log2 : Int) ∧ 4503599627370496 ≤ m * 2 ^ (52 - m.log2) ∧ m * 2 ^ (52 - m.log2) < 9007199254740992 ∧ m.log2 ≤ 23 := by
  obtain ⟨c1, c2, c3, c4⟩ := dconsts
  have hlo : 2 ^ m.log2 ≤ m := Nat.log2_self_le (by omega)
  have hhi : m < 2 ^ (m.log2 + 1) := Nat.lt_log2_self
  have hL : m.log2 < 24 := (Nat.log2_lt (by omega)).2 hm
  generalize hl : m.log2 = L at hlo hhi hL
  have k1 : 2 ^ L * 2 ^ (52 - L) ≤ m * 2 ^ (52 - L) := Nat.mul_le_mul_right _ hlo
  rw [← Nat.pow_add, show L + (52 - L) = 52 by omega] at k1
  have k2 : m * 2 ^ (52 - L) < 2 ^ (L + 1) * 2 ^ (52 - L) := Nat.mul_lt_mul_of_pos_right hhi (Nat.two_pow_pos _)
  rw [← Nat.pow_add, show L + 1 + (52 - L) = 53 by omega] at k2
  refine ⟨?_, k1, k2, by omega⟩
  unfold Ieee.Format.nearest
  rw [if_neg (by omega)]
  simp only [c1, c2, c3, hl, show Ieee.double.fractionBits = 52 from rfl]
  rw [show max ((0 : Int) + (L : Int) - ((52 : Nat) : Int)) (-1074) = (L : Int) - 52 by omega]
  rw [show ((0 : Int) - ((L : Int) - 52)).toNat = 52 - L by omega, show (((L : Int) - 52) - 0).toNat = 0 by omega, Nat.shiftLeft_eq]
  have hcut : Ieee.Toward.cut .even false (m * 2 ^ (52 - L)) 0 = m * 2 ^ (52 - L) := by
    unfold Ieee.Toward.cut
    simp [Nat.mod_one]
  rw [hcut, show (((L : Int) - 52) - -1074).toNat = ((L : Int) + 1022).toNat by omega]
  unfold Ieee.Format.word wD
  simp only [Bool.false_eq_true, if_false]
  rw [Nat.min_eq_left]
  have : ((L : Int) + 1022).toNat ≤ 1046 := by omega
  have k3 : m * 2 ^ (52 - L) < 9007199254740992 := k2
  omega

theorem readD (M : Nat) (E : Int) (h1 : 4503599627370496 ≤ M) (h2 : M < 9007199254740992) (lo : -1022 ≤ E) (hi : E ≤ 1023) : Ieee.double.read (wD M E) = .number false M (E - 52) := by
  obtain ⟨c1, c2, c3, c4⟩ := dconsts
  obtain ⟨q, hq⟩ : ∃ q : Nat, (E + 1022).toNat = q := ⟨_, rfl⟩
  have hq2 : q ≤ 2045 := by omega
  unfold wD
  rw [hq]
  unfold Ieee.Format.read
  simp only [c1, c2, c3, c4]
  rw [show (q * 4503599627370496 + M) % 9223372036854775808 = q * 4503599627370496 + M by omega, show (q * 4503599627370496 + M) / 9223372036854775808 % 2 = 0 by omega]
  rw [if_neg (by omega), if_pos (by omega), show (q * 4503599627370496 + M) % 4503599627370496 = M - 4503599627370496 by omega, show (q * 4503599627370496 + M) / 4503599627370496 - 1 = q by omega]
  rw [show 4503599627370496 + (M - 4503599627370496) = M by omega, show (-1074 : Int) + (q : Int) = E - 52 by omega]
  rfl

theorem read2 : Ieee.double.read 4611686018427387904 = .number false 4503599627370496 (-51) := by decide

theorem mul2 (M : Nat) (E : Int) (h1 : 4503599627370496 ≤ M) (h2 : M < 9007199254740992) (lo : -1022 ≤ E) (hi : E ≤ 1022) : Ieee.double.mul (wD M E) 4611686018427387904 = some (wD M (E + 1)) := by
  unfold Ieee.Format.mul
  rw [readD M E h1 h2 lo (by omega), read2]
  simp only [Ieee.Datum.product, Option.map_some, Ieee.Format.write]
  congr 1
  exact nearD M 52 (E + 1) _ h1 h2 (by omega) (by omega) (by omega)

theorem div2 (M : Nat) (E : Int) (h1 : 4503599627370496 ≤ M) (h2 : M < 9007199254740992) (lo : -1021 ≤ E) (hi : E ≤ 1023) : Ieee.double.div (wD M E) 4611686018427387904 = some (wD M (E - 1)) := by
  unfold Ieee.Format.div
  rw [readD M E h1 h2 (by omega) hi, read2]
  have hlM : M.log2 = 52 := log2_eq h1 h2
  have hl2 : (4503599627370496 : Nat).log2 = 52 := by decide
  simp only [Ieee.Datum.quotient, hlM, hl2, show Ieee.double.fractionBits = 52 from rfl]
  rw [if_neg (by decide)]
  simp only [Option.map_some, Ieee.Format.write, Nat.shiftLeft_eq]
  congr 1
  have e1 : M * 2 ^ (52 + 2 + 52 - 52) / 4503599627370496 = M * 4 := by
    rw [show M * 2 ^ (52 + 2 + 52 - 52) = M * 4 * 4503599627370496 by rw [Nat.mul_assoc]]
    exact Nat.mul_div_cancel _ (by omega)
  have e2 : M * 2 ^ (52 + 2 + 52 - 52) % 4503599627370496 = 0 := by
    rw [show M * 2 ^ (52 + 2 + 52 - 52) = M * 4 * 4503599627370496 by rw [Nat.mul_assoc]]
    exact Nat.mul_mod_left _ _
  rw [e1, e2]
  rw [show 2 * (M * 4) + ((0 : Nat) != 0).toNat = M * 2 ^ 3 by simp; omega]
  exact nearD M 3 (E - 1) _ h1 h2 (by omega) (by omega) (by omega)

theorem div0 : Ieee.double.div 0 4611686018427387904 = some 0 := by decide

/-- what a rung of 32 bits is worth, and the way back from 64 bits -/
def atM (n : Nat) : Nat := if n < 8388608 then n else 8388608 + n % 8388608
def atE (n : Nat) : Int := if n < 8388608 then -149 else (n / 8388608 : Nat) - 150

theorem toSingle (n : Nat) (h0 : 0 < n) (hn : n < 2139095040) : Ieee.single.nearest false (atM n * 2 ^ (52 - (atM n).log2)) (((atM n).log2 : Int) + atE n - 52) = n := by
  have e2 : Ieee.single.binade = 8388608 := by decide
  have e3 : Ieee.single.infRung = 2139095040 := by decide
  have e4 : Ieee.single.leastPlace = -149 := by decide
  have hm0 : 0 < atM n := by unfold atM; split <;> omega
  have hm1 : atM n < 16777216 := by unfold atM; split <;> omega
  obtain ⟨_, k1, k2, k3⟩ := nearS (atM n) hm0 hm1
  generalize hL : (atM n).log2 = L at k1 k2 k3
  have hlog : (atM n * 2 ^ (52 - L)).log2 = 52 := log2_eq k1 k2
  unfold Ieee.Format.nearest
  rw [if_neg (by omega)]
  simp only [e2, e3, e4, hlog, show Ieee.single.fractionBits = 23 from rfl]
  by_cases hs : n < 8388608
  · have hE : atE n = -149 := by unfold atE; rw [if_pos hs]
    have hM : atM n = n := by unfold atM; rw [if_pos hs]
    have hL22 : L ≤ 22 := by
      rw [← hL, hM]
      have := (Nat.log2_lt (show n ≠ 0 by omega)).2 (show n < 2 ^ 23 from hs)
      omega
    rw [hE]
    rw [show max ((L : Int) + -149 - 52 + ((52 : Nat) : Int) - ((23 : Nat) : Int)) (-149) = -149 by omega]
    rw [show ((L : Int) + -149 - 52 - -149).toNat = 0 by omega, show ((-149 : Int) - ((L : Int) + -149 - 52)).toNat = 52 - L by omega, Nat.shiftLeft_eq, Nat.pow_zero, Nat.mul_one]
    rw [cut_exact false (atM n) (52 - L) 52 hm0 hlog (by omega), hM]
    unfold Ieee.Format.word
    simp
    omega
  · have hE : atE n = (n / 8388608 : Nat) - 150 := by unfold atE; rw [if_neg hs]
    have hM : atM n = 8388608 + n % 8388608 := by unfold atM; rw [if_neg hs]
    have hL23 : L = 23 := by
      rw [← hL, hM]
      exact log2_eq (by omega) (by omega)
    subst hL23
    rw [hE]
    rw [show max (((23 : Nat) : Int) + (((n / 8388608 : Nat) : Int) - 150) - 52 + ((52 : Nat) : Int) - ((23 : Nat) : Int)) (-149) = ((n / 8388608 : Nat) : Int) - 150 by omega]
    rw [show (((23 : Nat) : Int) + (((n / 8388608 : Nat) : Int) - 150) - 52 - (((n / 8388608 : Nat) : Int) - 150)).toNat = 0 by omega, show ((((n / 8388608 : Nat) : Int) - 150) - (((23 : Nat) : Int) + (((n / 8388608 : Nat) : Int) - 150) - 52)).toNat = 29 by omega, Nat.shiftLeft_eq, Nat.pow_zero, Nat.mul_one]
    rw [cut_exact false (atM n) 29 52 hm0 hlog (by omega), hM]
    rw [show ((((n / 8388608 : Nat) : Int) - 150) - -149).toNat = n / 8388608 - 1 by omega]
    unfold Ieee.Format.word
    simp only [Bool.false_eq_true, if_false]
    rw [Nat.min_eq_left] <;> omega

end Go.Proofs.YtncbanpimfhhbaaGreatDoor



/- The real of a number: the steps from its digits in 64 bits to its 32 bits. -/
namespace Go.Proofs.YtncbanpimfhhbaaGreatDoor
open Go.RowKit Go.PlainAid Go.Lib

/-- the digits of the rung n, k doublings on, in 64 bits -/
def fD (n : Nat) (k : Int) : Nat := if atM n = 0 then 0 else wD (atM n * 2 ^ (52 - (atM n).log2)) (((atM n).log2 : Int) + k)

theorem atM_lt (n : Nat) : atM n < 16777216 := by unfold atM; split <;> omega
theorem atE_lo (n : Nat) : -149 ≤ atE n := by unfold atE; split <;> omega
theorem atE_hi (n : Nat) (h : n < 2139095040) : atE n ≤ 104 := by unfold atE; split <;> omega

theorem fD_start (n : Nat) : floatOfInt .f64 ((atM n : Nat) : Int) = fD n 0 := by
  show Ieee.double.nearest (decide (((atM n : Nat) : Int) < 0)) ((atM n : Nat) : Int).natAbs 0 = _
  rw [show decide (((atM n : Nat) : Int) < 0) = false by simp, Int.natAbs_natCast]
  unfold fD
  by_cases h : atM n = 0
  · rw [if_pos h, h]; decide
  · rw [if_neg h, (nearS (atM n) (by omega) (atM_lt n)).1, Int.add_zero]

theorem fD_mul (n : Nat) (k : Int) (h0 : 0 ≤ k) (h1 : k < 104) : floatBits .mul .f64 (fD n k) 4611686018427387904 = some (fD n (k + 1)) := by
  show Ieee.double.mul _ _ = _
  unfold fD
  by_cases h : atM n = 0
  · rw [if_pos h, if_pos h]; decide
  · rw [if_neg h, if_neg h]
    obtain ⟨_, k1, k2, k3⟩ := nearS (atM n) (by omega) (atM_lt n)
    rw [mul2 _ _ k1 k2 (by omega) (by omega), Int.add_assoc]

theorem fD_div (n : Nat) (k : Int) (h0 : -149 ≤ k) (h1 : k ≤ 104) : floatBits .quo .f64 (fD n k) 4611686018427387904 = some (fD n (k - 1)) := by
  show Ieee.double.div _ _ = _
  unfold fD
  by_cases h : atM n = 0
  · rw [if_pos h, if_pos h]; decide
  · rw [if_neg h, if_neg h]
    obtain ⟨_, k1, k2, k3⟩ := nearS (atM n) (by omega) (atM_lt n)
    rw [div2 _ _ k1 k2 (by omega) (by omega)]
    congr 2
    omega

theorem fD_end (n : Nat) (h : n < 2139095040) : floatToFloatBits .f64 (fD n (atE n)) .f32 = some n := by
  unfold floatToFloatBits
  rw [if_neg (by decide)]
  show (match Ieee.double.read (fD n (atE n)) with | .nan _ _ => none | .infinity s => some (Ieee.single.write (.infinity s)) | .number s m e => if (Ieee.single.read (Ieee.single.write (.number s m e))).isInfinity then none else some (Ieee.single.write (.number s m e))) = _
  unfold fD
  by_cases h0 : atM n = 0
  · have hn : n = 0 := by unfold atM at h0; split at h0 <;> omega
    subst hn
    decide
  · rw [if_neg h0]
    have hn0 : 0 < n := by
      rcases Nat.eq_zero_or_pos n with hz | hz
      · subst hz; exact absurd (by decide) h0
      · exact hz
    obtain ⟨_, k1, k2, k3⟩ := nearS (atM n) (by omega) (atM_lt n)
    have a1 := atE_lo n
    have a2 := atE_hi n h
    rw [readD _ _ k1 k2 (by omega) (by omega)]
    have hw : Ieee.single.write (.number false (atM n * 2 ^ (52 - (atM n).log2)) (((atM n).log2 : Int) + atE n - 52)) = n := toSingle n hn0 h
    simp only [hw]
    obtain ⟨m, up, hr, _⟩ := read_num n (by unfold rungN; omega)
    rw [hr]
    rfl

end Go.Proofs.YtncbanpimfhhbaaGreatDoor



/- The reference's At and Float: the real of a number. -/
namespace Go.Proofs.YtncbanpimfhhbaaGreatDoor
open Go.RowKit Go.PlainAid Go.Lib

theorem neg_low (n : Nat) (h : n < 2147483648) : Op.negFloat .f32 n = n + 2147483648 := by
  show n ^^^ 2147483648 = _
  rw [show (2147483648 : Nat) = 2 ^ 31 from rfl]
  have h2 : n ^^^ 2 ^ 31 = n ||| 2 ^ 31 := by
    apply Nat.eq_of_testBit_eq
    intro i
    rw [Nat.testBit_xor, Nat.testBit_or, Nat.testBit_two_pow]
    by_cases hi : 31 = i
    · subst hi
      rw [Nat.testBit_lt_two_pow (show n < 2 ^ 31 from h)]
      rfl
    · rw [show decide (31 = i) = false by simpa using hi]
      cases n.testBit i <;> rfl
  have h3 := Nat.two_pow_add_eq_or_of_lt (show n < 2 ^ 31 from h) 1
  rw [Nat.mul_one] at h3
  rw [h2, Nat.or_comm, ← h3]
  omega

end Go.Proofs.YtncbanpimfhhbaaGreatDoor


