/- A real of 32 bits cut to a whole number, a whole number as a real: told by their worth. -/
import Derived.Test.YtplbclokoffgkaaGreatDoorFloM
import Derived.Laws.FloatArith
namespace Go.Proofs.YtplbclokoffgkaaGreatDoor
open Go.RowKit Go.PlainAid Go.Lib

/-- how two reals stand, by their worth (that of an infinite one is beyond all others') -/
theorem order_val (x y : Nat) (hx : rungN x ≤ 2139095040) (hy : rungN y ≤ 2139095040) : Ieee.single.order x y = some (compare (svalZ x) (svalZ y)) := by
  rw [order_any, if_neg (by omega)]
  congr 1
  exact (cmp_congr (sval_srung x y).1 (sval_srung x y).2).symm

theorem cut_zero (s : Bool) (n d : Nat) : Ieee.Toward.cut .zero s n d = n / 2 ^ d := by
  unfold Ieee.Toward.cut
  simp only [Bool.toNat_false, Nat.add_zero, Nat.one_shiftLeft]
  by_cases h : d ≤ n.log2 + 2
  · rw [Nat.min_eq_left h]
  · rw [Nat.min_eq_right (by omega)]
    have hn : n < 2 ^ (n.log2 + 1) := Nat.lt_log2_self
    have h1 : n < 2 ^ (n.log2 + 2) := Nat.lt_of_lt_of_le hn (Nat.pow_le_pow_right (by omega) (by omega))
    have h2 : n < 2 ^ d := Nat.lt_of_lt_of_le hn (Nat.pow_le_pow_right (by omega) (by omega))
    rw [Nat.div_eq_of_lt h1, Nat.div_eq_of_lt h2]

/-- the whole part of a real -/
def wholeZ (x : Nat) : Int := if x / 2147483648 % 2 = 1 then -((valN (rungN x) / 2 ^ 149 : Nat) : Int) else ((valN (rungN x) / 2 ^ 149 : Nat) : Int)

theorem toInt_whole (x : Nat) (h : rungN x < 2139095040) : (Ieee.single.read x).toInt .zero = some (wholeZ x) := by
  obtain ⟨m, up, rx, vx⟩ := read_num x h
  have hcut : Ieee.Toward.cut .zero (x / 2147483648 % 2 == 1) (m <<< (-149 + (up : Int)).toNat) (-(-149 + (up : Int))).toNat = valN (rungN x) / 2 ^ 149 := by
    rw [cut_zero, Nat.shiftLeft_eq, ← vx]
    by_cases hu : 149 ≤ up
    · rw [show (-149 + (up : Int)).toNat = up - 149 by omega, show (-(-149 + (up : Int))).toNat = 0 by omega, Nat.pow_zero, Nat.div_one]
      rw [show m * 2 ^ up = m * 2 ^ (up - 149) * 2 ^ 149 by rw [Nat.mul_assoc, ← Nat.pow_add]; congr 2; omega]
      rw [Nat.mul_div_cancel _ (Nat.two_pow_pos _)]
    · rw [show (-149 + (up : Int)).toNat = 0 by omega, show (-(-149 + (up : Int))).toNat = 149 - up by omega, Nat.pow_zero, Nat.mul_one]
      rw [show (2 : Nat) ^ 149 = 2 ^ (149 - up) * 2 ^ up by rw [← Nat.pow_add]; congr 1; omega]
      rw [Nat.mul_div_mul_right _ _ (Nat.two_pow_pos _)]
  rw [rx]
  unfold Ieee.Datum.toInt
  simp only [Ieee.Datum.integral]
  rw [hcut]
  unfold wholeZ Ieee.signed
  simp

/-- the worth of a rung below that of 2^63 -/
theorem val_big : valN 1593835520 = 2 ^ 63 * 2 ^ 149 := by decide

/-- a whole number that a real can hold is held -/
theorem nearest_val (neg : Bool) (mag : Nat) (hpos : 0 < mag) (hfit : mag.log2 ≤ 23 ∨ mag % 2 ^ (mag.log2 - 23) = 0) (hbig : mag < 2 ^ 64) :
    ∃ r, r < 2139095040 ∧ Ieee.single.nearest neg mag 0 = Ieee.single.word neg r ∧ valN r = mag * 2 ^ 149 := by
  have e2 : Ieee.single.binade = 8388608 := by decide
  have e3 : Ieee.single.infRung = 2139095040 := by decide
  have e4 : Ieee.single.leastPlace = -149 := by decide
  have e5 : Ieee.single.fractionBits = 23 := rfl
  have hlo : 2 ^ mag.log2 ≤ mag := Nat.log2_self_le (by omega)
  have hhi : mag < 2 ^ (mag.log2 + 1) := Nat.lt_log2_self
  have hL : mag.log2 < 64 := by
    rw [Nat.log2_lt (by omega)]
    exact hbig
  generalize hl : mag.log2 = L at hlo hhi hL hfit
  -- what is kept
  have key : ∃ kept, Ieee.Toward.cut .even neg (mag <<< ((0 : Int) - ((L : Int) - 23)).toNat) (((L : Int) - 23) - 0).toNat = kept ∧ 8388608 ≤ kept ∧ kept < 16777216 ∧ kept * 2 ^ (126 + L) = mag * 2 ^ 149 := by
    by_cases h23 : L ≤ 23
    · refine ⟨mag * 2 ^ (23 - L), ?_, ?_, ?_, ?_⟩
      · rw [show ((0 : Int) - ((L : Int) - 23)).toNat = 23 - L by omega, show (((L : Int) - 23) - 0).toNat = 0 by omega, Nat.shiftLeft_eq]
        unfold Ieee.Toward.cut
        simp [Nat.mod_one]
      · have h1 : 2 ^ L * 2 ^ (23 - L) ≤ mag * 2 ^ (23 - L) := Nat.mul_le_mul_right _ hlo
        rw [← Nat.pow_add, show L + (23 - L) = 23 by omega] at h1
        exact h1
      · have h1 : mag * 2 ^ (23 - L) < 2 ^ (L + 1) * 2 ^ (23 - L) := Nat.mul_lt_mul_of_pos_right hhi (Nat.two_pow_pos _)
        rw [← Nat.pow_add, show L + 1 + (23 - L) = 24 by omega] at h1
        exact h1
      · rw [Nat.mul_assoc, ← Nat.pow_add]
        congr 2
        omega
    · have hd : mag % 2 ^ (L - 23) = 0 := by omega
      have hmul : mag / 2 ^ (L - 23) * 2 ^ (L - 23) = mag := by
        have := Nat.div_add_mod mag (2 ^ (L - 23))
        rw [hd, Nat.mul_comm] at this
        omega
      refine ⟨mag / 2 ^ (L - 23), ?_, ?_, ?_, ?_⟩
      · rw [show ((0 : Int) - ((L : Int) - 23)).toNat = 0 by omega, show (((L : Int) - 23) - 0).toNat = L - 23 by omega, Nat.shiftLeft_eq, Nat.pow_zero, Nat.mul_one]
        unfold Ieee.Toward.cut
        simp only [hl, Nat.one_shiftLeft]
        rw [Nat.min_eq_left (by omega), hd]
        have hp : 0 < 2 ^ (L - 23) := Nat.two_pow_pos _
        have h1 : decide (2 ^ (L - 23) < 2 * 0) = false := by simp
        have h2 : (2 ^ (L - 23) == 2 * 0) = false := by simp
        rw [h1, h2]
        rfl
      · have h1 : 2 ^ L / 2 ^ (L - 23) ≤ mag / 2 ^ (L - 23) := Nat.div_le_div_right hlo
        rw [Nat.pow_div (by omega) (by omega), show L - (L - 23) = 23 by omega] at h1
        exact h1
      · rw [Nat.div_lt_iff_lt_mul (Nat.two_pow_pos _), show (16777216 : Nat) = 2 ^ 24 by decide, ← Nat.pow_add, show 24 + (L - 23) = L + 1 by omega]
        exact hhi
      · rw [show 126 + L = (L - 23) + 149 by omega, Nat.pow_add, ← Nat.mul_assoc, hmul]
  obtain ⟨kept, hk, k1, k2, k3⟩ := key
  refine ⟨(126 + L) * 8388608 + kept, by omega, ?_, ?_⟩
  · unfold Ieee.Format.nearest
    rw [if_neg (by omega)]
    simp only [e2, e3, e4, e5, hl]
    rw [show max ((0 : Int) + (L : Int) - ((23 : Nat) : Int)) (-149) = (L : Int) - 23 by omega, hk]
    rw [show (((L : Int) - 23) - -149).toNat = 126 + L by omega, Nat.min_eq_left (by omega)]
  · unfold valN
    rw [if_neg (by omega), show ((126 + L) * 8388608 + kept) % 8388608 = kept - 8388608 by omega, show ((126 + L) * 8388608 + kept) / 8388608 - 1 = 126 + L by omega, show 8388608 + (kept - 8388608) = kept by omega, k3]

/-- the whole part of a real is a number that a real can hold -/
theorem whole_fits (r : Nat) (t : Nat) (ht : t = valN r / 2 ^ 149) (hp : 0 < t) : t.log2 ≤ 23 ∨ t % 2 ^ (t.log2 - 23) = 0 := by
  by_cases h23 : t.log2 ≤ 23
  · exact .inl h23
  refine .inr ?_
  unfold valN at ht
  by_cases hr : r < 8388608
  · rw [if_pos hr, Nat.div_eq_of_lt (Nat.lt_of_lt_of_le hr (by decide))] at ht
    omega
  · rw [if_neg hr] at ht
    generalize hm : 8388608 + r % 8388608 = m at ht
    have hm2 : m < 2 ^ 24 := by omega
    generalize r / 8388608 - 1 = up at ht
    by_cases hu : 149 ≤ up
    · rw [show m * 2 ^ up = m * 2 ^ (up - 149) * 2 ^ 149 by rw [Nat.mul_assoc, ← Nat.pow_add]; congr 2; omega, Nat.mul_div_cancel _ (Nat.two_pow_pos _)] at ht
      have hlt : t < 2 ^ (24 + (up - 149)) := by
        rw [ht, Nat.pow_add]
        exact Nat.mul_lt_mul_of_pos_right hm2 (Nat.two_pow_pos _)
      have hl : t.log2 < 24 + (up - 149) := (Nat.log2_lt (by omega)).2 hlt
      have hd : 2 ^ (t.log2 - 23) ∣ t := by
        conv => rhs; rw [ht]
        exact Nat.dvd_trans (Nat.pow_dvd_pow 2 (by omega)) (Nat.dvd_mul_left _ _)
      exact Nat.mod_eq_zero_of_dvd hd
    · exfalso
      have hlt : t < 2 ^ 24 := by
        rw [ht]
        apply Nat.div_lt_of_lt_mul
        have h1 : m * 2 ^ up < 2 ^ 24 * 2 ^ 149 := Nat.lt_of_lt_of_le (Nat.mul_lt_mul_of_pos_right hm2 (Nat.two_pow_pos _)) (Nat.mul_le_mul_left _ (Nat.pow_le_pow_right (by omega) (by omega)))
        rw [Nat.mul_comm (2 ^ 149)]
        exact h1
      have hl : t.log2 < 24 := (Nat.log2_lt (by omega)).2 hlt
      omega

theorem word_rung (neg : Bool) (r : Nat) (h : r < 2147483648) : rungN (Ieee.single.word neg r) = r ∧ svalZ (Ieee.single.word neg r) = (if neg then -(valN r : Int) else (valN r : Int)) ∧ Ieee.single.word neg r < 4294967296 := by
  have e1 : Ieee.single.signWeight = 2147483648 := by decide
  have hr : rungN (Ieee.single.word neg r) = r := by
    unfold rungN Ieee.Format.word
    rw [e1]
    split <;> omega
  refine ⟨hr, ?_, ?_⟩
  · unfold svalZ
    rw [hr]
    cases neg
    · have : Ieee.single.word false r / 2147483648 % 2 = 0 := by
        unfold Ieee.Format.word
        simp
        omega
      rw [this]
      rfl
    · have : Ieee.single.word true r / 2147483648 % 2 = 1 := by
        unfold Ieee.Format.word
        rw [e1]
        simp
        omega
      rw [this]
      rfl
  · unfold Ieee.Format.word
    rw [e1]
    split <;> omega

theorem whole_back (x : Nat) (hb : (wholeZ x).natAbs < 2 ^ 64) : svalZ (floatOfInt .f32 (wholeZ x)) = wholeZ x * 2 ^ 149 ∧ rungN (floatOfInt .f32 (wholeZ x)) < 2139095040 := by
  obtain ⟨t, ht⟩ : ∃ t, t = valN (rungN x) / 2 ^ 149 := ⟨_, rfl⟩
  have hw : wholeZ x = (if x / 2147483648 % 2 = 1 then -(t : Int) else (t : Int)) := by unfold wholeZ; rw [ht]
  have habs : (wholeZ x).natAbs = t := by rw [hw]; split <;> omega
  have hf : floatOfInt .f32 (wholeZ x) = Ieee.single.nearest (decide (wholeZ x < 0)) t 0 := by rw [← habs]; rfl
  rw [habs] at hb
  by_cases h0 : t = 0
  · have hz : wholeZ x = 0 := by rw [hw, h0]; split <;> rfl
    rw [hz]
    decide
  · obtain ⟨r, hr, hn, hv⟩ := nearest_val (decide (wholeZ x < 0)) t (by omega) (whole_fits _ t ht (by omega)) hb
    rw [hf, hn]
    obtain ⟨g1, g2, _⟩ := word_rung (decide (wholeZ x < 0)) r (by omega)
    refine ⟨?_, by omega⟩
    rw [g2, hv, hw]
    by_cases hs : x / 2147483648 % 2 = 1
    · rw [if_pos hs, show decide (-(t : Int) < 0) = true by simp; omega]
      simp [Int.neg_mul]
    · rw [if_neg hs, show decide ((t : Int) < 0) = false by simp]
      simp

def cmpI (a b : Int) : Int := if a < b then -1 else if b < a then 1 else 0

/-- a real beside a whole number: by what is cut off only where the whole ones are equal -/
theorem cmp_whole (x : Nat) (n : Int) : wholeZ x ≠ n → cmpI (wholeZ x) n = cmpI (svalZ x) (n * 2 ^ 149) := by
  intro hne
  have hP : (0 : Int) < 2 ^ 149 := by decide
  have hd := Nat.div_add_mod (valN (rungN x)) (2 ^ 149)
  have hm := Nat.mod_lt (valN (rungN x)) (Nat.two_pow_pos 149)
  unfold wholeZ at hne ⊢
  unfold svalZ
  generalize valN (rungN x) = v at *
  generalize v / 2 ^ 149 = t at *
  generalize v % 2 ^ 149 = rm at *
  have hv : (v : Int) = 2 ^ 149 * (t : Int) + (rm : Int) := by rw [← hd]; simp
  have hrm : (rm : Int) < 2 ^ 149 := by exact_mod_cast hm
  have hrm0 : (0 : Int) ≤ (rm : Int) := by omega
  generalize (2 : Int) ^ 149 = P at *
  clear hd hm
  have key : ∀ (a b : Int), a < b → P * a + P ≤ P * b := by
    intro a b hab
    have h1 : P * (a + 1) ≤ P * b := Int.mul_le_mul_of_nonneg_left (by omega) (by omega)
    rw [Int.mul_add, Int.mul_one] at h1
    exact h1
  have hcomm : n * P = P * n := Int.mul_comm _ _
  rw [hcomm]
  unfold cmpI
  by_cases hs : x / 2147483648 % 2 = 1
  · simp only [hs, if_true] at hne ⊢
    have hneg : P * -(t : Int) = -(P * (t : Int)) := Int.mul_neg _ _
    rcases Int.lt_trichotomy (-(t : Int)) n with h | h | h
    · have := key _ _ h
      rw [if_pos h, if_pos (by omega)]
    · exact absurd h hne
    · have := key _ _ h
      rw [if_neg (by omega), if_pos h, if_neg (by omega), if_pos (by omega)]
  · simp only [hs, if_false] at hne ⊢
    rcases Int.lt_trichotomy (t : Int) n with h | h | h
    · have := key _ _ h
      rw [if_pos h, if_pos (by omega)]
    · exact absurd h hne
    · have := key _ _ h
      rw [if_neg (by omega), if_pos h, if_neg (by omega), if_pos (by omega)]

end Go.Proofs.YtplbclokoffgkaaGreatDoor



