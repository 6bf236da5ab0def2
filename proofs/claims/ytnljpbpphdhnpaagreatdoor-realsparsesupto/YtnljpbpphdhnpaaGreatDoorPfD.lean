/- The library's scaling by a power of ten that is told in 128 bits, more or less: why what is cut is the number itself, cut, and its last place. -/
import Derived.Test.YtnljpbpphdhnpaaGreatDoorUsE
import Derived.LaidMore
import Derived.Lay

namespace Go.Proofs.YtnljpbpphdhnpaaGreatDoor
open Go.RowKit Go.PlainAid

/-- a over b, cut, with its last place set where something was cut off -/
def uN (a b : Nat) : Nat := if a % b = 0 then a / b else 2 * (a / b / 2) + 1
/-- what the library's scaling comes to -/
def uscN (x hi lo s : Nat) : Nat :=
  if x * hi / 18446744073709551616 % 2 ^ s ≠ 0 then 2 * (x * hi / 18446744073709551616 / 2 ^ s / 2) + 1
  else if x * hi % 18446744073709551616 < x * lo / 18446744073709551616 then 2 * ((x * hi / 18446744073709551616 - 1) / 2 ^ s / 2) + 1
  else if x * lo / 18446744073709551616 + 1 < x * hi % 18446744073709551616 then 2 * (x * hi / 18446744073709551616 / 2 ^ s / 2) + 1
  else x * hi / 18446744073709551616 / 2 ^ s

theorem mul_small (j D : Int) (hD : 0 < D) (h1 : -D < j * D) (h2 : j * D < D) : j = 0 := by
  by_cases a : 1 ≤ j
  · have := Int.mul_le_mul_of_nonneg_right a (Int.le_of_lt hD)
    omega
  · by_cases b : j ≤ -1
    · have := Int.mul_le_mul_of_nonneg_right b (Int.le_of_lt hD)
      omega
    · omega
/-- where the number itself stands: f, and g over den behind it; N: what is reckoned, D times as great, more or less -/
theorem near_div (N D den f g : Int) (hden : 0 < den) (h1 : N * den < (f * den + g) * D + den * 18446744073709551616) (h2 : (f * den + g) * D < N * den + den * 18446744073709551616) :
    (g = 0 → -18446744073709551616 < N - f * D ∧ N - f * D < 18446744073709551616) ∧
    (3 * 18446744073709551616 * den ≤ g * D → 3 * 18446744073709551616 * den ≤ (den - g) * D → 2 * 18446744073709551616 < N - f * D ∧ N - f * D < D - 2 * 18446744073709551616) := by
  have e : (f * den + g) * D = f * D * den + g * D := by
    rw [Int.add_mul, Int.mul_right_comm]
  rw [e] at h1 h2
  have e2 : (N - f * D) * den = N * den - f * D * den := Int.sub_mul _ _ _
  have e3 : (den - g) * D = D * den - g * D := by rw [Int.sub_mul, Int.mul_comm den D]
  have lt_of (a b : Int) (h : a * den < b * den) : a < b := Int.lt_of_mul_lt_mul_right h (Int.le_of_lt hden)
  refine ⟨fun hg => ?_, fun ha hb => ?_⟩
  · subst hg
    rw [Int.zero_mul] at h1 h2
    refine ⟨lt_of _ _ ?_, lt_of _ _ ?_⟩
    · rw [e2]; omega
    · rw [e2]; omega
  · rw [e3] at hb
    refine ⟨lt_of _ _ ?_, lt_of _ _ ?_⟩
    · rw [e2]; omega
    · rw [e2, Int.sub_mul]; omega

set_option maxRecDepth 100000 in
set_option maxHeartbeats 1000000 in
theorem usc_core (x hi lo s num den : Nat) (hx : x + 4 ≤ 18446744073709551616) (hlo : lo < 18446744073709551616) (hp : x * lo ≤ x * hi * 18446744073709551616) (hden : 0 < den)
    (h1 : (x * hi * 18446744073709551616 - x * lo) * den < num * 2 ^ (128 + s) + den * 18446744073709551616) (h2 : num * 2 ^ (128 + s) < (x * hi * 18446744073709551616 - x * lo) * den + den * 18446744073709551616)
    (hg : num % den = 0 ∨ (3 * 18446744073709551616 * den ≤ num % den * 2 ^ (128 + s) ∧ 3 * 18446744073709551616 * den ≤ (den - num % den) * 2 ^ (128 + s))) :
    uscN x hi lo s = uN num den := by
  have hP : 0 < 2 ^ s := Nat.two_pow_pos s
  have hD : 2 ^ (128 + s) = 2 ^ s * 340282366920938463463374607431768211456 := by rw [Nat.add_comm, Nat.pow_add]
  have hc : x * lo / 18446744073709551616 + 5 ≤ 18446744073709551616 := by
    have h3 : x * lo < (18446744073709551616 - 4) * 18446744073709551616 := by
      have : x * lo ≤ (18446744073709551616 - 4) * lo := Nat.mul_le_mul_right _ (by omega)
      omega
    have := (Nat.div_lt_iff_lt_mul (by decide)).2 h3
    omega
  unfold uscN uN
  have ha := Nat.div_add_mod (x * hi) 18446744073709551616
  have hb := Nat.mod_lt (x * hi) (show 0 < 18446744073709551616 by decide)
  have hl := Nat.div_add_mod (x * lo) 18446744073709551616
  have hd := Nat.mod_lt (x * lo) (show 0 < 18446744073709551616 by decide)
  have hf := Nat.div_add_mod num den
  have hgl := Nat.mod_lt num hden
  generalize hA : x * hi / 18446744073709551616 = A at *
  generalize hB : x * hi % 18446744073709551616 = b at *
  generalize hC : x * lo / 18446744073709551616 = c at *
  generalize hDD : x * lo % 18446744073709551616 = d at *
  generalize hF : num / den = f at *
  generalize hG : num % den = g at *
  have hk := Nat.div_add_mod A (2 ^ s)
  have hr := Nat.mod_lt A hP
  have hm2 : A % 2 ^ s = 0 → 1 ≤ A → (A - 1) / 2 ^ s + 1 = A / 2 ^ s := fun h0 h1 => by
    rw [h0, Nat.add_zero] at hk
    generalize A / 2 ^ s = k at hk ⊢
    have k1 : 1 ≤ k := by
      rcases Nat.eq_zero_or_pos k with h | h
      · subst h; simp at hk; omega
      · exact h
    have e : A - 1 = (2 ^ s - 1) + 2 ^ s * (k - 1) := by
      rw [← hk, Nat.mul_sub, Nat.mul_one]
      have : 2 ^ s ≤ 2 ^ s * k := Nat.le_mul_of_pos_right _ k1
      omega
    rw [e, Nat.add_mul_div_left _ _ hP, Nat.div_eq_of_lt (by omega)]
    omega
  generalize hK : A / 2 ^ s = k at *
  generalize hR : A % 2 ^ s = r at *
  rw [hD] at h1 h2 hg
  generalize hPP : 2 ^ s = P at *
  -- over the integers
  have c3 : ((P * 340282366920938463463374607431768211456 : Nat) : Int) = (P : Int) * 340282366920938463463374607431768211456 := by omega
  have hN : ((x * hi * 18446744073709551616 - x * lo : Nat) : Int) = (k : Int) * ((P : Int) * 340282366920938463463374607431768211456) + (r : Int) * 340282366920938463463374607431768211456 + ((b : Int) - c) * 18446744073709551616 - d := by
    have hPk : (k : Int) * ((P : Int) * 340282366920938463463374607431768211456) = ((P * k : Nat) : Int) * 340282366920938463463374607431768211456 := by rw [Int.natCast_mul, ← Int.mul_assoc, Int.mul_comm (k : Int)]
    rw [hPk]
    generalize P * k = z at *
    generalize x * hi = z1 at *
    generalize x * lo = z2 at *
    omega
  generalize hNN : x * hi * 18446744073709551616 - x * lo = NN at *
  have c1 : ((NN * den : Nat) : Int) = (NN : Int) * den := Int.natCast_mul _ _
  have c2 : ((num * (P * 340282366920938463463374607431768211456) : Nat) : Int) = ((f : Int) * den + g) * ((P : Int) * 340282366920938463463374607431768211456) := by
    rw [Int.natCast_mul, c3]
    congr 1
    rw [← hf, Int.natCast_add, Int.natCast_mul, Int.mul_comm]
  have hI1 : (NN : Int) * den < ((f : Int) * den + g) * ((P : Int) * 340282366920938463463374607431768211456) + den * 18446744073709551616 := by
    rw [← c1, ← c2]
    omega
  have hI2 : ((f : Int) * den + g) * ((P : Int) * 340282366920938463463374607431768211456) < (NN : Int) * den + den * 18446744073709551616 := by
    rw [← c1, ← c2]
    omega
  obtain ⟨q1, q2⟩ := near_div _ _ (den : Int) (f : Int) (g : Int) (by omega) hI1 hI2
  rw [hN] at q1 q2
  have hq2 : g ≠ 0 → 2 * 18446744073709551616 < (k : Int) * ((P : Int) * 340282366920938463463374607431768211456) + (r : Int) * 340282366920938463463374607431768211456 + ((b : Int) - c) * 18446744073709551616 - d - (f : Int) * ((P : Int) * 340282366920938463463374607431768211456) ∧
      (k : Int) * ((P : Int) * 340282366920938463463374607431768211456) + (r : Int) * 340282366920938463463374607431768211456 + ((b : Int) - c) * 18446744073709551616 - d - (f : Int) * ((P : Int) * 340282366920938463463374607431768211456) < (P : Int) * 340282366920938463463374607431768211456 - 2 * 18446744073709551616 := fun h => by
    rcases hg with h0 | ⟨h0, h3⟩
    · exact absurd h0 h
    · have c5 : ((g * (P * 340282366920938463463374607431768211456) : Nat) : Int) = (g : Int) * ((P : Int) * 340282366920938463463374607431768211456) := by rw [Int.natCast_mul, c3]
      have c6 : (((den - g) * (P * 340282366920938463463374607431768211456) : Nat) : Int) = ((den : Int) - g) * ((P : Int) * 340282366920938463463374607431768211456) := by
        rw [Int.natCast_mul, c3]
        congr 1
        omega
      refine q2 ?_ ?_
      · rw [← c5]
        omega
      · rw [← c6]
        omega
  have hDp : (340282366920938463463374607431768211456 : Int) ≤ (P : Int) * 340282366920938463463374607431768211456 := by omega
  have hrD : (r : Int) * 340282366920938463463374607431768211456 ≤ (P : Int) * 340282366920938463463374607431768211456 - 340282366920938463463374607431768211456 := by omega
  have hr0 : r ≠ 0 → (340282366920938463463374607431768211456 : Int) ≤ (r : Int) * 340282366920938463463374607431768211456 := fun h => by omega
  generalize hDI : (P : Int) * 340282366920938463463374607431768211456 = DI at *
  generalize hRI : (r : Int) * 340282366920938463463374607431768211456 = RI at *
  have hmul : ((k : Int) - f) * DI = k * DI - f * DI := Int.sub_mul _ _ _
  have hms := mul_small ((k : Int) - f) DI (by omega)
  have hms1 := mul_small ((k : Int) - f - 1) DI (by omega)
  have e1 : ((k : Int) - f - 1) * DI = k * DI - f * DI - DI := by rw [Int.sub_mul, hmul]; omega
  rw [hmul] at hms
  rw [e1] at hms1
  have hEq : (k : Int) - f = 0 → (k : Int) * DI = f * DI := fun h => by rw [show (k : Int) = f by omega]
  clear hmul e1 hN hI1 hI2 h1 h2 hg q2 c1 c2 c3
  generalize (k : Int) * DI = kD at *
  generalize (f : Int) * DI = fD at *
  by_cases hr1 : r = 0
  · subst hr1
    have hRI0 : RI = 0 := by rw [← hRI]; omega
    subst hRI0
    rw [if_neg (by omega)]
    by_cases hbc : b < c
    · rw [if_pos hbc]
      have hA1 : 1 ≤ A := by
        rcases Nat.eq_zero_or_pos A with h | h
        · exfalso
          subst h
          omega
        · exact h
      have := hm2 rfl hA1
      by_cases g0 : g = 0
      · exfalso
        have := q1 (by omega)
        omega
      · rw [if_neg g0]
        have := hq2 g0
        have := hms1 (by omega) (by omega)
        rw [show (A - 1) / P = f by omega]
    · rw [if_neg hbc]
      by_cases hb2 : c + 1 < b
      · rw [if_pos hb2]
        by_cases g0 : g = 0
        · exfalso
          have := q1 (by omega)
          have := hEq (hms (by omega) (by omega))
          omega
        · rw [if_neg g0]
          have := hq2 g0
          have := hms (by omega) (by omega)
          rw [show k = f by omega]
      · rw [if_neg hb2]
        by_cases g0 : g = 0
        · rw [if_pos g0]
          have := q1 (by omega)
          have := hms (by omega) (by omega)
          omega
        · exfalso
          have := hq2 g0
          omega
  · rw [if_pos hr1]
    have := hr0 hr1
    by_cases g0 : g = 0
    · exfalso
      have := q1 (by omega)
      have := hEq (hms (by omega) (by omega))
      omega
    · rw [if_neg g0]
      have := hq2 g0
      have := hms (by omega) (by omega)
      rw [show k = f by omega]
end Go.Proofs.YtnljpbpphdhnpaaGreatDoor

/- The library's scaling by a power of ten, of every number of 64 bits. -/
namespace Go.Proofs.YtnljpbpphdhnpaaGreatDoor
open Go.RowKit Go.PlainAid

/-- where the number itself stands: f, and g over den behind it; N: what is reckoned, D times as great, more or less -/
theorem near_div8 (N D den f g : Int) (hden : 0 < den) (h1 : N * den < (f * den + g) * D + den * 18446744073709551616) (h2 : (f * den + g) * D < N * den + den * 18446744073709551616) :
    (g = 0 → -18446744073709551616 < N - f * D ∧ N - f * D < 18446744073709551616) ∧
    (8 * 18446744073709551616 * den ≤ g * D → 8 * 18446744073709551616 * den ≤ (den - g) * D → 7 * 18446744073709551616 < N - f * D ∧ N - f * D < D - 7 * 18446744073709551616) := by
  have e : (f * den + g) * D = f * D * den + g * D := by
    rw [Int.add_mul, Int.mul_right_comm]
  rw [e] at h1 h2
  have e2 : (N - f * D) * den = N * den - f * D * den := Int.sub_mul _ _ _
  have e3 : (den - g) * D = D * den - g * D := by rw [Int.sub_mul, Int.mul_comm den D]
  have lt_of (a b : Int) (h : a * den < b * den) : a < b := Int.lt_of_mul_lt_mul_right h (Int.le_of_lt hden)
  refine ⟨fun hg => ?_, fun ha hb => ?_⟩
  · subst hg
    rw [Int.zero_mul] at h1 h2
    refine ⟨lt_of _ _ ?_, lt_of _ _ ?_⟩
    · rw [e2]; omega
    · rw [e2]; omega
  · rw [e3] at hb
    refine ⟨lt_of _ _ ?_, lt_of _ _ ?_⟩
    · rw [e2]; omega
    · rw [e2, Int.sub_mul]; omega

set_option maxRecDepth 100000 in
set_option maxHeartbeats 1000000 in
theorem usc_core64 (x hi lo s num den : Nat) (hx : x < 18446744073709551616) (hlo : lo < 18446744073709551616) (hp : x * lo ≤ x * hi * 18446744073709551616) (hden : 0 < den)
    (h1 : (x * hi * 18446744073709551616 - x * lo) * den < num * 2 ^ (128 + s) + den * 18446744073709551616) (h2 : num * 2 ^ (128 + s) < (x * hi * 18446744073709551616 - x * lo) * den + den * 18446744073709551616)
    (hg : num % den = 0 ∨ (8 * 18446744073709551616 * den ≤ num % den * 2 ^ (128 + s) ∧ 8 * 18446744073709551616 * den ≤ (den - num % den) * 2 ^ (128 + s))) :
    uscN x hi lo s = uN num den := by
  have hP : 0 < 2 ^ s := Nat.two_pow_pos s
  have hD : 2 ^ (128 + s) = 2 ^ s * 340282366920938463463374607431768211456 := by rw [Nat.add_comm, Nat.pow_add]
  have hc : x * lo / 18446744073709551616 + 2 ≤ 18446744073709551616 := by
    have h3 : x * lo < (18446744073709551616 - 1) * 18446744073709551616 := by
      have : x * lo ≤ (18446744073709551616 - 1) * lo := Nat.mul_le_mul_right _ (by omega)
      omega
    have := (Nat.div_lt_iff_lt_mul (by decide)).2 h3
    omega
  unfold uscN uN
  have ha := Nat.div_add_mod (x * hi) 18446744073709551616
  have hb := Nat.mod_lt (x * hi) (show 0 < 18446744073709551616 by decide)
  have hl := Nat.div_add_mod (x * lo) 18446744073709551616
  have hd := Nat.mod_lt (x * lo) (show 0 < 18446744073709551616 by decide)
  have hf := Nat.div_add_mod num den
  have hgl := Nat.mod_lt num hden
  generalize hA : x * hi / 18446744073709551616 = A at *
  generalize hB : x * hi % 18446744073709551616 = b at *
  generalize hC : x * lo / 18446744073709551616 = c at *
  generalize hDD : x * lo % 18446744073709551616 = d at *
  generalize hF : num / den = f at *
  generalize hG : num % den = g at *
  have hk := Nat.div_add_mod A (2 ^ s)
  have hr := Nat.mod_lt A hP
  have hm2 : A % 2 ^ s = 0 → 1 ≤ A → (A - 1) / 2 ^ s + 1 = A / 2 ^ s := fun h0 h1 => by
    rw [h0, Nat.add_zero] at hk
    generalize A / 2 ^ s = k at hk ⊢
    have k1 : 1 ≤ k := by
      rcases Nat.eq_zero_or_pos k with h | h
      · subst h; simp at hk; omega
      · exact h
    have e : A - 1 = (2 ^ s - 1) + 2 ^ s * (k - 1) := by
      rw [← hk, Nat.mul_sub, Nat.mul_one]
      have : 2 ^ s ≤ 2 ^ s * k := Nat.le_mul_of_pos_right _ k1
      omega
    rw [e, Nat.add_mul_div_left _ _ hP, Nat.div_eq_of_lt (by omega)]
    omega
  generalize hK : A / 2 ^ s = k at *
  generalize hR : A % 2 ^ s = r at *
  rw [hD] at h1 h2 hg
  generalize hPP : 2 ^ s = P at *
  -- over the integers
  have c3 : ((P * 340282366920938463463374607431768211456 : Nat) : Int) = (P : Int) * 340282366920938463463374607431768211456 := by omega
  have hN : ((x * hi * 18446744073709551616 - x * lo : Nat) : Int) = (k : Int) * ((P : Int) * 340282366920938463463374607431768211456) + (r : Int) * 340282366920938463463374607431768211456 + ((b : Int) - c) * 18446744073709551616 - d := by
    have hPk : (k : Int) * ((P : Int) * 340282366920938463463374607431768211456) = ((P * k : Nat) : Int) * 340282366920938463463374607431768211456 := by rw [Int.natCast_mul, ← Int.mul_assoc, Int.mul_comm (k : Int)]
    rw [hPk]
    generalize P * k = z at *
    generalize x * hi = z1 at *
    generalize x * lo = z2 at *
    omega
  generalize hNN : x * hi * 18446744073709551616 - x * lo = NN at *
  have c1 : ((NN * den : Nat) : Int) = (NN : Int) * den := Int.natCast_mul _ _
  have c2 : ((num * (P * 340282366920938463463374607431768211456) : Nat) : Int) = ((f : Int) * den + g) * ((P : Int) * 340282366920938463463374607431768211456) := by
    rw [Int.natCast_mul, c3]
    congr 1
    rw [← hf, Int.natCast_add, Int.natCast_mul, Int.mul_comm]
  have hI1 : (NN : Int) * den < ((f : Int) * den + g) * ((P : Int) * 340282366920938463463374607431768211456) + den * 18446744073709551616 := by
    rw [← c1, ← c2]
    omega
  have hI2 : ((f : Int) * den + g) * ((P : Int) * 340282366920938463463374607431768211456) < (NN : Int) * den + den * 18446744073709551616 := by
    rw [← c1, ← c2]
    omega
  obtain ⟨q1, q2⟩ := near_div8 _ _ (den : Int) (f : Int) (g : Int) (by omega) hI1 hI2
  rw [hN] at q1 q2
  have hq2 : g ≠ 0 → 7 * 18446744073709551616 < (k : Int) * ((P : Int) * 340282366920938463463374607431768211456) + (r : Int) * 340282366920938463463374607431768211456 + ((b : Int) - c) * 18446744073709551616 - d - (f : Int) * ((P : Int) * 340282366920938463463374607431768211456) ∧
      (k : Int) * ((P : Int) * 340282366920938463463374607431768211456) + (r : Int) * 340282366920938463463374607431768211456 + ((b : Int) - c) * 18446744073709551616 - d - (f : Int) * ((P : Int) * 340282366920938463463374607431768211456) < (P : Int) * 340282366920938463463374607431768211456 - 7 * 18446744073709551616 := fun h => by
    rcases hg with h0 | ⟨h0, h3⟩
    · exact absurd h0 h
    · have c5 : ((g * (P * 340282366920938463463374607431768211456) : Nat) : Int) = (g : Int) * ((P : Int) * 340282366920938463463374607431768211456) := by rw [Int.natCast_mul, c3]
      have c6 : (((den - g) * (P * 340282366920938463463374607431768211456) : Nat) : Int) = ((den : Int) - g) * ((P : Int) * 340282366920938463463374607431768211456) := by
        rw [Int.natCast_mul, c3]
        congr 1
        omega
      refine q2 ?_ ?_
      · rw [← c5]
        omega
      · rw [← c6]
        omega
  have hDp : (340282366920938463463374607431768211456 : Int) ≤ (P : Int) * 340282366920938463463374607431768211456 := by omega
  have hrD : (r : Int) * 340282366920938463463374607431768211456 ≤ (P : Int) * 340282366920938463463374607431768211456 - 340282366920938463463374607431768211456 := by omega
  have hr0 : r ≠ 0 → (340282366920938463463374607431768211456 : Int) ≤ (r : Int) * 340282366920938463463374607431768211456 := fun h => by omega
  generalize hDI : (P : Int) * 340282366920938463463374607431768211456 = DI at *
  generalize hRI : (r : Int) * 340282366920938463463374607431768211456 = RI at *
  have hmul : ((k : Int) - f) * DI = k * DI - f * DI := Int.sub_mul _ _ _
  have hms := mul_small ((k : Int) - f) DI (by omega)
  have hms1 := mul_small ((k : Int) - f - 1) DI (by omega)
  have e1 : ((k : Int) - f - 1) * DI = k * DI - f * DI - DI := by rw [Int.sub_mul, hmul]; omega
  rw [hmul] at hms
  rw [e1] at hms1
  have hEq : (k : Int) - f = 0 → (k : Int) * DI = f * DI := fun h => by rw [show (k : Int) = f by omega]
  clear hmul e1 hN hI1 hI2 h1 h2 hg q2 c1 c2 c3
  generalize (k : Int) * DI = kD at *
  generalize (f : Int) * DI = fD at *
  by_cases hr1 : r = 0
  · subst hr1
    have hRI0 : RI = 0 := by rw [← hRI]; omega
    subst hRI0
    rw [if_neg (by omega)]
    by_cases hbc : b < c
    · rw [if_pos hbc]
      have hA1 : 1 ≤ A := by
        rcases Nat.eq_zero_or_pos A with h | h
        · exfalso
          subst h
          omega
        · exact h
      have := hm2 rfl hA1
      by_cases g0 : g = 0
      · exfalso
        have := q1 (by omega)
        omega
      · rw [if_neg g0]
        have := hq2 g0
        have := hms1 (by omega) (by omega)
        rw [show (A - 1) / P = f by omega]
    · rw [if_neg hbc]
      by_cases hb2 : c + 1 < b
      · rw [if_pos hb2]
        by_cases g0 : g = 0
        · exfalso
          have := q1 (by omega)
          have := hEq (hms (by omega) (by omega))
          omega
        · rw [if_neg g0]
          have := hq2 g0
          have := hms (by omega) (by omega)
          rw [show k = f by omega]
      · rw [if_neg hb2]
        by_cases g0 : g = 0
        · rw [if_pos g0]
          have := q1 (by omega)
          have := hms (by omega) (by omega)
          omega
        · exfalso
          have := hq2 g0
          omega
  · rw [if_pos hr1]
    have := hr0 hr1
    by_cases g0 : g = 0
    · exfalso
      have := q1 (by omega)
      have := hEq (hms (by omega) (by omega))
      omega
    · rw [if_neg g0]
      have := hq2 g0
      have := hms (by omega) (by omega)
      rw [show k = f by omega]
end Go.Proofs.YtnljpbpphdhnpaaGreatDoor

/- A number of 64 bits by a power of ten from -70 to 40: nothing that is not whole comes near a whole number in its first places. -/
namespace Go.Proofs.YtnljpbpphdhnpaaGreatDoor

/-- so great that no number of 64 bits comes nearer -/
def reachR (M : Nat) : Nat := 8 * M / 2 ^ 101 + 1
/-- two short vectors (x, a x) over M -/
def certOk (a M : Nat) (v : Int × Int × Int × Int) : Prop :=
  ((a : Int) * v.1 - v.2.1) % (M : Int) = 0 ∧ ((a : Int) * v.2.2.1 - v.2.2.2) % (M : Int) = 0 ∧ v.1 * v.2.2.2 - v.2.2.1 * v.2.1 ≠ 0 ∧
  2 ^ 64 * v.2.1.natAbs + reachR M * v.1.natAbs < M ∧ 2 ^ 64 * v.2.2.2.natAbs + reachR M * v.2.2.1.natAbs < M
instance (a M : Nat) (v : Int × Int × Int × Int) : Decidable (certOk a M v) := by unfold certOk; infer_instance
theorem dvd_zero_of (z : Int) (M : Nat) (h : z % (M : Int) = 0) (hb : z.natAbs < M) : z = 0 := by
  have h1 : (M : Int) ∣ z := Int.dvd_of_emod_eq_zero h
  have h2 : M ∣ z.natAbs := Int.ofNat_dvd_left.1 h1
  rcases Nat.eq_zero_or_pos z.natAbs with h3 | h3
  · omega
  · have := Nat.le_of_dvd h3 h2
    omega
theorem lat (a M : Nat) (v : Int × Int × Int × Int) (hc : certOk a M v) (x : Nat) (hx0 : 0 < x) (hx : x < 2 ^ 64) (c : Int) (h : ((a : Int) * x - c) % (M : Int) = 0) (hcb : c.natAbs ≤ reachR M) : False := by
  obtain ⟨x1, c1, x2, c2⟩ := v
  obtain ⟨k1, k2, k3, k4, k5⟩ := hc
  simp only at k1 k2 k3 k4 k5
  have z (y d : Int) (hy : ((a : Int) * y - d) % (M : Int) = 0) (hb : 2 ^ 64 * d.natAbs + reachR M * y.natAbs < M) : (x : Int) * d - c * y = 0 := by
    refine dvd_zero_of _ M ?_ ?_
    · have e : (x : Int) * d - c * y = y * ((a : Int) * x - c) - x * ((a : Int) * y - d) := by
        rw [Int.mul_sub, Int.mul_sub]
        have e1 : y * ((a : Int) * x) = x * ((a : Int) * y) := by rw [← Int.mul_assoc, ← Int.mul_assoc, Int.mul_comm y, Int.mul_comm (x : Int), Int.mul_assoc, Int.mul_comm y, ← Int.mul_assoc]
        rw [e1, Int.mul_comm y c]
        omega
      rw [e]
      have d1 := Int.dvd_of_emod_eq_zero h
      have d2 := Int.dvd_of_emod_eq_zero hy
      exact Int.emod_eq_zero_of_dvd (Int.dvd_sub (Int.dvd_mul_of_dvd_right d1) (Int.dvd_mul_of_dvd_right d2))
    · have b1 : ((x : Int) * d).natAbs ≤ 2 ^ 64 * d.natAbs := by
        rw [Int.natAbs_mul, Int.natAbs_natCast]
        exact Nat.mul_le_mul_right _ (Nat.le_of_lt hx)
      have b2 : (c * y).natAbs ≤ reachR M * y.natAbs := by
        rw [Int.natAbs_mul]
        exact Nat.mul_le_mul_right _ hcb
      omega
  have e1 := z x1 c1 k1 k4
  have e2 := z x2 c2 k2 k5
  have e3 : (x : Int) * (x1 * c2 - x2 * c1) = 0 := by
    have f1 : (x : Int) * c1 = c * x1 := by omega
    have f2 : (x : Int) * c2 = c * x2 := by omega
    rw [Int.mul_sub]
    have g1 : (x : Int) * (x1 * c2) = x1 * (c * x2) := by rw [← f2, ← Int.mul_assoc, Int.mul_comm (x : Int), Int.mul_assoc]
    have g2 : (x : Int) * (x2 * c1) = x2 * (c * x1) := by rw [← f1, ← Int.mul_assoc, Int.mul_comm (x : Int), Int.mul_assoc]
    have g3 : x1 * (c * x2) = x2 * (c * x1) := by rw [← Int.mul_assoc, ← Int.mul_assoc, Int.mul_comm x1, Int.mul_assoc, Int.mul_comm x1, ← Int.mul_assoc, Int.mul_comm c]
    rw [g1, g2, g3]
    omega
  rcases Int.mul_eq_zero.1 e3 with h0 | h0
  · omega
  · exact k3 h0
theorem far_of (a M : Nat) (v : Int × Int × Int × Int) (hM : 0 < M) (hc : certOk a M v) (x : Nat) (hx0 : 0 < x) (hx : x < 2 ^ 64) : reachR M ≤ a * x % M ∧ a * x % M + reachR M ≤ M := by
  have hlt := Nat.mod_lt (a * x) hM
  have hd := Nat.div_add_mod (a * x) M
  have hcast : ((a * x : Nat) : Int) = (a : Int) * x := Int.natCast_mul _ _
  have hmod : ((a : Int) * x - ((a * x % M : Nat) : Int)) % (M : Int) = 0 := by
    refine Int.emod_eq_zero_of_dvd ⟨((a * x / M : Nat) : Int), ?_⟩
    rw [← hcast, ← Int.natCast_mul]
    omega
  refine ⟨?_, ?_⟩
  · rcases Nat.lt_or_ge (a * x % M) (reachR M) with h | h
    · exact (lat a M v hc x hx0 hx _ hmod (by omega)).elim
    · exact h
  · rcases Nat.lt_or_ge M (a * x % M + reachR M) with h | h
    · refine (lat a M v hc x hx0 hx (((a * x % M : Nat) : Int) - (M : Int)) ?_ (by omega)).elim
      have d1 := Int.dvd_of_emod_eq_zero hmod
      have e : (a : Int) * x - (((a * x % M : Nat) : Int) - (M : Int)) = ((a : Int) * x - ((a * x % M : Nat) : Int)) + (M : Int) := by omega
      rw [e]
      exact Int.emod_eq_zero_of_dvd (Int.dvd_add d1 (Int.dvd_refl _))
    · exact h
theorem reach_ok (M c : Nat) (h : reachR M ≤ c) : 8 * M ≤ c * 2 ^ 101 := by
  unfold reachR at h
  have h1 := Nat.lt_div_mul_add (show 0 < 2 ^ 101 from Nat.two_pow_pos _) (a := 8 * M)
  have h2 : (8 * M / 2 ^ 101 + 1) * 2 ^ 101 ≤ c * 2 ^ 101 := Nat.mul_le_mul_right _ h
  rw [Nat.add_mul, Nat.one_mul] at h2
  omega

/-- for ten to the powers 27 to 40 -/
def upC : List (Int × Int × Int × Int) := [
  (10062750188229765821, 15351898345, -75278890228693237829, 11127845551),
  (-7896811204159807994, 443660739174, 16177094774379627645, 375349353037),
  (-11132230159035733523, 1842954342833, 12941675819503702116, 1501397412148),
  (7403116359608627551, 1159840481463, -133311205712200880311, 1031936206385),
  (7403116359608627551, 5799202407315, -108129587841682429759, 2967904344077),
  (-897191761432328809, 84156738046487, 61019314399733678026, 63654620199626),
  (-12383301232233201367, 20502117846861, 1011841933997393196858, 1961097487138),
  (-12383301232233201367, 102510589234305, 806996886951467917213, 28346507795413),
  (5786243235417211890, 13178048437581866, -46640083311224199523, 8639236003477033),
  (4628994588333769512, 52712193750327464, -46640083311224199523, 43196180017385165),
  (-5624820991577824295, 254044955018695021, 41015262319646375228, 38064054931769196),
  (-8999713586524518872, 2032359640149560168, 37640369724699680651, 952455139714931043),
  (4256491586050449614, 14099068120327223094, -20127672966074262551, 13274062341331990133),
  (-620341324374492819, 69670334822640882509, 19507331641699769732, 3300023115980931844)]
/-- for ten to the powers -42 to -70 -/
def dnC : List (Int × Int × Int × Int) := [
  (12810223295816947039, 886100939, -251945183233060199412, 321993763),
  (13875043966636632381, 21588416299, -50176072512448102814, 3866397519),
  (13875043966636632381, 172707330392, -20953762345302589973, 148862485389),
  (15644723561303121779, 369259505787, -71427292218544934106, 130811055757),
  (-14458660260650896132, 4085028225141, 21254985848621570921, 3823406113627),
  (-3614665065162724033, 8170056450282, 83862117675437081583, 7022642445143),
  (-3614665065162724033, 32680225801128, 105731313360587032987, 26943155775433),
  (2033839150298371024, 909309252405889, -18073325325813620165, 653604516022560),
  (254229893787296378, 909309252405889, -97485063655112399409, 683521573537508),
  (635574734468240945, 9093092524058890, -48297629513428431043, 7732207913916239),
  (12233301061974167997, 1360884610142651, -1623851167570223138876, 864197332205217),
  (9969444214565927179, 371889008623211506, -25598530547652456403, 158726812108752733),
  (-3907271583271632306, 530615820731964239, 104549023238632488179, 9158682216730774),
  (-9768178958179080765, 5306158207319642390, 45436786348590887554, 3732628109557211221),
  (-3293071850120899259, 71139154706950131122, 19480839620266353024, 585567914032348883),
  (6447347960012277253, 285727754655865222254, -17903701565320664027, 282799915085703477839),
  (6447347960012277253, 1142911018623460889016, -23991463946653899347, 1128271820772652166941),
  (6447347960012277253, 4571644074493843556064, -31601166923320443497, 4498448085239799945689),
  (6367901350419659407, 9216484138241730722503, -88753385857912142468, 7752564353160858515003),
  (9651160287620261418, 192082247117995472965063, -22188346464478035617, 7752564353160858515003),
  (969777127286308964, 975916364296299081855321, -22188346464478035617, 31010257412643434060012),
  (-10488062527685074706, 5003622851132069145516653, 11700283936792960911, 4755540791830921673036557),
  (11700283936792960911, 19022163167323686692146228, -18960220128002823838, 15507032671998502381510151),
  (-9480110064001411919, 31014065343997004763020302, 81391315193990167832, 19644272281253340724850619),
  (10867718734496130039, 287401067314482719553863654, -40001853261747724856, 189179705908216015929610559),
  (-8265952477318533564, 2866747656240509804219740909, 20868182049933061253, 960424563349714862285844057),
  (-10332440596648166955, 14333738281202549021098704545, 18801693930603427862, 6708445909639369253363117137),
  (-232898407836613256, 35375922472044467295560526227, 47702930050018409423, 28041150776653983180580764059),
  (-291123009795766570, 176879612360222336477802631135, 47702930050018409423, 112164603106615932722323056236)]
/-- the places of ten to the power p, less one -/
def lpZ (p : Int) : Int := p * 108853 / 32768
def upK (p : Nat) : Nat := (38 + lpZ p - p).toNat
def dnT (q : Nat) : Nat := (-38 - lpZ (-(q : Int)) - q).toNat
theorem ups : ∀ i, i < 14 → certOk (5 ^ (27 + i)) (2 ^ upK (27 + i)) (upC.getD i (0, 0, 0, 0)) := by decide +kernel
theorem dns : ∀ i, i < 29 → certOk (2 ^ dnT (42 + i)) (5 ^ (42 + i)) (dnC.getD i (0, 0, 0, 0)) := by decide +kernel
/-- nothing that isn't whole stands nearer to a whole number than eight last places of T -/
def gapF (N D T : Nat) : Prop := N % D = 0 ∨ (8 * 18446744073709551616 * D ≤ N % D * T ∧ 8 * 18446744073709551616 * D ≤ (D - N % D) * T)
theorem gap_ratio (N1 D1 N2 D2 T : Nat) (h1 : 0 < D1) (e : N1 * D2 = N2 * D1) (h : gapF N1 D1 T) : gapF N2 D2 T := by
  have f : N1 % D1 * D2 = N2 % D2 * D1 := by
    rw [← Nat.mul_mod_mul_right, ← Nat.mul_mod_mul_right, e, Nat.mul_comm D1 D2]
  rcases h with h | ⟨ha, hb⟩
  · left
    rw [h, Nat.zero_mul] at f
    rcases Nat.mul_eq_zero.1 f.symm with g | g
    · exact g
    · omega
  · right
    have f2 : (D1 - N1 % D1) * D2 = (D2 - N2 % D2) * D1 := by rw [Nat.sub_mul, Nat.sub_mul, f, Nat.mul_comm D1 D2]
    have tr (c1 c2 : Nat) (hc : c1 * D2 = c2 * D1) (hd : 8 * 18446744073709551616 * D1 ≤ c1 * T) : 8 * 18446744073709551616 * D2 ≤ c2 * T := by
      have g := Nat.mul_le_mul_right D2 hd
      have e1 : c1 * T * D2 = c2 * T * D1 := by rw [Nat.mul_right_comm, hc, Nat.mul_right_comm]
      have e2 : 8 * 18446744073709551616 * D1 * D2 = 8 * 18446744073709551616 * D2 * D1 := Nat.mul_right_comm _ _ _
      rw [e1, e2] at g
      exact Nat.le_of_mul_le_mul_right g h1
    exact ⟨tr _ _ f ha, tr _ _ f2 hb⟩
theorem gap_half (N D T k : Nat) (hD : 0 < D) (hT : 8 * 18446744073709551616 ≤ T) (h : gapF N D T) : gapF N (D * 2 ^ k) (T * 2 ^ k) := by
  have hp : 0 < 2 ^ k := Nat.two_pow_pos k
  have e := Nat.mod_mul (a := D) (b := 2 ^ k) (x := N)
  have hf := Nat.mod_lt (N / D) hp
  have hg := Nat.mod_lt N hD
  unfold gapF
  rw [e]
  generalize N / D % 2 ^ k = f at *
  have hle : D * f + D ≤ D * 2 ^ k := by
    have : D * (f + 1) ≤ D * 2 ^ k := Nat.mul_le_mul_left _ hf
    rw [Nat.mul_add, Nat.mul_one] at this
    exact this
  have step (c : Nat) (hc : 8 * 18446744073709551616 * D ≤ c * T) (c2 : Nat) (h2 : c ≤ c2) : 8 * 18446744073709551616 * (D * 2 ^ k) ≤ c2 * (T * 2 ^ k) := by
    have g := Nat.mul_le_mul_right (2 ^ k) hc
    have g2 := Nat.mul_le_mul_right (T * 2 ^ k) h2
    rw [Nat.mul_assoc, Nat.mul_assoc c] at g
    exact Nat.le_trans g g2
  have whole : 8 * 18446744073709551616 * D ≤ D * T := by rw [Nat.mul_comm]; exact Nat.mul_le_mul_left _ hT
  rcases h with h | ⟨ha, hb⟩
  · rw [h, Nat.zero_add]
    rcases Nat.eq_zero_or_pos f with h0 | h0
    · left
      rw [h0, Nat.mul_zero]
    · right
      have h1 : D ≤ D * f := Nat.le_mul_of_pos_right _ h0
      exact ⟨step D whole _ h1, step D whole _ (by omega)⟩
  · right
    exact ⟨step _ ha _ (by omega), step _ hb _ (by omega)⟩
theorem gap_near (Y M : Nat) (hM : 0 < M) (h : 8 * M ≤ 2 ^ 101) : gapF Y M (2 ^ 165) := by
  unfold gapF
  have hlt := Nat.mod_lt Y hM
  have e : (2 : Nat) ^ 165 = 18446744073709551616 * 2 ^ 101 := by decide
  rcases Nat.eq_zero_or_pos (Y % M) with h0 | h0
  · exact .inl h0
  · right
    have f (c : Nat) (hc : 1 ≤ c) : 8 * 18446744073709551616 * M ≤ c * 2 ^ 165 := by
      have g : 1 * 2 ^ 165 ≤ c * 2 ^ 165 := Nat.mul_le_mul_right _ hc
      have g2 := Nat.mul_le_mul_left 18446744073709551616 h
      rw [e] at g ⊢
      omega
    exact ⟨f _ h0, f _ (by omega)⟩
theorem gap_far (a M : Nat) (v : Int × Int × Int × Int) (hM : 0 < M) (hc : certOk a M v) (x : Nat) (hx : x < 2 ^ 64) : gapF (a * x) M (2 ^ 165) := by
  unfold gapF
  rcases Nat.eq_zero_or_pos x with h0 | h0
  · left
    rw [h0, Nat.mul_zero, Nat.zero_mod]
  · right
    obtain ⟨f1, f2⟩ := far_of a M v hM hc x h0 hx
    have e : (2 : Nat) ^ 165 = 2 ^ 101 * 18446744073709551616 := by decide
    have f (c : Nat) (hc : reachR M ≤ c) : 8 * 18446744073709551616 * M ≤ c * 2 ^ 165 := by
      have g := Nat.mul_le_mul_right 18446744073709551616 (reach_ok M c hc)
      rw [e, ← Nat.mul_assoc]
      omega
    exact ⟨f _ f1, f _ (by omega)⟩
theorem up_near : ∀ p : Nat, p < 27 → 8 * 2 ^ upK p ≤ 2 ^ 101 := by decide +kernel
theorem dn_near : ∀ q : Nat, q < 42 → 1 ≤ q → 8 * (2 ^ (38 + lpZ (-(q : Int)) + q).toNat * 5 ^ q) ≤ 2 ^ 101 := by decide +kernel
theorem base_up (p x : Nat) (hp : p ≤ 40) (hx : x < 2 ^ 64) : gapF (x * 5 ^ p) (2 ^ upK p) (2 ^ 165) := by
  rcases Nat.lt_or_ge p 27 with h | h
  · exact gap_near _ _ (Nat.two_pow_pos _) (up_near p h)
  · obtain ⟨i, rfl⟩ : ∃ i, p = 27 + i := ⟨p - 27, by omega⟩
    rw [Nat.mul_comm]
    exact gap_far _ _ _ (Nat.two_pow_pos _) (ups i (by omega)) x hx
theorem base_dn (q x : Nat) (h1 : 1 ≤ q) (hq : q ≤ 70) (hx : x < 2 ^ 64) : gapF (x * 2 ^ dnT q) (2 ^ (38 + lpZ (-(q : Int)) + q).toNat * 5 ^ q) (2 ^ 165) := by
  have h5 : 0 < 5 ^ q := Nat.pow_pos (by decide)
  rcases Nat.lt_or_ge q 42 with h | h
  · exact gap_near _ _ (Nat.mul_pos (Nat.two_pow_pos _) h5) (dn_near q h h1)
  · obtain ⟨i, rfl⟩ : ∃ i, q = 42 + i := ⟨q - 42, by omega⟩
    have hz : (38 + lpZ (-((42 + i : Nat) : Int)) + ((42 + i : Nat) : Int)).toNat = 0 := by unfold lpZ; omega
    rw [hz, Nat.pow_zero, Nat.one_mul, Nat.mul_comm]
    exact gap_far _ _ _ h5 (dns i (by omega)) x hx
theorem pow_eq (a b c d : Nat) (h : a + b = c + d) : (2 : Nat) ^ a * 2 ^ b = 2 ^ c * 2 ^ d := by rw [← Nat.pow_add, ← Nat.pow_add, h]
theorem ten_five (n : Nat) : 10 ^ n = 2 ^ n * 5 ^ n := by rw [← Nat.mul_pow]
/-- a number of 64 bits by a power of ten, in places of the unrounded: nothing comes too near -/
theorem gap_all (p : Int) (x s : Nat) (h1 : -70 ≤ p) (h2 : p ≤ 40) (hx : x < 2 ^ 64) (hs : 37 ≤ s) :
    gapF (x * 2 ^ (-1 - lpZ p - s).toNat * 10 ^ p.toNat) (2 ^ (1 + lpZ p + s).toNat * 10 ^ (-p).toNat) (2 ^ (128 + s)) := by
  have eT : (2 : Nat) ^ (128 + s) = 2 ^ 165 * 2 ^ (s - 37) := by rw [← Nat.pow_add]; congr 1; omega
  have hT : 8 * 18446744073709551616 ≤ 2 ^ 165 := by decide
  rw [eT]
  by_cases hp : 0 ≤ p
  · obtain ⟨n, rfl⟩ := Int.eq_ofNat_of_zero_le hp
    have hb := base_up n x (by omega) hx
    refine gap_ratio _ _ _ _ _ (Nat.mul_pos (Nat.two_pow_pos _) (Nat.two_pow_pos (s - 37))) ?_ (gap_half _ _ _ (s - 37) (Nat.two_pow_pos _) hT hb)
    have z1 : (-((n : Nat) : Int)).toNat = 0 := by omega
    have z2 : ((n : Nat) : Int).toNat = n := by omega
    rw [z1, z2, Nat.pow_zero, Nat.mul_one, ten_five]
    have e := pow_eq (1 + lpZ n + s).toNat 0 (-1 - lpZ n - s).toNat (n + (upK n + (s - 37))) (by unfold upK lpZ; omega)
    rw [Nat.pow_zero, Nat.mul_one, Nat.pow_add 2 n, Nat.pow_add 2 (upK n)] at e
    rw [e]
    ac_rfl
  · obtain ⟨q, rfl⟩ : ∃ q : Nat, p = -(q : Int) := ⟨(-p).toNat, by omega⟩
    have hb := base_dn q x (by omega) (by omega) hx
    have h5 : 0 < 5 ^ q := Nat.pow_pos (by decide)
    refine gap_ratio _ _ _ _ _ (Nat.mul_pos (Nat.mul_pos (Nat.two_pow_pos _) h5) (Nat.two_pow_pos (s - 37))) ?_ (gap_half _ _ _ (s - 37) (Nat.mul_pos (Nat.two_pow_pos _) h5) hT hb)
    have z1 : (-(-((q : Nat) : Int))).toNat = q := by omega
    have z2 : (-((q : Nat) : Int)).toNat = 0 := by omega
    rw [z1, z2, Nat.pow_zero, Nat.mul_one, ten_five]
    have e := pow_eq (dnT q) ((1 + lpZ (-(q : Int)) + s).toNat + q) (-1 - lpZ (-(q : Int)) - s).toNat ((38 + lpZ (-(q : Int)) + q).toNat + (s - 37)) (by unfold dnT lpZ; omega)
    rw [Nat.pow_add 2 _ q, Nat.pow_add 2 (38 + lpZ (-(q : Int)) + q).toNat] at e
    generalize 2 ^ dnT q = a1 at *
    generalize 2 ^ (1 + lpZ (-(q : Int)) + s).toNat = a2 at *
    generalize 2 ^ (-1 - lpZ (-(q : Int)) - s).toNat = a3 at *
    generalize 2 ^ (38 + lpZ (-(q : Int)) + q).toNat = a4 at *
    generalize 2 ^ (s - 37) = a5 at *
    generalize 2 ^ q = a6 at *
    calc x * a1 * (a2 * (a6 * 5 ^ q)) = x * 5 ^ q * (a1 * (a2 * a6)) := by ac_rfl
      _ = x * 5 ^ q * (a3 * (a4 * a5)) := by rw [e]
      _ = x * a3 * (a4 * 5 ^ q * a5) := by ac_rfl
end Go.Proofs.YtnljpbpphdhnpaaGreatDoor

/- The library's scaling of every number of 64 bits by a power of ten from -70 to 40 is exact. -/
namespace Go.Proofs.YtnljpbpphdhnpaaGreatDoor
open Go.RowKit Go.PlainAid

/-- the table's row of ten to the power p, from -70 on -/
def hiZ (p : Int) : Nat := (Go.Pinned.pow10Rows.getD (348 + p).toNat (0, 0)).1
def loZ (p : Int) : Nat := (Go.Pinned.pow10Rows.getD (348 + p).toNat (0, 0)).2
def rowZ (p : Int) : Prop := hiZ p < 18446744073709551616 ∧ loZ p < 18446744073709551616 ∧ loZ p ≤ hiZ p * 18446744073709551616 ∧
  (hiZ p * 18446744073709551616 - loZ p) * (4194304 * 10 ^ (-p).toNat) ≤ 10 ^ p.toNat * 2 ^ (149 - lpZ p).toNat + 4194304 * 10 ^ (-p).toNat ∧ 10 ^ p.toNat * 2 ^ (149 - lpZ p).toNat ≤ (hiZ p * 18446744073709551616 - loZ p) * (4194304 * 10 ^ (-p).toNat) + 4194304 * 10 ^ (-p).toNat
instance (p : Int) : Decidable (rowZ p) := by unfold rowZ; infer_instance
theorem rows_z : ∀ j : Nat, j < 111 → rowZ ((j : Int) - 70) := by decide +kernel
theorem usc_z (p : Int) (x s : Nat) (h1 : -70 ≤ p) (h2 : p ≤ 40) (hx : x < 18446744073709551616) (hs : 37 ≤ s) :
    uscN x (hiZ p) (loZ p) s = uN (x * 2 ^ (-1 - lpZ p - s).toNat * 10 ^ p.toNat) (2 ^ (1 + lpZ p + s).toNat * 10 ^ (-p).toNat) := by
  obtain ⟨a1, a2, a3, a6, a7⟩ : rowZ p := by
    have := rows_z (p + 70).toNat (by omega)
    rwa [show (((p + 70).toNat : Nat) : Int) - 70 = p by omega] at this
  have hden : 0 < 2 ^ (1 + lpZ p + s).toNat * 10 ^ (-p).toNat := Nat.mul_pos (Nat.two_pow_pos _) (Nat.pow_pos (by decide))
  have hle : x * loZ p ≤ x * hiZ p * 18446744073709551616 := by
    rw [Nat.mul_assoc x]
    exact Nat.mul_le_mul_left _ a3
  have hN : x * hiZ p * 18446744073709551616 - x * loZ p = x * (hiZ p * 18446744073709551616 - loZ p) := by
    rw [Nat.mul_assoc x, Nat.mul_sub]
  have hg := gap_all p x s h1 h2 hx hs
  have e2 : (2 : Nat) ^ (-1 - lpZ p - s).toNat * (2 ^ (128 + s) * 4194304) = 2 ^ (1 + lpZ p + s).toNat * 2 ^ (149 - lpZ p).toNat := by
    rw [show (4194304 : Nat) = 2 ^ 22 by decide, ← Nat.pow_add, ← Nat.pow_add, ← Nat.pow_add]
    congr 1
    unfold lpZ
    omega
  have m6 := Nat.mul_le_mul_left (x * 2 ^ (1 + lpZ p + s).toNat) a6
  have m7 := Nat.mul_le_mul_left (x * 2 ^ (1 + lpZ p + s).toNat) a7
  obtain ⟨pm, hpm⟩ : ∃ pm, hiZ p * 18446744073709551616 - loZ p = pm := ⟨_, rfl⟩
  rw [hpm] at hN m6 m7
  obtain ⟨A, hA⟩ : ∃ A : Nat, 2 ^ (-1 - lpZ p - s).toNat = A := ⟨_, rfl⟩
  obtain ⟨B, hB⟩ : ∃ B : Nat, 2 ^ (1 + lpZ p + s).toNat = B := ⟨_, rfl⟩
  obtain ⟨C, hC⟩ : ∃ C : Nat, 2 ^ (149 - lpZ p).toNat = C := ⟨_, rfl⟩
  obtain ⟨T, hT⟩ : ∃ T : Nat, 2 ^ (128 + s) = T := ⟨_, rfl⟩
  obtain ⟨U, hU⟩ : ∃ U : Nat, 10 ^ p.toNat = U := ⟨_, rfl⟩
  obtain ⟨V, hV⟩ : ∃ V : Nat, 10 ^ (-p).toNat = V := ⟨_, rfl⟩
  rw [hA, hU, hB, hV, hT] at hg
  rw [hB, hV] at hden
  rw [hA, hT, hB, hC] at e2
  rw [hB, hU, hC, hV] at m6 m7
  rw [hA, hU, hB, hV]
  have e1 : x * A * U * T * 4194304 = x * B * (U * C) := by
    calc x * A * U * T * 4194304 = x * U * (A * (T * 4194304)) := by ac_rfl
      _ = x * U * (B * C) := by rw [e2]
      _ = x * B * (U * C) := by ac_rfl
  have e3 : x * pm * (B * V) * 4194304 = x * B * (pm * (4194304 * V)) := by ac_rfl
  have e4 : x * B * (4194304 * V) = x * (B * V) * 4194304 := by ac_rfl
  have e5 : x * (B * V) * 4194304 < B * V * 18446744073709551616 * 4194304 := by
    refine Nat.mul_lt_mul_of_pos_right ?_ (by decide)
    rw [Nat.mul_comm]
    exact Nat.mul_lt_mul_of_pos_left hx hden
  rw [Nat.mul_add, e4, ← e1, ← e3] at m6 m7
  refine usc_core64 _ _ _ _ _ _ hx a2 hle hden ?_ ?_ (by rw [hT]; exact hg)
  · rw [hN, hT]
    generalize x * pm * (B * V) = z1 at *
    generalize x * A * U * T = z2 at *
    generalize x * (B * V) = z3 at *
    generalize B * V = z4 at *
    omega
  · rw [hN, hT]
    generalize x * pm * (B * V) = z1 at *
    generalize x * A * U * T = z2 at *
    generalize x * (B * V) = z3 at *
    generalize B * V = z4 at *
    omega
end Go.Proofs.YtnljpbpphdhnpaaGreatDoor

/- The library's atof32 and ParseFloat at the one text that is asked for. -/
namespace Go.Proofs.YtnljpbpphdhnpaaGreatDoor
open Go.RowKit Go.PlainAid

def sP : ByteArray := ⟨#[49, 46, 54, 55, 55, 55, 50, 49, 55, 101, 55]⟩

set_option maxRecDepth 1000000 in
theorem special_p (w : World) : Calls Tryz.prog 152 #[.string ⟨#[49, 46, 54, 55, 55, 55, 50, 49, 55, 101, 55]⟩] w fun e w' => e = .returned (.tuple #[.float .f64 0, .int .i64 0, .bool false]) ∧ w' = w := by
  go_enter Tryz.func152, Tryz.ntmps152
  go_wp2
  go_ret3
  exact ⟨rfl, rfl⟩

def mP (k : Nat) : Int := [0, 1, 1, 16, 167, 1677, 16777, 167772, 1677721, 16777217].getD k 0
def nP (k : Nat) : Int := [0, 1, 1, 2, 3, 4, 5, 6, 7, 8].getD k 0
def dP (k : Nat) : Int := [0, 0, 1, 1, 1, 1, 1, 1, 1, 1].getD k 0
def fP (k : Nat) : Bool := [false, false, true, true, true, true, true, true, true, true].getD k false
def eP (k : Nat) : Int := [0, 0, 0, 0, 0, 0, 0, 0, 0, 0, 0, 7].getD k 0

theorem read_p (w : World) : Calls Tryz.prog 153 #[.string sP] w fun e w' => e = .returned (.tuple #[.int .u64 16777217, .int .i64 0, .bool false, .bool false, .bool false, .int .i64 11, .bool true]) ∧ w' = w :=
  readFloat_any sP 9 mP nP dP fP eP w (by decide) (by unfold RunD; decide) (by decide) (by decide) (by decide) (by decide) (by decide) (by decide) (by
    intro k h1 h2
    have : k = 10 := by have : sP.size = 11 := rfl
                        omega
    subst this
    decide) (by decide) (by decide)

set_option maxRecDepth 1000000 in
theorem exact_p (w : World) : Calls Tryz.prog 157 #[.int .u64 16777217, .int .i64 0, .bool false] w fun e w' => e = .returned (.tuple #[.float .f32 0, .bool false]) ∧ w' = w := by
  go_enter Tryz.func157, Tryz.ntmps157
  go_wp2
  go_ret2
  exact ⟨rfl, rfl⟩
theorem bool2w_p (w : World) : Calls Tryz.prog 155 #[.bool false] w fun e w' => e = .returned (.int .u32 0) ∧ w' = w := by
  go_enter Tryz.func155, Tryz.ntmps155
  go_wp2
  go_ret
  exact ⟨rfl, rfl⟩

set_option maxRecDepth 1000000 in
set_option maxHeartbeats 1000000 in
theorem atof32_p (w : World) (c0 : w.cell? ⟨15, 696, none⟩ = some (.int .u64 9223372036854775808)) (c1 : w.cell? ⟨15, 697, none⟩ = some (.int .u64 0)) (c2 : w.cell? ⟨5, 0, none⟩ = some (.bool true)) :
    Calls Tryz.prog 124 #[.string ⟨#[49, 46, 54, 55, 55, 55, 50, 49, 55, 101, 55]⟩] w fun e w' => e = .returned (.tuple #[.float .f32 1266679808, .int .i64 11, .nilIface]) ∧ ∃ n, w' = (w.alloc (.cells #[.int .u64 9223372036854775808, .int .u64 0, .int .i64 37] 208)).drewN n := by
  have hR : ∀ w, Calls Tryz.prog 153 #[.string ⟨#[49, 46, 54, 55, 55, 55, 50, 49, 55, 101, 55]⟩] w fun e w' => e = .returned (.tuple #[.int .u64 16777217, .int .i64 0, .bool false, .bool false, .bool false, .int .i64 11, .bool true]) ∧ w' = w := fun w => read_p w
  have hQ := parse32_at w c0 c1
  clear c0 c1
  go_enter Tryz.func124, Tryz.ntmps124
  go_wp2_with (first
    | (go_at_call 152; refine (special_p _).mono ?_; rintro e9 w9 ⟨rfl, hw9⟩; obtain rfl := hw9.symm)
    | (go_at_call 153; refine (hR _).mono ?_; rintro e9 w9 ⟨rfl, hw9⟩; obtain rfl := hw9.symm)
    | (go_at_call 157; refine (exact_p _).mono ?_; rintro e9 w9 ⟨rfl, hw9⟩; obtain rfl := hw9.symm)
    | (go_at_call 155; refine (bool2w_p _).mono ?_; rintro e9 w9 ⟨rfl, hw9⟩; obtain rfl := hw9.symm)
    | (go_at_call 158; refine hQ.mono ?_; rintro e9 w9 ⟨rfl, n9, rfl⟩))
  go_ret3
  exact ⟨rfl, _, rfl⟩

set_option maxRecDepth 1000000 in
theorem conv_p (w : World) : (convert 22 80 (.float .f32 1266679808)).run Tryz.prog w = .ok (.float .f64 4715268809856909312) w :=
  run_convert_float_float w 22 80 .f32 .f64 1266679808 4715268809856909312 (by kernel_rfl) Tryz.underlying80 (by decide)

set_option maxRecDepth 1000000 in
theorem prefix_p (w : World) (c0 : w.cell? ⟨15, 696, none⟩ = some (.int .u64 9223372036854775808)) (c1 : w.cell? ⟨15, 697, none⟩ = some (.int .u64 0)) (c2 : w.cell? ⟨5, 0, none⟩ = some (.bool true)) :
    Calls Tryz.prog 99 #[.string ⟨#[49, 46, 54, 55, 55, 55, 50, 49, 55, 101, 55]⟩, .int .i64 32] w fun e w' => e = .returned (.tuple #[.float .f64 4715268809856909312, .int .i64 11, .nilIface]) ∧ ∃ n, w' = (w.alloc (.cells #[.int .u64 9223372036854775808, .int .u64 0, .int .i64 37] 208)).drewN n := by
  have hQ := atof32_p w c0 c1 c2
  have hC := conv_p
  clear c0 c1 c2
  go_enter Tryz.func99, Tryz.ntmps99
  go_wp2_with (first | (go_at_call 124; refine hQ.mono ?_; rintro e9 w9 ⟨rfl, n9, rfl⟩))
  go_ret3
  exact ⟨rfl, _, rfl⟩
set_option maxRecDepth 1000000 in
theorem ipf_p (w : World) (c0 : w.cell? ⟨15, 696, none⟩ = some (.int .u64 9223372036854775808)) (c1 : w.cell? ⟨15, 697, none⟩ = some (.int .u64 0)) (c2 : w.cell? ⟨5, 0, none⟩ = some (.bool true)) :
    Calls Tryz.prog 79 #[.string ⟨#[49, 46, 54, 55, 55, 55, 50, 49, 55, 101, 55]⟩, .int .i64 32] w fun e w' => e = .returned (.tuple #[.float .f64 4715268809856909312, .nilIface]) ∧ ∃ n, w' = (w.alloc (.cells #[.int .u64 9223372036854775808, .int .u64 0, .int .i64 37] 208)).drewN n := by
  have hQ := prefix_p w c0 c1 c2
  clear c0 c1 c2
  go_enter Tryz.func79, Tryz.ntmps79
  go_wp2_with (first | (go_at_call 99; refine hQ.mono ?_; rintro e9 w9 ⟨rfl, n9, rfl⟩))
  go_ret2
  exact ⟨rfl, _, rfl⟩
set_option maxRecDepth 1000000 in
theorem pf_p (w : World) (c0 : w.cell? ⟨15, 696, none⟩ = some (.int .u64 9223372036854775808)) (c1 : w.cell? ⟨15, 697, none⟩ = some (.int .u64 0)) (c2 : w.cell? ⟨5, 0, none⟩ = some (.bool true)) :
    Calls Tryz.prog 55 #[.string ⟨#[49, 46, 54, 55, 55, 55, 50, 49, 55, 101, 55]⟩, .int .i64 32] w fun e w' => e = .returned (.tuple #[.float .f64 4715268809856909312, .nilIface]) ∧ ∃ n, w' = (w.alloc (.cells #[.int .u64 9223372036854775808, .int .u64 0, .int .i64 37] 208)).drewN n := by
  have hQ := ipf_p w c0 c1 c2
  clear c0 c1 c2
  go_enter Tryz.func55, Tryz.ntmps55
  go_wp2_with (first | (go_at_call 79; refine hQ.mono ?_; rintro e9 w9 ⟨rfl, n9, rfl⟩))
  go_ret2
  exact ⟨rfl, _, rfl⟩
end Go.Proofs.YtnljpbpphdhnpaaGreatDoor


