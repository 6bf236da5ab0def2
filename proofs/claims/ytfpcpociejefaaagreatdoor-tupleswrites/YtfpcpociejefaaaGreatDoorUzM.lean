/- The library's scaling by a power of ten that is told in 128 bits, more or less: why what is cut is the number itself, cut, and its last place. -/
import Derived.Test.YtfpcpociejefaaaGreatDoorPgA
namespace Go.Proofs.YtfpcpociejefaaaGreatDoor
open Go.RowKit Go.PlainAid
/-- a over b, cut, with its last place set where something was cut off -/
def uN (a b : Nat) : Nat := if a % b = 0 then a / b else 2 * (a / b / 2) + 1
/-- what the library's scaling comes to -/
def uscN (x hi lo s : Nat) : Nat :=
 if x * hi / 18446744073709551616 % 2 ^ s ≠ 0 then 2 * (x * hi / 18446744073709551616 / 2 ^ s / 2) + 1
 else if x * hi % 18446744073709551616 < x * lo / 18446744073709551616 then 2 * ((x * hi / 18446744073709551616 - 1) / 2 ^ s / 2) + 1
 else if x * lo / 18446744073709551616 + 1 < x * hi % 18446744073709551616 then 2 * (x * hi / 18446744073709551616 / 2 ^ s / 2) + 1
 else x * hi / 18446744073709551616 / 2 ^ s
theorem mul_small (j D : Int) (hD : 0 < D) (h1 : -D < j * D) (h2 : j * D < D) : j = 0 := by
 by_cases a : 1 ≤ j
 ·have := Int.mul_le_mul_of_nonneg_right a (Int.le_of_lt hD)
  omega
 ·by_cases b : j ≤ -1
  ·have := Int.mul_le_mul_of_nonneg_right b (Int.le_of_lt hD)
   omega
  ·omega
/-- where the number itself stands: f, and g over den behind it; N: what is reckoned, D times as great, more or less -/
theorem near_div (N D den f g : Int) (hden : 0 < den) (h1 : N * den < (f * den + g) * D + den * 18446744073709551616) (h2 : (f * den + g) * D < N * den + den * 18446744073709551616) :
  (g = 0 → -18446744073709551616 < N - f * D ∧ N - f * D < 18446744073709551616) ∧
  (3 * 18446744073709551616 * den ≤ g * D → 3 * 18446744073709551616 * den ≤ (den - g) * D → 2 * 18446744073709551616 < N - f * D ∧ N - f * D < D - 2 * 18446744073709551616) := by
 have e : (f * den + g) * D = f * D * den + g * D := by
  rw [Int.add_mul, Int.mul_right_comm]
 rw [e] at h1 h2
 have e2 : (N - f * D) * den = N * den - f * D * den := Int.sub_mul _ _ _
 have e3 : (den - g) * D = D * den - g * D := by rw [Int.sub_mul, Int.mul_comm den D]
 have lt_of (a b : Int) (h : a * den < b * den) : a < b := Int.lt_of_mul_lt_mul_right h (Int.le_of_lt hden)
 refine ⟨fun hg => ?_, fun ha hb => ?_⟩
 ·subst hg
  rw [Int.zero_mul] at h1 h2
  refine ⟨lt_of _ _ ?_, lt_of _ _ ?_⟩
  ·rw [e2]; omega
  ·rw [e2]; omega
 ·rw [e3] at hb
  refine ⟨lt_of _ _ ?_, lt_of _ _ ?_⟩
  ·rw [e2]; omega
  ·rw [e2, Int.sub_mul]; omega
set_option maxRecDepth 100000 in
set_option maxHeartbeats 1000000 in
theorem usc_core (x hi lo s num den : Nat) (hx : x + 4 ≤ 18446744073709551616) (hlo : lo < 18446744073709551616) (hp : x * lo ≤ x * hi * 18446744073709551616) (hden : 0 < den)
  (h1 : (x * hi * 18446744073709551616 - x * lo) * den < num * 2 ^ (128 + s) + den * 18446744073709551616) (h2 : num * 2 ^ (128 + s) < (x * hi * 18446744073709551616 - x * lo) * den + den * 18446744073709551616)
  (hg : num % den = 0 ∨ (3 * 18446744073709551616 * den ≤ num % den * 2 ^ (128 + s) ∧ 3 * 18446744073709551616 * den ≤ (den - num % den) * 2 ^ (128 + s))) :
  uscN x hi lo s = uN num den := by
 have hP : 0 < 2 ^ s := Nat.two_pow_pos s
 have hD : 2 ^ (128 + s) = 2 ^ s * 340282366920938463463374607431768211456 := by rw [Nat.add_comm, Nat.pow_add]
 have hc : x * lo / 18446744073709551616 + 5 ≤ 18446744073709551616 := by
  have h3 : x * lo < (18446744073709551616 - 4) * 18446744073709551616 := by
   have : x * lo ≤ (18446744073709551616 - 4) * lo := Nat.mul_le_mul_right _ (by omega)
   omega
  have := (Nat.div_lt_iff_lt_mul (by decide)).2 h3
  omega
 unfold uscN uN
 have ha := Nat.div_add_mod (x * hi) 18446744073709551616
 have hb := Nat.mod_lt (x * hi) (show 0 < 18446744073709551616 by decide)
 have hl := Nat.div_add_mod (x * lo) 18446744073709551616
 have hd := Nat.mod_lt (x * lo) (show 0 < 18446744073709551616 by decide)
 have hf := Nat.div_add_mod num den
 have hgl := Nat.mod_lt num hden
 generalize hA : x * hi / 18446744073709551616 = A at *
 generalize hB : x * hi % 18446744073709551616 = b at *
 generalize hC : x * lo / 18446744073709551616 = c at *
 generalize hDD : x * lo % 18446744073709551616 = d at *
 generalize hF : num / den = f at *
 generalize hG : num % den = g at *
 have hk := Nat.div_add_mod A (2 ^ s)
 have hr := Nat.mod_lt A hP
 have hm2 : A % 2 ^ s = 0 → 1 ≤ A → (A - 1) / 2 ^ s + 1 = A / 2 ^ s := fun h0 h1 => by
  rw [h0, Nat.add_zero] at hk
  generalize A / 2 ^ s = k at hk ⊢
  have k1 : 1 ≤ k := by
   rcases Nat.eq_zero_or_pos k with h | h
   ·subst h; simp at hk; omega
   ·exact h
  have e : A - 1 = (2 ^ s - 1) + 2 ^ s * (k - 1) := by
   rw [← hk, Nat.mul_sub, Nat.mul_one]
   have : 2 ^ s ≤ 2 ^ s * k := Nat.le_mul_of_pos_right _ k1
   omega
  rw [e, Nat.add_mul_div_left _ _ hP, Nat.div_eq_of_lt (by omega)]
  omega
 generalize hK : A / 2 ^ s = k at *
 generalize hR : A % 2 ^ s = r at *
 rw [hD] at h1 h2 hg
 generalize hPP : 2 ^ s = P at *
 -- over the integers
 have c3 : ((P * 340282366920938463463374607431768211456 : Nat) : Int) = (P : Int) * 340282366920938463463374607431768211456 := by omega
 have hN : ((x * hi * 18446744073709551616 - x * lo : Nat) : Int) = (k : Int) * ((P : Int) * 340282366920938463463374607431768211456) + (r : Int) * 340282366920938463463374607431768211456 + ((b : Int) - c) * 18446744073709551616 - d := by
  have hPk : (k : Int) * ((P : Int) * 340282366920938463463374607431768211456) = ((P * k : Nat) : Int) * 340282366920938463463374607431768211456 := by rw [Int.natCast_mul, ← Int.mul_assoc, Int.mul_comm (k : Int)]
  rw [hPk]
  generalize P * k = z at *
  generalize x * hi = z1 at *
  generalize x * lo = z2 at *
  omega
 generalize hNN : x * hi * 18446744073709551616 - x * lo = NN at *
 have c1 : ((NN * den : Nat) : Int) = (NN : Int) * den := Int.natCast_mul _ _
 have c2 : ((num * (P * 340282366920938463463374607431768211456) : Nat) : Int) = ((f : Int) * den + g) * ((P : Int) * 340282366920938463463374607431768211456) := by
  rw [Int.natCast_mul, c3]
  congr 1
  rw [← hf, Int.natCast_add, Int.natCast_mul, Int.mul_comm]
 have hI1 : (NN : Int) * den < ((f : Int) * den + g) * ((P : Int) * 340282366920938463463374607431768211456) + den * 18446744073709551616 := by
  rw [← c1, ← c2]
  omega
 have hI2 : ((f : Int) * den + g) * ((P : Int) * 340282366920938463463374607431768211456) < (NN : Int) * den + den * 18446744073709551616 := by
  rw [← c1, ← c2]
  omega
 obtain ⟨q1, q2⟩ := near_div _ _ (den : Int) (f : Int) (g : Int) (by omega) hI1 hI2
 rw [hN] at q1 q2
 have hq2 : g ≠ 0 → 2 * 18446744073709551616 < (k : Int) * ((P : Int) * 340282366920938463463374607431768211456) + (r : Int) * 340282366920938463463374607431768211456 + ((b : Int) - c) * 18446744073709551616 - d - (f : Int) * ((P : Int) * 340282366920938463463374607431768211456) ∧
   (k : Int) * ((P : Int) * 340282366920938463463374607431768211456) + (r : Int) * 340282366920938463463374607431768211456 + ((b : Int) - c) * 18446744073709551616 - d - (f : Int) * ((P : Int) * 340282366920938463463374607431768211456) < (P : Int) * 340282366920938463463374607431768211456 - 2 * 18446744073709551616 := fun h => by
  rcases hg with h0 | ⟨h0, h3⟩
  ·exact absurd h0 h
  ·have c5 : ((g * (P * 340282366920938463463374607431768211456) : Nat) : Int) = (g : Int) * ((P : Int) * 340282366920938463463374607431768211456) := by rw [Int.natCast_mul, c3]
   have c6 : (((den - g) * (P * 340282366920938463463374607431768211456) : Nat) : Int) = ((den : Int) - g) * ((P : Int) * 340282366920938463463374607431768211456) := by
    rw [Int.natCast_mul, c3]
    congr 1
    omega
   refine q2 ?_ ?_
   ·rw [← c5]
    omega
   ·rw [← c6]
    omega
 have hDp : (340282366920938463463374607431768211456 : Int) ≤ (P : Int) * 340282366920938463463374607431768211456 := by omega
 have hrD : (r : Int) * 340282366920938463463374607431768211456 ≤ (P : Int) * 340282366920938463463374607431768211456 - 340282366920938463463374607431768211456 := by omega
 have hr0 : r ≠ 0 → (340282366920938463463374607431768211456 : Int) ≤ (r : Int) * 340282366920938463463374607431768211456 := fun h => by omega
 generalize hDI : (P : Int) * 340282366920938463463374607431768211456 = DI at *
 generalize hRI : (r : Int) * 340282366920938463463374607431768211456 = RI at *
 have hmul : ((k : Int) - f) * DI = k * DI - f * DI := Int.sub_mul _ _ _
 have hms := mul_small ((k : Int) - f) DI (by omega)
 have hms1 := mul_small ((k : Int) - f - 1) DI (by omega)
 have e1 : ((k : Int) - f - 1) * DI = k * DI - f * DI - DI := by rw [Int.sub_mul, hmul]; omega
 rw [hmul] at hms
 rw [e1] at hms1
 have hEq : (k : Int) - f = 0 → (k : Int) * DI = f * DI := fun h => by rw [show (k : Int) = f by omega]
 clear hmul e1 hN hI1 hI2 h1 h2 hg q2 c1 c2 c3
 generalize (k : Int) * DI = kD at *
 generalize (f : Int) * DI = fD at *
 by_cases hr1 : r = 0
 ·subst hr1
  have hRI0 : RI = 0 := by rw [← hRI]; omega
  subst hRI0
  rw [if_neg (by omega)]
  by_cases hbc : b < c
  ·rw [if_pos hbc]
   have hA1 : 1 ≤ A := by
    rcases Nat.eq_zero_or_pos A with h | h
    ·exfalso
     subst h
     omega
    ·exact h
   have := hm2 rfl hA1
   by_cases g0 : g = 0
   ·exfalso
    have := q1 (by omega)
    omega
   ·rw [if_neg g0]
    have := hq2 g0
    have := hms1 (by omega) (by omega)
    rw [show (A - 1) / P = f by omega]
  ·rw [if_neg hbc]
   by_cases hb2 : c + 1 < b
   ·rw [if_pos hb2]
    by_cases g0 : g = 0
    ·exfalso
     have := q1 (by omega)
     have := hEq (hms (by omega) (by omega))
     omega
    ·rw [if_neg g0]
     have := hq2 g0
     have := hms (by omega) (by omega)
     rw [show k = f by omega]
   ·rw [if_neg hb2]
    by_cases g0 : g = 0
    ·rw [if_pos g0]
     have := q1 (by omega)
     have := hms (by omega) (by omega)
     omega
    ·exfalso
     have := hq2 g0
     omega
 ·rw [if_pos hr1]
  have := hr0 hr1
  by_cases g0 : g = 0
  ·exfalso
   have := q1 (by omega)
   have := hEq (hms (by omega) (by omega))
   omega
  ·rw [if_neg g0]
   have := hq2 g0
   have := hms (by omega) (by omega)
   rw [show k = f by omega]
end Go.Proofs.YtfpcpociejefaaaGreatDoor
