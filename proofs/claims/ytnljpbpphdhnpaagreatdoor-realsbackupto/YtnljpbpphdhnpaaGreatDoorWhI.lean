/- A worth cut with two places more, rounded by them: the rung nearest to it. -/
import Derived.Test.YtnljpbpphdhnpaaGreatDoorRlA
import Derived.Test.YtnljpbpphdhnpaaGreatDoorPsC
import Derived.LaidMore
import Derived.Lay

namespace Go.Proofs.YtnljpbpphdhnpaaGreatDoor
open Go.RowKit Go.PlainAid

/-- a worth cut at 2^D, its last place told to be odd where something was cut off -/
def unr (X D : Nat) : Nat := if X % 2 ^ D = 0 then X / 2 ^ D else 2 * (X / 2 ^ D / 2) + 1
/-- to the nearest, of two more places -/
def rndU (u : Nat) : Nat := (u + 1 + u / 4 % 2) / 4
/-- one place less -/
def lessU (u : Nat) : Nat := if u % 2 = 0 then u / 2 else 2 * (u / 2 / 2) + 1

theorem cut_parts (X t k : Nat) (_ht : 0 < t) : X / (k * t) = X / t / k ∧ X % (k * t) = (X / t % k) * t + X % t := by
  refine ⟨by rw [Nat.mul_comm k t, Nat.div_div_eq_div_mul], ?_⟩
  have h1 := Nat.mod_mul (x := X) (a := t) (b := k)
  rw [Nat.mul_comm k t, h1, Nat.mul_comm t]
  omega

theorem round_unr (X D : Nat) : rndU (unr X D) = rne X (D + 2) := by
  have ht : 0 < 2 ^ D := Nat.two_pow_pos D
  have e4 : 2 ^ (D + 2) = 4 * 2 ^ D := by rw [Nat.pow_add]; omega
  obtain ⟨h1, h2⟩ := cut_parts X (2 ^ D) 4 ht
  unfold rne rneB rndU unr
  rw [e4, h1, h2]
  have hR : X % 2 ^ D < 2 ^ D := Nat.mod_lt _ ht
  generalize X / 2 ^ D = Z
  generalize X % 2 ^ D = R at *
  generalize 2 ^ D = t at *
  clear h1 h2 e4
  have hz : Z % 4 = 0 ∨ Z % 4 = 1 ∨ Z % 4 = 2 ∨ Z % 4 = 3 := by omega
  by_cases hR0 : R = 0
  · subst hR0
    rw [if_pos rfl]
    rcases hz with h | h | h | h
    · rw [h, show decide (4 * t < 2 * (0 * t + 0)) = false by simp, show (4 * t == 2 * (0 * t + 0)) = false by simp; omega]
      simp; omega
    · rw [h, show decide (4 * t < 2 * (1 * t + 0)) = false by simp; omega, show (4 * t == 2 * (1 * t + 0)) = false by simp; omega]
      simp; omega
    · rw [h, show decide (4 * t < 2 * (2 * t + 0)) = false by simp; omega, show (4 * t == 2 * (2 * t + 0)) = true by simp; omega]
      by_cases ho : Z / 4 % 2 = 1
      · simp [ho]; omega
      · have : Z / 4 % 2 = 0 := by omega
        simp [this]; omega
    · rw [h, show decide (4 * t < 2 * (3 * t + 0)) = true by simp; omega]
      simp; omega
  · rw [if_neg hR0]
    have hy : (2 * (Z / 2) + 1) / 4 = Z / 4 := by omega
    rw [hy]
    rcases hz with h | h | h | h
    · rw [h, show decide (4 * t < 2 * (0 * t + R)) = false by simp; omega, show (4 * t == 2 * (0 * t + R)) = false by simp; omega]
      simp; omega
    · rw [h, show decide (4 * t < 2 * (1 * t + R)) = false by simp; omega, show (4 * t == 2 * (1 * t + R)) = false by simp; omega]
      simp; omega
    · rw [h, show decide (4 * t < 2 * (2 * t + R)) = true by simp; omega]
      simp; omega
    · rw [h, show decide (4 * t < 2 * (3 * t + R)) = true by simp; omega]
      simp; omega

theorem less_unr (X D : Nat) : lessU (unr X D) = unr X (D + 1) := by
  have ht : 0 < 2 ^ D := Nat.two_pow_pos D
  have e4 : 2 ^ (D + 1) = 2 * 2 ^ D := by rw [Nat.pow_add]; omega
  obtain ⟨h1, h2⟩ := cut_parts X (2 ^ D) 2 ht
  unfold lessU unr
  rw [e4, h1, h2]
  have hR : X % 2 ^ D < 2 ^ D := Nat.mod_lt _ ht
  generalize X / 2 ^ D = Z
  generalize X % 2 ^ D = R at *
  generalize 2 ^ D = t at *
  clear h1 h2 e4
  by_cases hR0 : R = 0
  · subst hR0
    rw [if_pos rfl]
    by_cases hz : Z % 2 = 0
    · rw [if_pos hz, hz, if_pos (by simp)]
    · have hz1 : Z % 2 = 1 := by omega
      rw [if_neg hz, hz1, if_neg (by simp; omega)]
  · rw [if_neg hR0, if_neg (by omega), if_neg (by omega)]
    omega

/-- X stands between 2^(D+25) and 2^(D+27), and not near the latter: the rung nearest to it, by two places more -/
theorem rung_unr (X D : Nat) (hD : D ≤ 250) (h1 : 33554432 * 2 ^ D ≤ X) (h2 : 64 * X < 63 * (134217728 * 2 ^ D)) :
    (unr X D < 67108862 → 8388608 ≤ rndU (unr X D) ∧ rndU (unr X D) < 16777216 ∧ (D + 2) * 8388608 + rndU (unr X D) = rndR X) ∧
    (67108862 ≤ unr X D → 8388608 ≤ rndU (lessU (unr X D)) ∧ rndU (lessU (unr X D)) < 16777216 ∧ (D + 3) * 8388608 + rndU (lessU (unr X D)) = rndR X) ∧
    unr X D < 134217728 ∧ 33554432 ≤ unr X D := by
  have ht : 0 < 2 ^ D := Nat.two_pow_pos D
  have p25 : 2 ^ (D + 25) = 33554432 * 2 ^ D := by rw [Nat.pow_add, Nat.mul_comm]
  have p26 : 2 ^ (D + 26) = 67108864 * 2 ^ D := by rw [Nat.pow_add, Nat.mul_comm]
  have p27 : 2 ^ (D + 27) = 134217728 * 2 ^ D := by rw [Nat.pow_add, Nat.mul_comm]
  have p3 : 2 ^ (D + 3) = 8 * 2 ^ D := by rw [Nat.pow_add, Nat.mul_comm]
  have r1 := round_unr X D
  have r2 := less_unr X D
  have r3 := round_unr X (D + 1)
  rw [show D + 1 + 2 = D + 3 by omega] at r3
  have hX : X ≠ 0 := by intro h; rw [h] at h1; omega
  have l25 : ¬ X.log2 < D + 25 := by rw [Nat.log2_lt hX, p25]; omega
  have l27 : X.log2 < D + 27 := by rw [Nat.log2_lt hX, p27]; omega
  have l26 : X.log2 < D + 26 ↔ X < 67108864 * 2 ^ D := by rw [Nat.log2_lt hX, p26]
  have ub : X / 2 ^ D < 134217728 := by
    rw [Nat.div_lt_iff_lt_mul ht]; omega
  have lb : 33554432 ≤ X / 2 ^ D := by
    rw [Nat.le_div_iff_mul_le ht]; omega
  have mb : X / 2 ^ D < 67108864 ↔ X < 67108864 * 2 ^ D := by rw [Nat.div_lt_iff_lt_mul ht]
  have uu : X / 2 ^ D ≤ unr X D ∧ unr X D ≤ 2 * (X / 2 ^ D / 2) + 1 := by
    unfold unr; split <;> omega
  have low := @rnd_low X (by omega)
  have top := @rnd_top X
  have hle := @rne_le X (D + 3)
  have hq : X / 2 ^ (D + 3) = X / 2 ^ D / 8 := by rw [p3]; exact (cut_parts X (2 ^ D) 8 ht).1
  rw [hq] at hle
  have hm8 : 64 * (X / 2 ^ D) < 63 * 134217728 := by
    have h5 : X / 2 ^ D * 2 ^ D ≤ X := Nat.div_mul_le_self _ _
    have h6 : 64 * (X / 2 ^ D) * 2 ^ D < 63 * 134217728 * 2 ^ D := by
      rw [Nat.mul_assoc, Nat.mul_assoc]; omega
    exact Nat.lt_of_mul_lt_mul_right h6
  have hR : rndR X = min ((X.log2 - 23) * 8388608 + rne X (X.log2 - 23)) 2139095040 := rfl
  rw [hR, r2, r3]
  clear p25 p26 p27 p3 hq h1 h2 hR
  generalize X / 2 ^ D = Z at *
  by_cases hc : X.log2 < D + 26
  · have hz := mb.2 (l26.1 hc)
    have hd : X.log2 - 23 = D + 2 := by omega
    rw [hd, ← r1] at low top ⊢
    clear l26 mb l25 l27 hd hc hX ht
    generalize unr X D = u at *
    clear hm8
    refine ⟨fun hu => ?_, fun hu => ?_, by omega, by omega⟩
    · have hm : rndU u < 16777216 := by unfold rndU; omega
      clear r2 r3 top hle
      exact ⟨low, hm, by omega⟩
    · have hb : u = 67108862 ∨ u = 67108863 := by omega
      have e2 : rne X (D + 3) = 8388608 := by
        rw [← r3, ← r2]
        rcases hb with h | h <;> rw [h] <;> decide
      have e1 : rndU u = 16777216 := by
        rcases hb with h | h <;> rw [h] <;> decide
      rw [e2, e1]
      clear r2 r3 top hle low e1 e2 hb r1
      omega
  · have hz : ¬ Z < 67108864 := fun h => hc (l26.2 (mb.1 h))
    have hd : X.log2 - 23 = D + 3 := by omega
    rw [hd] at low top ⊢
    clear l26 mb l25 l27 hd hc hX ht r1 r2 r3
    generalize unr X D = u at *
    generalize rne X (D + 3) = m at *
    clear top
    refine ⟨fun hu => by omega, fun hu => ⟨low, by omega, by omega⟩, by omega, by omega⟩
end Go.Proofs.YtnljpbpphdhnpaaGreatDoor


/- The library's scaling where the power of ten is told exactly: what is cut, and its last place. -/
namespace Go.Proofs.YtnljpbpphdhnpaaGreatDoor
open Go.RowKit Go.PlainAid

theorem lor_one (v : Nat) : v ||| 1 = 2 * (v / 2) + 1 := by
  have h1 := Nat.two_pow_add_eq_or_of_lt (i := 1) (b := 1) (by decide) (v / 2)
  rw [Nat.pow_one] at h1
  rw [h1]
  by_cases h : v % 2 = 0
  · rw [show 2 * (v / 2) = v by omega]
  · have h2 : v = 2 * (v / 2) + 1 := by omega
    conv => lhs; rw [h2, h1]
    rw [Nat.or_assoc, Nat.or_self]
theorem or_one (v : Nat) (h : v < 18446744073709551616) : bits .or .u64 (v : Int) 1 = ((2 * (v / 2) + 1 : Nat) : Int) := by
  have := u64_or_nat v 1 h (by decide)
  rw [lor_one] at this
  exact this
theorem or_zero (v : Nat) (h : v < 18446744073709551616) : bits .or .u64 (v : Int) 0 = (v : Int) := by
  have := u64_or_nat v 0 h (by decide)
  rw [Nat.or_zero] at this
  exact this
theorem and_one (v : Nat) (h : v < 18446744073709551616) : bits .and .u64 (v : Int) 1 = ((v % 2 : Nat) : Int) := by
  have := u64_and_nat v 1 h (by decide)
  rw [Nat.and_one_is_mod] at this
  exact this

theorem unr_scale (V D k : Nat) : unr (V * 2 ^ k) (D + k) = unr V D := by
  have hk : 0 < 2 ^ k := Nat.two_pow_pos k
  have e1 : V * 2 ^ k / 2 ^ (D + k) = V / 2 ^ D := by rw [Nat.pow_add, Nat.mul_div_mul_right _ _ hk]
  have e2 : V * 2 ^ k % 2 ^ (D + k) = V % 2 ^ D * 2 ^ k := by rw [Nat.pow_add, Nat.mul_mod_mul_right]
  unfold unr
  rw [e1, e2]
  by_cases h : V % 2 ^ D = 0
  · rw [if_pos h, h, Nat.zero_mul, if_pos rfl]
  · rw [if_neg h, if_neg (by have := Nat.mul_pos (Nat.pos_of_ne_zero h) hk; omega)]

theorem unr_101 (T a c : Nat) (ha : a = T / 18446744073709551616) (hc : c = T % 18446744073709551616) :
    unr T 101 = if a % 137438953472 = 0 ∧ c = 0 then a / 137438953472 else 2 * (a / 137438953472 / 2) + 1 := by
  have e : (2 : Nat) ^ 101 = 137438953472 * 18446744073709551616 := by decide
  obtain ⟨h1, h2⟩ := cut_parts T 18446744073709551616 137438953472 (by decide)
  unfold unr
  rw [e, h1, h2, ← ha, ← hc]
  have : a % 137438953472 * 18446744073709551616 + c = 0 ↔ a % 137438953472 = 0 ∧ c = 0 := by omega
  simp only [this]

set_option maxRecDepth 1000000 in
theorem uscale_exact (x hi : Nat) (hx : x < 18446744073709551616) (hh : hi < 18446744073709551616) (h1 : x * hi % 18446744073709551616 ≠ 1) (w : World) :
    Calls Tryz.prog 173 #[.int .u64 (x : Int), .pointer (some ⟨w.heap.size, 0, none⟩)] (w.alloc (.cells #[.int .u64 (hi : Int), .int .u64 0, .int .i64 37] 208)) fun e w' => e = .returned (.int .u64 ((unr (x * hi) 101 : Nat) : Int)) ∧ ∃ n, w' = (w.alloc (.cells #[.int .u64 (hi : Int), .int .u64 0, .int .i64 37] 208)).drewN n := by
  have hm : (x : Int) * (hi : Int) = ((x * hi : Nat) : Int) := (Int.natCast_mul x hi).symm
  have hu := unr_101 (x * hi) _ _ rfl rfl
  have hlt : x * hi / 18446744073709551616 < 18446744073709551616 := by
    rw [Nat.div_lt_iff_lt_mul (by decide)]
    exact Nat.mul_lt_mul_of_lt_of_lt hx hh
  rw [hu]
  generalize hT : x * hi = T at *
  generalize hA : T / 18446744073709551616 = a at *
  generalize hC : T % 18446744073709551616 = c at *
  have ha : (x : Int) * (hi : Int) / 18446744073709551616 = (a : Int) := by rw [hm]; omega
  have hb : (x : Int) * (hi : Int) % 18446744073709551616 = (c : Int) := by rw [hm]; omega
  have hs : bits .and .i64 37 63 = 37 := by decide
  have e37 : (2 : Int) ^ (37 : Int).toNat = 137438953472 := by decide
  have hw : IntKind.u64.wrap ((a : Int) / 2 ^ (37 : Int).toNat * 2 ^ (37 : Int).toNat) = ((a / 137438953472 * 137438953472 : Nat) : Int) := by
    rw [e37, IntKind.wrap_u64]; omega
  have hd : ((a : Int) / 2 ^ (37 : Int).toNat) = ((a / 137438953472 : Nat) : Int) := by rw [e37]; omega
  by_cases h : a % 137438953472 = 0
  · have hne : (IntKind.u64.wrap ((a : Int) / 2 ^ (37 : Int).toNat * 2 ^ (37 : Int).toNat) != (a : Int)) = false := by
      rw [hw]; simp; omega
    have hw2 : IntKind.u64.wrap ((c : Int) - 0) = (c : Int) := by rw [IntKind.wrap_u64]; omega
    have hw3 : IntKind.u64.wrap ((a : Int) - 0) = (a : Int) := by rw [IntKind.wrap_u64]; omega
    by_cases hc : c = 0
    · have hR := uscale_all (x : Int) (hi : Int) 0 37 a c 0 0 0 0 w hs (by decide) (by decide) (by omega) (by omega) (by decide) ha hb (by simp) (by simp) hne (by rw [if_neg (by simp)]) (by rw [hw2, if_neg (by simp; omega)])
      rw [hw3, hd, or_zero _ (by omega)] at hR
      rw [if_pos ⟨h, hc⟩]
      exact hR
    · have hR := uscale_all (x : Int) (hi : Int) 0 37 a c 0 0 0 1 w hs (by decide) (by decide) (by omega) (by omega) (by decide) ha hb (by simp) (by simp) hne (by rw [if_neg (by simp)]) (by rw [hw2, if_pos (by simp; omega)])
      rw [hw3, hd, or_one _ (by omega)] at hR
      rw [if_neg (by omega)]
      exact hR
  · have hne : (IntKind.u64.wrap ((a : Int) / 2 ^ (37 : Int).toNat * 2 ^ (37 : Int).toNat) != (a : Int)) = true := by
      rw [hw]; simp; omega
    have hR := uscale_cut (x : Int) (hi : Int) 0 37 a c w hs (by decide) (by decide) (by omega) (by omega) ha hb hne
    rw [hd, or_one _ (by omega)] at hR
    rw [if_neg (by omega)]
    exact hR
end Go.Proofs.YtnljpbpphdhnpaaGreatDoor


/- The library's scaling by a power of ten that is told in 128 bits, more or less: why what is cut is the number itself, cut, and its last place. -/
namespace Go.Proofs.YtnljpbpphdhnpaaGreatDoor
open Go.RowKit Go.PlainAid

/-- a over b, cut, with its last place set where something was cut off -/
def uN (a b : Nat) : Nat := if a % b = 0 then a / b else 2 * (a / b / 2) + 1
/-- what the library's scaling comes to -/
def uscN (x hi lo s : Nat) : Nat :=
  if x * hi / 18446744073709551616 % 2 ^ s ≠ 0 then 2 * (x * hi / 18446744073709551616 / 2 ^ s / 2) + 1
  else if x * hi % 18446744073709551616 < x * lo / 18446744073709551616 then 2 * ((x * hi / 18446744073709551616 - 1) / 2 ^ s / 2) + 1
  else if x * lo / 18446744073709551616 + 1 < x * hi % 18446744073709551616 then 2 * (x * hi / 18446744073709551616 / 2 ^ s / 2) + 1
  else x * hi / 18446744073709551616 / 2 ^ s

theorem mul_small (j D : Int) (hD : 0 < D) (h1 : -D < j * D) (h2 : j * D < D) : j = 0 := by
  by_cases a : 1 ≤ j
  · have := Int.mul_le_mul_of_nonneg_right a (Int.le_of_lt hD)
    omega
  · by_cases b : j ≤ -1
    · have := Int.mul_le_mul_of_nonneg_right b (Int.le_of_lt hD)
      omega
    · omega
/-- where the number itself stands: f, and g over den behind it; N: what is reckoned, D times as great, more or less -/
theorem near_div (N D den f g : Int) (hden : 0 < den) (h1 : N * den < (f * den + g) * D + den * 18446744073709551616) (h2 : (f * den + g) * D < N * den + den * 18446744073709551616) :
    (g = 0 → -18446744073709551616 < N - f * D ∧ N - f * D < 18446744073709551616) ∧
    (3 * 18446744073709551616 * den ≤ g * D → 3 * 18446744073709551616 * den ≤ (den - g) * D → 2 * 18446744073709551616 < N - f * D ∧ N - f * D < D - 2 * 18446744073709551616) := by
  have e : (f * den + g) * D = f * D * den + g * D := by
    rw [Int.add_mul, Int.mul_right_comm]
  rw [e] at h1 h2
  have e2 : (N - f * D) * den = N * den - f * D * den := Int.sub_mul _ _ _
  have e3 : (den - g) * D = D * den - g * D := by rw [Int.sub_mul, Int.mul_comm den D]
  have lt_of (a b : Int) (h : a * den < b * den) : a < b := Int.lt_of_mul_lt_mul_right h (Int.le_of_lt hden)
  refine ⟨fun hg => ?_, fun ha hb => ?_⟩
  · subst hg
    rw [Int.zero_mul] at h1 h2
    refine ⟨lt_of _ _ ?_, lt_of _ _ ?_⟩
    · rw [e2]; omega
    · rw [e2]; omega
  · rw [e3] at hb
    refine ⟨lt_of _ _ ?_, lt_of _ _ ?_⟩
    · rw [e2]; omega
    · rw [e2, Int.sub_mul]; omega

set_option maxRecDepth 100000 in
set_option maxHeartbeats 1000000 in
theorem usc_core (x hi lo s num den : Nat) (hx : x + 4 ≤ 18446744073709551616) (hlo : lo < 18446744073709551616) (hp : x * lo ≤ x * hi * 18446744073709551616) (hden : 0 < den)
    (h1 : (x * hi * 18446744073709551616 - x * lo) * den < num * 2 ^ (128 + s) + den * 18446744073709551616) (h2 : num * 2 ^ (128 + s) < (x * hi * 18446744073709551616 - x * lo) * den + den * 18446744073709551616)
    (hg : num % den = 0 ∨ (3 * 18446744073709551616 * den ≤ num % den * 2 ^ (128 + s) ∧ 3 * 18446744073709551616 * den ≤ (den - num % den) * 2 ^ (128 + s))) :
    uscN x hi lo s = uN num den := by
  have hP : 0 < 2 ^ s := Nat.two_pow_pos s
  have hD : 2 ^ (128 + s) = 2 ^ s * 340282366920938463463374607431768211456 := by rw [Nat.add_comm, Nat.pow_add]
  have hc : x * lo / 18446744073709551616 + 5 ≤ 18446744073709551616 := by
    have h3 : x * lo < (18446744073709551616 - 4) * 18446744073709551616 := by
      have : x * lo ≤ (18446744073709551616 - 4) * lo := Nat.mul_le_mul_right _ (by omega)
      omega
    have := (Nat.div_lt_iff_lt_mul (by decide)).2 h3
    omega
  unfold uscN uN
  have ha := Nat.div_add_mod (x * hi) 18446744073709551616
  have hb := Nat.mod_lt (x * hi) (show 0 < 18446744073709551616 by decide)
  have hl := Nat.div_add_mod (x * lo) 18446744073709551616
  have hd := Nat.mod_lt (x * lo) (show 0 < 18446744073709551616 by decide)
  have hf := Nat.div_add_mod num den
  have hgl := Nat.mod_lt num hden
  generalize hA : x * hi / 18446744073709551616 = A at *
  generalize hB : x * hi % 18446744073709551616 = b at *
  generalize hC : x * lo / 18446744073709551616 = c at *
  generalize hDD : x * lo % 18446744073709551616 = d at *
  generalize hF : num / den = f at *
  generalize hG : num % den = g at *
  have hk := Nat.div_add_mod A (2 ^ s)
  have hr := Nat.mod_lt A hP
  have hm2 : A % 2 ^ s = 0 → 1 ≤ A → (A - 1) / 2 ^ s + 1 = A / 2 ^ s := fun h0 h1 => by
    rw [h0, Nat.add_zero] at hk
    generalize A / 2 ^ s = k at hk ⊢
    have k1 : 1 ≤ k := by
      rcases Nat.eq_zero_or_pos k with h | h
      · subst h; simp at hk; omega
      · exact h
    have e : A - 1 = (2 ^ s - 1) + 2 ^ s * (k - 1) := by
      rw [← hk, Nat.mul_sub, Nat.mul_one]
      have : 2 ^ s ≤ 2 ^ s * k := Nat.le_mul_of_pos_right _ k1
      omega
    rw [e, Nat.add_mul_div_left _ _ hP, Nat.div_eq_of_lt (by omega)]
    omega
  generalize hK : A / 2 ^ s = k at *
  generalize hR : A % 2 ^ s = r at *
  rw [hD] at h1 h2 hg
  generalize hPP : 2 ^ s = P at *
  -- over the integers
  have c3 : ((P * 340282366920938463463374607431768211456 : Nat) : Int) = (P : Int) * 340282366920938463463374607431768211456 := by omega
  have hN : ((x * hi * 18446744073709551616 - x * lo : Nat) : Int) = (k : Int) * ((P : Int) * 340282366920938463463374607431768211456) + (r : Int) * 340282366920938463463374607431768211456 + ((b : Int) - c) * 18446744073709551616 - d := by
    have hPk : (k : Int) * ((P : Int) * 340282366920938463463374607431768211456) = ((P * k : Nat) : Int) * 340282366920938463463374607431768211456 := by rw [Int.natCast_mul, ← Int.mul_assoc, Int.mul_comm (k : Int)]
    rw [hPk]
    generalize P * k = z at *
    generalize x * hi = z1 at *
    generalize x * lo = z2 at *
    omega
  generalize hNN : x * hi * 18446744073709551616 - x * lo = NN at *
  have c1 : ((NN * den : Nat) : Int) = (NN : Int) * den := Int.natCast_mul _ _
  have c2 : ((num * (P * 340282366920938463463374607431768211456) : Nat) : Int) = ((f : Int) * den + g) * ((P : Int) * 340282366920938463463374607431768211456) := by
    rw [Int.natCast_mul, c3]
    congr 1
    rw [← hf, Int.natCast_add, Int.natCast_mul, Int.mul_comm]
  have hI1 : (NN : Int) * den < ((f : Int) * den + g) * ((P : Int) * 340282366920938463463374607431768211456) + den * 18446744073709551616 := by
    rw [← c1, ← c2]
    omega
  have hI2 : ((f : Int) * den + g) * ((P : Int) * 340282366920938463463374607431768211456) < (NN : Int) * den + den * 18446744073709551616 := by
    rw [← c1, ← c2]
    omega
  obtain ⟨q1, q2⟩ := near_div _ _ (den : Int) (f : Int) (g : Int) (by omega) hI1 hI2
  rw [hN] at q1 q2
  have hq2 : g ≠ 0 → 2 * 18446744073709551616 < (k : Int) * ((P : Int) * 340282366920938463463374607431768211456) + (r : Int) * 340282366920938463463374607431768211456 + ((b : Int) - c) * 18446744073709551616 - d - (f : Int) * ((P : Int) * 340282366920938463463374607431768211456) ∧
      (k : Int) * ((P : Int) * 340282366920938463463374607431768211456) + (r : Int) * 340282366920938463463374607431768211456 + ((b : Int) - c) * 18446744073709551616 - d - (f : Int) * ((P : Int) * 340282366920938463463374607431768211456) < (P : Int) * 340282366920938463463374607431768211456 - 2 * 18446744073709551616 := fun h => by
    rcases hg with h0 | ⟨h0, h3⟩
    · exact absurd h0 h
    · have c5 : ((g * (P * 340282366920938463463374607431768211456) : Nat) : Int) = (g : Int) * ((P : Int) * 340282366920938463463374607431768211456) := by rw [Int.natCast_mul, c3]
      have c6 : (((den - g) * (P * 340282366920938463463374607431768211456) : Nat) : Int) = ((den : Int) - g) * ((P : Int) * 340282366920938463463374607431768211456) := by
        rw [Int.natCast_mul, c3]
        congr 1
        omega
      refine q2 ?_ ?_
      · rw [← c5]
        omega
      · rw [← c6]
        omega
  have hDp : (340282366920938463463374607431768211456 : Int) ≤ (P : Int) * 340282366920938463463374607431768211456 := by omega
  have hrD : (r : Int) * 340282366920938463463374607431768211456 ≤ (P : Int) * 340282366920938463463374607431768211456 - 340282366920938463463374607431768211456 := by omega
  have hr0 : r ≠ 0 → (340282366920938463463374607431768211456 : Int) ≤ (r : Int) * 340282366920938463463374607431768211456 := fun h => by omega
  generalize hDI : (P : Int) * 340282366920938463463374607431768211456 = DI at *
  generalize hRI : (r : Int) * 340282366920938463463374607431768211456 = RI at *
  have hmul : ((k : Int) - f) * DI = k * DI - f * DI := Int.sub_mul _ _ _
  have hms := mul_small ((k : Int) - f) DI (by omega)
  have hms1 := mul_small ((k : Int) - f - 1) DI (by omega)
  have e1 : ((k : Int) - f - 1) * DI = k * DI - f * DI - DI := by rw [Int.sub_mul, hmul]; omega
  rw [hmul] at hms
  rw [e1] at hms1
  have hEq : (k : Int) - f = 0 → (k : Int) * DI = f * DI := fun h => by rw [show (k : Int) = f by omega]
  clear hmul e1 hN hI1 hI2 h1 h2 hg q2 c1 c2 c3
  generalize (k : Int) * DI = kD at *
  generalize (f : Int) * DI = fD at *
  by_cases hr1 : r = 0
  · subst hr1
    have hRI0 : RI = 0 := by rw [← hRI]; omega
    subst hRI0
    rw [if_neg (by omega)]
    by_cases hbc : b < c
    · rw [if_pos hbc]
      have hA1 : 1 ≤ A := by
        rcases Nat.eq_zero_or_pos A with h | h
        · exfalso
          subst h
          omega
        · exact h
      have := hm2 rfl hA1
      by_cases g0 : g = 0
      · exfalso
        have := q1 (by omega)
        omega
      · rw [if_neg g0]
        have := hq2 g0
        have := hms1 (by omega) (by omega)
        rw [show (A - 1) / P = f by omega]
    · rw [if_neg hbc]
      by_cases hb2 : c + 1 < b
      · rw [if_pos hb2]
        by_cases g0 : g = 0
        · exfalso
          have := q1 (by omega)
          have := hEq (hms (by omega) (by omega))
          omega
        · rw [if_neg g0]
          have := hq2 g0
          have := hms (by omega) (by omega)
          rw [show k = f by omega]
      · rw [if_neg hb2]
        by_cases g0 : g = 0
        · rw [if_pos g0]
          have := q1 (by omega)
          have := hms (by omega) (by omega)
          omega
        · exfalso
          have := hq2 g0
          omega
  · rw [if_pos hr1]
    have := hr0 hr1
    by_cases g0 : g = 0
    · exfalso
      have := q1 (by omega)
      have := hEq (hms (by omega) (by omega))
      omega
    · rw [if_neg g0]
      have := hq2 g0
      have := hms (by omega) (by omega)
      rw [show k = f by omega]
end Go.Proofs.YtnljpbpphdhnpaaGreatDoor

/- The library's scaling for float32: the powers of ten from -31 to 45 as they are laid, and that the scaling is exact wherever nothing comes too near. -/
namespace Go.Proofs.YtnljpbpphdhnpaaGreatDoor
open Go.RowKit Go.PlainAid

/-- the table's row of ten to the power j - 31 -/
def hiR (j : Nat) : Nat := (Go.Pinned.pow10Rows.getD (317 + j) (0, 0)).1
def loR (j : Nat) : Nat := (Go.Pinned.pow10Rows.getD (317 + j) (0, 0)).2
/-- the places of that power, less one -/
def lpR (j : Nat) : Int := ((j : Int) - 31) * 108853 / 32768
theorem row_facts : ∀ j, j < 77 → hiR j < 18446744073709551616 ∧ loR j < 18446744073709551616 ∧ loR j ≤ hiR j * 18446744073709551616 ∧ -103 ≤ lpR j ∧ lpR j ≤ 149 ∧
    (hiR j * 18446744073709551616 - loR j) * (4194304 * 10 ^ (31 - j)) ≤ 10 ^ (j - 31) * 2 ^ (149 - lpR j).toNat + 4194304 * 10 ^ (31 - j) ∧ 10 ^ (j - 31) * 2 ^ (149 - lpR j).toNat ≤ (hiR j * 18446744073709551616 - loR j) * (4194304 * 10 ^ (31 - j)) + 4194304 * 10 ^ (31 - j) ∧ lpR j - (j - 31 : Nat) ≤ 104 ∧ (j ≤ 74 → lpR j - (j - 31 : Nat) ≤ 99) := by
  decide +kernel

theorem reord (A P u c k : Nat) : A * P * (u * c) * k = A * u * (P * (k * c)) := by ac_rfl
theorem reord2 (A u c k : Nat) : A * u * (k * c) = A * (u * c) * k := by ac_rfl
theorem reord3 (X v q d k : Nat) : X * v * q * d * k = X * q * (v * (d * k)) := by ac_rfl
theorem reord4 (X q t u l : Nat) : X * q * (t * u * l) = X * t * u * (q * l) := by ac_rfl
theorem usc_f32 (E : Int) (j X t s : Nat) (hj : j < 77) (hx : X * 2 ^ t + 4 ≤ 18446744073709551616) (hs : (s : Int) = (t : Int) - 1 - E - lpR j)
    (hg : (X * 2 ^ E.toNat * 10 ^ (j - 31)) % (2 ^ (-E).toNat * 10 ^ (31 - j)) = 0 ∨
      (3 * 18446744073709551616 * (2 ^ (-E).toNat * 10 ^ (31 - j)) ≤ (X * 2 ^ E.toNat * 10 ^ (j - 31)) % (2 ^ (-E).toNat * 10 ^ (31 - j)) * 2 ^ (128 + s) ∧
        3 * 18446744073709551616 * (2 ^ (-E).toNat * 10 ^ (31 - j)) ≤ (2 ^ (-E).toNat * 10 ^ (31 - j) - (X * 2 ^ E.toNat * 10 ^ (j - 31)) % (2 ^ (-E).toNat * 10 ^ (31 - j))) * 2 ^ (128 + s))) :
    uscN (X * 2 ^ t) (hiR j) (loR j) s = uN (X * 2 ^ E.toNat * 10 ^ (j - 31)) (2 ^ (-E).toNat * 10 ^ (31 - j)) := by
  obtain ⟨a1, a2, a3, a4, a5, a6, a7, _, _⟩ := row_facts j hj
  have hden : 0 < 2 ^ (-E).toNat * 10 ^ (31 - j) := Nat.mul_pos (Nat.two_pow_pos _) (Nat.pow_pos (by decide))
  have hle : X * 2 ^ t * loR j ≤ X * 2 ^ t * hiR j * 18446744073709551616 := by
    rw [Nat.mul_assoc (X * 2 ^ t)]
    exact Nat.mul_le_mul_left _ a3
  have hN : X * 2 ^ t * hiR j * 18446744073709551616 - X * 2 ^ t * loR j = X * 2 ^ t * (hiR j * 18446744073709551616 - loR j) := by
    rw [Nat.mul_assoc (X * 2 ^ t), Nat.mul_sub]
  have e1 : X * 2 ^ E.toNat * 10 ^ (j - 31) * 2 ^ (128 + s) * 4194304 = X * 2 ^ t * 2 ^ (-E).toNat * (10 ^ (j - 31) * 2 ^ (149 - lpR j).toNat) := by
    have e2 : (2 : Nat) ^ E.toNat * (2 ^ (128 + s) * 4194304) = 2 ^ t * 2 ^ (-E).toNat * 2 ^ (149 - lpR j).toNat := by
      rw [show (4194304 : Nat) = 2 ^ 22 by decide, ← Nat.pow_add, ← Nat.pow_add, ← Nat.pow_add, ← Nat.pow_add]
      congr 1
      omega
    rw [reord3, e2, reord4]
  have e3 : X * 2 ^ t * (hiR j * 18446744073709551616 - loR j) * (2 ^ (-E).toNat * 10 ^ (31 - j)) * 4194304 = X * 2 ^ t * 2 ^ (-E).toNat * ((hiR j * 18446744073709551616 - loR j) * (4194304 * 10 ^ (31 - j))) := reord _ _ _ _ _
  have e4 : X * 2 ^ t * 2 ^ (-E).toNat * (4194304 * 10 ^ (31 - j)) = X * 2 ^ t * (2 ^ (-E).toNat * 10 ^ (31 - j)) * 4194304 := reord2 _ _ _ _
  have e5 : X * 2 ^ t * (2 ^ (-E).toNat * 10 ^ (31 - j)) * 4194304 < 2 ^ (-E).toNat * 10 ^ (31 - j) * 18446744073709551616 * 4194304 := by
    refine Nat.mul_lt_mul_of_pos_right ?_ (by decide)
    rw [Nat.mul_comm]
    exact Nat.mul_lt_mul_of_pos_left (by omega) hden
  have m6 := Nat.mul_le_mul_left (X * 2 ^ t * 2 ^ (-E).toNat) a6
  have m7 := Nat.mul_le_mul_left (X * 2 ^ t * 2 ^ (-E).toNat) a7
  rw [Nat.mul_add, e4, ← e1, ← e3] at m6 m7
  refine usc_core _ _ _ _ _ _ hx a2 hle hden ?_ ?_ hg
  · rw [hN]
    generalize X * 2 ^ t * (hiR j * 18446744073709551616 - loR j) * (2 ^ (-E).toNat * 10 ^ (31 - j)) = z1 at *
    generalize X * 2 ^ E.toNat * 10 ^ (j - 31) * 2 ^ (128 + s) = z2 at *
    generalize X * 2 ^ t * (2 ^ (-E).toNat * 10 ^ (31 - j)) = z3 at *
    generalize 2 ^ (-E).toNat * 10 ^ (31 - j) = z4 at *
    omega
  · rw [hN]
    generalize X * 2 ^ t * (hiR j * 18446744073709551616 - loR j) * (2 ^ (-E).toNat * 10 ^ (31 - j)) = z1 at *
    generalize X * 2 ^ E.toNat * 10 ^ (j - 31) * 2 ^ (128 + s) = z2 at *
    generalize X * 2 ^ t * (2 ^ (-E).toNat * 10 ^ (31 - j)) = z3 at *
    generalize 2 ^ (-E).toNat * 10 ^ (31 - j) = z4 at *
    omega
end Go.Proofs.YtnljpbpphdhnpaaGreatDoor

/- The library's scaling for float32: nothing comes too near, whatever the float; so it is exact. -/
namespace Go.Proofs.YtnljpbpphdhnpaaGreatDoor
open Go.RowKit Go.PlainAid

/-- the row of the power that brings one place of 2 to the power E to 1 or more, less than 10 (jS: three quarters of it) -/
def jN (E : Int) : Nat := (31 - E * 78913 / 262144).toNat
def jS (E : Int) : Nat := (31 - (E * 631305 - 261663) / 2097152).toNat
def rowOk (E : Int) (j : Nat) : Prop := j < 77 ∧ (j < 31 → (31 : Int) - j ≤ E) ∧ 34 ≤ 37 - E - lpR j ∧ (75 ≤ j → j = 75 ∧ 99 ≤ -E - 44 ∧ -E - 44 ≤ 102 ∨ j = 76 ∧ 101 ≤ -E - 45 ∧ -E - 45 ≤ 104)
instance (E : Int) (j : Nat) : Decidable (rowOk E j) := by unfold rowOk; infer_instance
theorem rows_ok : ∀ n : Nat, n < 254 → rowOk ((n : Int) - 149) (jN ((n : Int) - 149)) ∧ (1 ≤ n → rowOk ((n : Int) - 149) (jS ((n : Int) - 149))) := by
  decide +kernel

def inv5 (p : Nat) : Nat := if p = 45 then 11652860451967362934349200961085 else 2487675849794721005891063768881
def missOk (p K : Nat) : Prop := 5 ^ p * inv5 p % 2 ^ K = 1 ∧ ∀ c, c < 24 → c ≠ 0 → 67108867 ≤ c * inv5 p % 2 ^ K ∧ 67108867 ≤ (2 ^ K - c) * inv5 p % 2 ^ K
instance (p K : Nat) : Decidable (missOk p K) := by unfold missOk; infer_instance
theorem miss_ok : missOk 45 104 ∧ missOk 45 103 ∧ missOk 45 102 ∧ missOk 45 101 ∧ missOk 44 102 ∧ missOk 44 101 ∧ missOk 44 100 ∧ missOk 44 99 := by
  decide +kernel
theorem miss (p K X : Nat) (h : missOk p K) (hK : 27 ≤ K) (hX : X < 67108867) (h0 : X * 5 ^ p % 2 ^ K ≠ 0) : 24 ≤ X * 5 ^ p % 2 ^ K ∧ X * 5 ^ p % 2 ^ K + 24 ≤ 2 ^ K := by
  obtain ⟨h1, h2⟩ := h
  have hP : 0 < 2 ^ K := Nat.two_pow_pos K
  have hbig : 2 ^ 27 ≤ 2 ^ K := Nat.pow_le_pow_right (by decide) hK
  have hlt := Nat.mod_lt (X * 5 ^ p) hP
  have hinv : X * 5 ^ p % 2 ^ K * inv5 p % 2 ^ K = X := by
    rw [Nat.mod_mul_mod, Nat.mul_assoc, Nat.mul_mod, h1, Nat.mul_one, Nat.mod_mod]
    exact Nat.mod_eq_of_lt (by omega)
  generalize X * 5 ^ p % 2 ^ K = c at *
  generalize 2 ^ K = P at *
  refine ⟨?_, ?_⟩
  · rcases Nat.lt_or_ge c 24 with h | h
    · have := (h2 c h h0).1
      omega
    · exact h
  · rcases Nat.lt_or_ge P (c + 24) with h | h
    · have := (h2 (P - c) (by omega) (by omega)).2
      rw [show P - (P - c) = c by omega] at this
      omega
    · exact h

theorem two_mul_pow (a b c d : Nat) (h : a + b = c + d) : (2 : Nat) ^ a * 2 ^ b = 2 ^ c * 2 ^ d := by rw [← Nat.pow_add, ← Nat.pow_add, h]
theorem ten_split (n : Nat) : 10 ^ n = 2 ^ n * 5 ^ n := by rw [← Nat.mul_pow]
theorem five_le {q : Nat} (h : q ≤ 31) : 5 ^ q ≤ 2 ^ 72 := Nat.le_trans (Nat.pow_le_pow_right (by decide) h) (by decide +kernel)
/-- what the scaling asks: nothing that isn't whole stands nearer than three last places -/
def Gap (E : Int) (j X s : Nat) : Prop := (X * 2 ^ E.toNat * 10 ^ (j - 31)) % (2 ^ (-E).toNat * 10 ^ (31 - j)) = 0 ∨
      (3 * 18446744073709551616 * (2 ^ (-E).toNat * 10 ^ (31 - j)) ≤ (X * 2 ^ E.toNat * 10 ^ (j - 31)) % (2 ^ (-E).toNat * 10 ^ (31 - j)) * 2 ^ (128 + s) ∧
        3 * 18446744073709551616 * (2 ^ (-E).toNat * 10 ^ (31 - j)) ≤ (2 ^ (-E).toNat * 10 ^ (31 - j) - (X * 2 ^ E.toNat * 10 ^ (j - 31)) % (2 ^ (-E).toNat * 10 ^ (31 - j))) * 2 ^ (128 + s))
/-- the same, of a number with the factor a taken out: what is left of it, and how near it may come -/
theorem gap_of (num den a Y B m D : Nat) (hn : num = a * Y) (hd : den = a * B) (hr : Y % B ≠ 0 → m ≤ Y % B ∧ Y % B + m ≤ B) (hD : 3 * 18446744073709551616 * B ≤ m * D) :
    num % den = 0 ∨ (3 * 18446744073709551616 * den ≤ num % den * D ∧ 3 * 18446744073709551616 * den ≤ (den - num % den) * D) := by
  subst hn hd
  rw [Nat.mul_mod_mul_left]
  by_cases h : Y % B = 0
  · exact .inl (by rw [h, Nat.mul_zero])
  · obtain ⟨h1, h2⟩ := hr h
    refine .inr ⟨?_, ?_⟩
    · calc 3 * 18446744073709551616 * (a * B) = a * (3 * 18446744073709551616 * B) := by rw [Nat.mul_left_comm]
        _ ≤ a * (m * D) := Nat.mul_le_mul_left _ hD
        _ ≤ a * (Y % B * D) := Nat.mul_le_mul_left _ (Nat.mul_le_mul_right _ h1)
        _ = a * (Y % B) * D := by rw [Nat.mul_assoc]
    · calc 3 * 18446744073709551616 * (a * B) = a * (3 * 18446744073709551616 * B) := by rw [Nat.mul_left_comm]
        _ ≤ a * (m * D) := Nat.mul_le_mul_left _ hD
        _ ≤ a * ((B - Y % B) * D) := Nat.mul_le_mul_left _ (Nat.mul_le_mul_right _ (by omega))
        _ = (a * B - a * (Y % B)) * D := by rw [← Nat.mul_assoc, Nat.mul_sub]
set_option maxRecDepth 100000 in
theorem gap_any (E : Int) (j X s t : Nat) (hX : X < 67108867) (ht : 38 ≤ t) (hs : (s : Int) = (t : Int) - 1 - E - lpR j) (hr : rowOk E j) : Gap E j X s := by
  obtain ⟨r1, r2, r3, r4⟩ := hr
  obtain ⟨_, _, _, l1, l2, _, _, l3, l4⟩ := row_facts j r1
  have h34 : 34 ≤ s := by omega
  unfold Gap
  by_cases hj : j < 31
  · have hE := r2 hj
    have hz : (-E).toNat = 0 := by omega
    rw [hz, show j - 31 = 0 by omega]
    simp only [Nat.pow_zero, Nat.one_mul, Nat.mul_one]
    refine gap_of _ _ (2 ^ (31 - j)) (X * 2 ^ (E.toNat - (31 - j))) (5 ^ (31 - j)) 1 _ ?_ (ten_split _) (fun h => ⟨by omega, ?_⟩) ?_
    · have e := two_mul_pow (31 - j) (E.toNat - (31 - j)) E.toNat 0 (by omega)
      rw [Nat.pow_zero, Nat.mul_one] at e
      rw [← e, Nat.mul_left_comm]
    · have := Nat.mod_lt (X * 2 ^ (E.toNat - (31 - j))) (show 0 < 5 ^ (31 - j) from Nat.pow_pos (by decide))
      omega
    · have h5 := five_le (show 31 - j ≤ 31 by omega)
      have h2 : (2 : Nat) ^ 162 ≤ 2 ^ (128 + s) := Nat.pow_le_pow_right (by decide) (by omega)
      have h3 : 3 * 18446744073709551616 * 2 ^ 72 ≤ 2 ^ 162 := by decide +kernel
      rw [Nat.one_mul]
      exact Nat.le_trans (Nat.mul_le_mul_left _ h5) (Nat.le_trans h3 h2)
  · rw [show 31 - j = 0 by omega, Nat.pow_zero, Nat.mul_one]
    by_cases he : (-E).toNat ≤ j - 31
    · refine .inl (Nat.mod_eq_zero_of_dvd ?_)
      rw [ten_split]
      exact Nat.dvd_trans (Nat.pow_dvd_pow 2 he) (Nat.dvd_trans (Nat.dvd_mul_right _ _) (Nat.dvd_mul_left _ _))
    · rw [show E.toNat = 0 by omega, Nat.pow_zero, Nat.mul_one]
      have hnum : X * 10 ^ (j - 31) = 2 ^ (j - 31) * (X * 5 ^ (j - 31)) := by rw [ten_split, Nat.mul_left_comm]
      have hden : 2 ^ (-E).toNat = 2 ^ (j - 31) * 2 ^ ((-E).toNat - (j - 31)) := by rw [← Nat.pow_add]; congr 1; omega
      by_cases h7 : j ≤ 74
      · refine gap_of _ _ _ _ _ 1 _ hnum hden (fun h => ⟨by omega, ?_⟩) ?_
        · have := Nat.mod_lt (X * 5 ^ (j - 31)) (Nat.two_pow_pos ((-E).toNat - (j - 31)))
          omega
        · have h2 : (2 : Nat) ^ (66 + ((-E).toNat - (j - 31))) ≤ 2 ^ (128 + s) := Nat.pow_le_pow_right (by decide) (by have := l4 h7; omega)
          rw [Nat.pow_add] at h2
          rw [Nat.one_mul]
          have h3 : 3 * 18446744073709551616 ≤ 2 ^ 66 := by decide +kernel
          exact Nat.le_trans (Nat.mul_le_mul_right _ h3) h2
      · have hm : missOk (j - 31) ((-E).toNat - (j - 31)) := by
          obtain ⟨m1, m2, m3, m4, m5, m6, m7, m8⟩ := miss_ok
          rcases r4 (by omega) with ⟨rfl, h1, h2⟩ | ⟨rfl, h1, h2⟩
          · rcases (show E = -143 ∨ E = -144 ∨ E = -145 ∨ E = -146 by omega) with rfl | rfl | rfl | rfl
            · exact m8
            · exact m7
            · exact m6
            · exact m5
          · rcases (show E = -146 ∨ E = -147 ∨ E = -148 ∨ E = -149 by omega) with rfl | rfl | rfl | rfl
            · exact m4
            · exact m3
            · exact m2
            · exact m1
        refine gap_of _ _ _ _ _ 24 _ hnum hden (fun h => miss _ _ X hm ?_ hX h) ?_
        · clear hnum hden hm h
          rcases r4 (by omega) with ⟨h0, h1, h2⟩ | ⟨h0, h1, h2⟩ <;> omega
        · have h2 : (2 : Nat) ^ (64 + ((-E).toNat - (j - 31))) ≤ 2 ^ (3 + (128 + s)) := Nat.pow_le_pow_right (by decide) (by omega)
          rw [Nat.pow_add, Nat.pow_add 2 3] at h2
          have h3 := Nat.mul_le_mul_left 3 h2
          have h4 : (2 : Nat) ^ 64 = 18446744073709551616 := by decide +kernel
          rw [h4] at h3
          have h6 : (2 : Nat) ^ 3 = 8 := by decide
          rw [h6] at h3
          generalize 2 ^ ((-E).toNat - (j - 31)) = z at *
          generalize 2 ^ (128 + s) = y at *
          omega
/-- the library's scaling of a float32's halves and quarters, exact -/
theorem usc_any (E : Int) (j X s t : Nat) (hX : X < 67108867) (ht : 38 ≤ t) (hx : X * 2 ^ t + 4 ≤ 18446744073709551616) (hs : (s : Int) = (t : Int) - 1 - E - lpR j) (hr : rowOk E j) :
    uscN (X * 2 ^ t) (hiR j) (loR j) s = uN (X * 2 ^ E.toNat * 10 ^ (j - 31)) (2 ^ (-E).toNat * 10 ^ (31 - j)) :=
  usc_f32 E j X t s hr.1 hx hs (gap_any E j X s t hX ht hs hr)
end Go.Proofs.YtnljpbpphdhnpaaGreatDoor

/- The library's parseFloat32 for numbers times a power of ten that is told exactly: its parts. -/
namespace Go.Proofs.YtnljpbpphdhnpaaGreatDoor
open Go.RowKit Go.PlainAid

theorem bitLen_log (d : Nat) (h0 : 0 < d) (h : d < 2 ^ 64) : Lib.bitLen d = d.log2 + 1 := by
  induction d using Nat.strongRecOn with
  | _ d ih =>
    rw [Lib.bitLen_half d (by omega) h, Nat.log2_def]
    by_cases h1 : 2 ≤ d
    · rw [if_pos h1, ih (d / 2) (by omega) (by omega) (by omega)]; omega
    · rw [if_neg h1, show d / 2 = 0 by omega]; rfl
/-- the places of ten to the power p, less one -/
def lpP (p : Nat) : Nat := p * 108853 / 32768
/-- ten to the power p, its first place at 2^63 -/
def hiP (p : Nat) : Nat := 10 ^ p * 2 ^ (63 - lpP p)
theorem lp_facts : ∀ p, p < 19 → lpP p ≤ 59 ∧ 2 ^ lpP p ≤ 10 ^ p ∧ 100 * 10 ^ p < 98 * 2 ^ (lpP p + 1) ∧ hiP p < 18446744073709551616 := by decide

set_option maxRecDepth 1000000 in
theorem log2_any (p : Nat) (h : p ≤ 18) (w : World) : Calls Tryz.prog 172 #[.int .i64 (p : Int)] w fun e w' => e = .returned (.int .i64 ((lpP p : Nat) : Int)) ∧ w' = w := by
  have e : ((p : Int) * 108853) / 2 ^ 15 = ((lpP p : Nat) : Int) := by unfold lpP; omega
  go_enter Tryz.func172, Tryz.ntmps172
  go_wp2
  go_ret
  exact ⟨by simp [← e], rfl⟩
set_option maxRecDepth 1000000 in
set_option maxHeartbeats 400000 in
theorem round_any (u q r : Int) (h : 0 ≤ u ∧ u < 1073741824) (e1 : bits .and .u64 (u / 4) 1 = q) (hq : 0 ≤ q ∧ q ≤ 1) (e2 : (u + 1 + q) / 4 = r) (w : World) : Calls Tryz.prog 177 #[.int .u64 u] w fun e w' => e = .returned (.int .u64 r) ∧ w' = w := by
  obtain ⟨h0, h1⟩ := h
  obtain ⟨q0, q1⟩ := hq
  have E2 : Hid ((u + 1 + q) / 4 = r) := e2
  clear e2
  go_enter Tryz.func177, Tryz.ntmps177
  go_wp2
  go_ret
  exact ⟨by simp [← E2.out], rfl⟩
end Go.Proofs.YtnljpbpphdhnpaaGreatDoor


/- The library's scaling by a power of ten, of every number of 64 bits. -/
namespace Go.Proofs.YtnljpbpphdhnpaaGreatDoor
open Go.RowKit Go.PlainAid

/-- where the number itself stands: f, and g over den behind it; N: what is reckoned, D times as great, more or less -/
theorem near_div8 (N D den f g : Int) (hden : 0 < den) (h1 : N * den < (f * den + g) * D + den * 18446744073709551616) (h2 : (f * den + g) * D < N * den + den * 18446744073709551616) :
    (g = 0 → -18446744073709551616 < N - f * D ∧ N - f * D < 18446744073709551616) ∧
    (8 * 18446744073709551616 * den ≤ g * D → 8 * 18446744073709551616 * den ≤ (den - g) * D → 7 * 18446744073709551616 < N - f * D ∧ N - f * D < D - 7 * 18446744073709551616) := by
  have e : (f * den + g) * D = f * D * den + g * D := by
    rw [Int.add_mul, Int.mul_right_comm]
  rw [e] at h1 h2
  have e2 : (N - f * D) * den = N * den - f * D * den := Int.sub_mul _ _ _
  have e3 : (den - g) * D = D * den - g * D := by rw [Int.sub_mul, Int.mul_comm den D]
  have lt_of (a b : Int) (h : a * den < b * den) : a < b := Int.lt_of_mul_lt_mul_right h (Int.le_of_lt hden)
  refine ⟨fun hg => ?_, fun ha hb => ?_⟩
  · subst hg
    rw [Int.zero_mul] at h1 h2
    refine ⟨lt_of _ _ ?_, lt_of _ _ ?_⟩
    · rw [e2]; omega
    · rw [e2]; omega
  · rw [e3] at hb
    refine ⟨lt_of _ _ ?_, lt_of _ _ ?_⟩
    · rw [e2]; omega
    · rw [e2, Int.sub_mul]; omega

set_option maxRecDepth 100000 in
set_option maxHeartbeats 1000000 in
theorem usc_core64 (x hi lo s num den : Nat) (hx : x < 18446744073709551616) (hlo : lo < 18446744073709551616) (hp : x * lo ≤ x * hi * 18446744073709551616) (hden : 0 < den)
    (h1 : (x * hi * 18446744073709551616 - x * lo) * den < num * 2 ^ (128 + s) + den * 18446744073709551616) (h2 : num * 2 ^ (128 + s) < (x * hi * 18446744073709551616 - x * lo) * den + den * 18446744073709551616)
    (hg : num % den = 0 ∨ (8 * 18446744073709551616 * den ≤ num % den * 2 ^ (128 + s) ∧ 8 * 18446744073709551616 * den ≤ (den - num % den) * 2 ^ (128 + s))) :
    uscN x hi lo s = uN num den := by
  have hP : 0 < 2 ^ s := Nat.two_pow_pos s
  have hD : 2 ^ (128 + s) = 2 ^ s * 340282366920938463463374607431768211456 := by rw [Nat.add_comm, Nat.pow_add]
  have hc : x * lo / 18446744073709551616 + 2 ≤ 18446744073709551616 := by
    have h3 : x * lo < (18446744073709551616 - 1) * 18446744073709551616 := by
      have : x * lo ≤ (18446744073709551616 - 1) * lo := Nat.mul_le_mul_right _ (by omega)
      omega
    have := (Nat.div_lt_iff_lt_mul (by decide)).2 h3
    omega
  unfold uscN uN
  have ha := Nat.div_add_mod (x * hi) 18446744073709551616
  have hb := Nat.mod_lt (x * hi) (show 0 < 18446744073709551616 by decide)
  have hl := Nat.div_add_mod (x * lo) 18446744073709551616
  have hd := Nat.mod_lt (x * lo) (show 0 < 18446744073709551616 by decide)
  have hf := Nat.div_add_mod num den
  have hgl := Nat.mod_lt num hden
  generalize hA : x * hi / 18446744073709551616 = A at *
  generalize hB : x * hi % 18446744073709551616 = b at *
  generalize hC : x * lo / 18446744073709551616 = c at *
  generalize hDD : x * lo % 18446744073709551616 = d at *
  generalize hF : num / den = f at *
  generalize hG : num % den = g at *
  have hk := Nat.div_add_mod A (2 ^ s)
  have hr := Nat.mod_lt A hP
  have hm2 : A % 2 ^ s = 0 → 1 ≤ A → (A - 1) / 2 ^ s + 1 = A / 2 ^ s := fun h0 h1 => by
    rw [h0, Nat.add_zero] at hk
    generalize A / 2 ^ s = k at hk ⊢
    have k1 : 1 ≤ k := by
      rcases Nat.eq_zero_or_pos k with h | h
      · subst h; simp at hk; omega
      · exact h
    have e : A - 1 = (2 ^ s - 1) + 2 ^ s * (k - 1) := by
      rw [← hk, Nat.mul_sub, Nat.mul_one]
      have : 2 ^ s ≤ 2 ^ s * k := Nat.le_mul_of_pos_right _ k1
      omega
    rw [e, Nat.add_mul_div_left _ _ hP, Nat.div_eq_of_lt (by omega)]
    omega
  generalize hK : A / 2 ^ s = k at *
  generalize hR : A % 2 ^ s = r at *
  rw [hD] at h1 h2 hg
  generalize hPP : 2 ^ s = P at *
  -- over the integers
  have c3 : ((P * 340282366920938463463374607431768211456 : Nat) : Int) = (P : Int) * 340282366920938463463374607431768211456 := by omega
  have hN : ((x * hi * 18446744073709551616 - x * lo : Nat) : Int) = (k : Int) * ((P : Int) * 340282366920938463463374607431768211456) + (r : Int) * 340282366920938463463374607431768211456 + ((b : Int) - c) * 18446744073709551616 - d := by
    have hPk : (k : Int) * ((P : Int) * 340282366920938463463374607431768211456) = ((P * k : Nat) : Int) * 340282366920938463463374607431768211456 := by rw [Int.natCast_mul, ← Int.mul_assoc, Int.mul_comm (k : Int)]
    rw [hPk]
    generalize P * k = z at *
    generalize x * hi = z1 at *
    generalize x * lo = z2 at *
    omega
  generalize hNN : x * hi * 18446744073709551616 - x * lo = NN at *
  have c1 : ((NN * den : Nat) : Int) = (NN : Int) * den := Int.natCast_mul _ _
  have c2 : ((num * (P * 340282366920938463463374607431768211456) : Nat) : Int) = ((f : Int) * den + g) * ((P : Int) * 340282366920938463463374607431768211456) := by
    rw [Int.natCast_mul, c3]
    congr 1
    rw [← hf, Int.natCast_add, Int.natCast_mul, Int.mul_comm]
  have hI1 : (NN : Int) * den < ((f : Int) * den + g) * ((P : Int) * 340282366920938463463374607431768211456) + den * 18446744073709551616 := by
    rw [← c1, ← c2]
    omega
  have hI2 : ((f : Int) * den + g) * ((P : Int) * 340282366920938463463374607431768211456) < (NN : Int) * den + den * 18446744073709551616 := by
    rw [← c1, ← c2]
    omega
  obtain ⟨q1, q2⟩ := near_div8 _ _ (den : Int) (f : Int) (g : Int) (by omega) hI1 hI2
  rw [hN] at q1 q2
  have hq2 : g ≠ 0 → 7 * 18446744073709551616 < (k : Int) * ((P : Int) * 340282366920938463463374607431768211456) + (r : Int) * 340282366920938463463374607431768211456 + ((b : Int) - c) * 18446744073709551616 - d - (f : Int) * ((P : Int) * 340282366920938463463374607431768211456) ∧
      (k : Int) * ((P : Int) * 340282366920938463463374607431768211456) + (r : Int) * 340282366920938463463374607431768211456 + ((b : Int) - c) * 18446744073709551616 - d - (f : Int) * ((P : Int) * 340282366920938463463374607431768211456) < (P : Int) * 340282366920938463463374607431768211456 - 7 * 18446744073709551616 := fun h => by
    rcases hg with h0 | ⟨h0, h3⟩
    · exact absurd h0 h
    · have c5 : ((g * (P * 340282366920938463463374607431768211456) : Nat) : Int) = (g : Int) * ((P : Int) * 340282366920938463463374607431768211456) := by rw [Int.natCast_mul, c3]
      have c6 : (((den - g) * (P * 340282366920938463463374607431768211456) : Nat) : Int) = ((den : Int) - g) * ((P : Int) * 340282366920938463463374607431768211456) := by
        rw [Int.natCast_mul, c3]
        congr 1
        omega
      refine q2 ?_ ?_
      · rw [← c5]
        omega
      · rw [← c6]
        omega
  have hDp : (340282366920938463463374607431768211456 : Int) ≤ (P : Int) * 340282366920938463463374607431768211456 := by omega
  have hrD : (r : Int) * 340282366920938463463374607431768211456 ≤ (P : Int) * 340282366920938463463374607431768211456 - 340282366920938463463374607431768211456 := by omega
  have hr0 : r ≠ 0 → (340282366920938463463374607431768211456 : Int) ≤ (r : Int) * 340282366920938463463374607431768211456 := fun h => by omega
  generalize hDI : (P : Int) * 340282366920938463463374607431768211456 = DI at *
  generalize hRI : (r : Int) * 340282366920938463463374607431768211456 = RI at *
  have hmul : ((k : Int) - f) * DI = k * DI - f * DI := Int.sub_mul _ _ _
  have hms := mul_small ((k : Int) - f) DI (by omega)
  have hms1 := mul_small ((k : Int) - f - 1) DI (by omega)
  have e1 : ((k : Int) - f - 1) * DI = k * DI - f * DI - DI := by rw [Int.sub_mul, hmul]; omega
  rw [hmul] at hms
  rw [e1] at hms1
  have hEq : (k : Int) - f = 0 → (k : Int) * DI = f * DI := fun h => by rw [show (k : Int) = f by omega]
  clear hmul e1 hN hI1 hI2 h1 h2 hg q2 c1 c2 c3
  generalize (k : Int) * DI = kD at *
  generalize (f : Int) * DI = fD at *
  by_cases hr1 : r = 0
  · subst hr1
    have hRI0 : RI = 0 := by rw [← hRI]; omega
    subst hRI0
    rw [if_neg (by omega)]
    by_cases hbc : b < c
    · rw [if_pos hbc]
      have hA1 : 1 ≤ A := by
        rcases Nat.eq_zero_or_pos A with h | h
        · exfalso
          subst h
          omega
        · exact h
      have := hm2 rfl hA1
      by_cases g0 : g = 0
      · exfalso
        have := q1 (by omega)
        omega
      · rw [if_neg g0]
        have := hq2 g0
        have := hms1 (by omega) (by omega)
        rw [show (A - 1) / P = f by omega]
    · rw [if_neg hbc]
      by_cases hb2 : c + 1 < b
      · rw [if_pos hb2]
        by_cases g0 : g = 0
        · exfalso
          have := q1 (by omega)
          have := hEq (hms (by omega) (by omega))
          omega
        · rw [if_neg g0]
          have := hq2 g0
          have := hms (by omega) (by omega)
          rw [show k = f by omega]
      · rw [if_neg hb2]
        by_cases g0 : g = 0
        · rw [if_pos g0]
          have := q1 (by omega)
          have := hms (by omega) (by omega)
          omega
        · exfalso
          have := hq2 g0
          omega
  · rw [if_pos hr1]
    have := hr0 hr1
    by_cases g0 : g = 0
    · exfalso
      have := q1 (by omega)
      have := hEq (hms (by omega) (by omega))
      omega
    · rw [if_neg g0]
      have := hq2 g0
      have := hms (by omega) (by omega)
      rw [show k = f by omega]
end Go.Proofs.YtnljpbpphdhnpaaGreatDoor

/- Whole numbers as reals and back: the program's FromInt and ToInt. -/
namespace Go.Proofs.YtnljpbpphdhnpaaGreatDoor
open Go.RowKit Go.PlainAid

def fromI (n : Int) : Nat := if decide (n < 0) then rndR (n.natAbs * 2 ^ 149) + 2147483648 else rndR (n.natAbs * 2 ^ 149)

theorem fromI_float (n : Int) : floatOfInt .f32 n = fromI n := by
  have h1 : floatOfInt .f32 n = Ieee.single.nearest (decide (n < 0)) n.natAbs 0 := rfl
  have h2 := nearest_rnd (decide (n < 0)) n.natAbs 149
  rw [show (-149 : Int) + ((149 : Nat) : Int) = 0 from rfl] at h2
  rw [h1, h2]
  have e1 : Ieee.single.signWeight = 2147483648 := by decide
  unfold fromI
  generalize rndR (n.natAbs * 2 ^ 149) = r
  generalize decide (n < 0) = b
  unfold Ieee.Format.word
  rw [e1]
  cases b
  · rw [if_neg (by decide), if_neg (by decide)]
  · rw [if_pos rfl, if_pos rfl]; exact Nat.add_comm _ _

theorem fromI_lt (n : Int) : fromI n < 4294967296 := by
  have h := rndR_le (n.natAbs * 2 ^ 149)
  unfold fromI
  generalize rndR (n.natAbs * 2 ^ 149) = r at *
  split <;> omega

/-- the worth, if it is a whole number of 64 bits -/
def toI (x : Nat) : Int × Bool := if rungN x < 2139095040 ∧ svalZ x = wholeZ x * 2 ^ 149 ∧ -9223372036854775808 ≤ wholeZ x ∧ wholeZ x ≤ 9223372036854775807 then (wholeZ x, true) else (0, false)

theorem order_nanQ (x y : Nat) (h : nanB x = true) (o : Ordering) : (FloatKind.f32.format.order x y == some o) = false := by
  show (Ieee.single.order x y == some o) = _
  rw [order_any, if_pos (.inl (by simpa [nanB, rungN] using h))]
  rfl

end Go.Proofs.YtnljpbpphdhnpaaGreatDoor

