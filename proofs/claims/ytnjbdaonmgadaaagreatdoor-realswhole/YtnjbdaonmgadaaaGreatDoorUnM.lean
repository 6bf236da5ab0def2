/- A worth cut with two places more, rounded by them: the rung nearest to it. -/
import Derived.Test.YtnjbdaonmgadaaaGreatDoorRnd
namespace Go.Proofs.YtnjbdaonmgadaaaGreatDoor
open Go.RowKit Go.PlainAid

/-- a worth cut at 2^D, its last place told to be odd where something was cut off -/
def unr (X D : Nat) : Nat := if X % 2 ^ D = 0 then X / 2 ^ D else 2 * (X / 2 ^ D / 2) + 1
/-- to the nearest, of two more places -/
def rndU (u : Nat) : Nat := (u + 1 + u / 4 % 2) / 4
/-- one place less -/
def lessU (u : Nat) : Nat := if u % 2 = 0 then u / 2 else 2 * (u / 2 / 2) + 1

theorem cut_parts (X t k : Nat) (_ht : 0 < t) : X / (k * t) = X / t / k ∧ X % (k * t) = (X / t % k) * t + X % t := by
  refine ⟨by rw [Nat.mul_comm k t, Nat.div_div_eq_div_mul], ?_⟩
  have h1 := Nat.mod_mul (x := X) (a := t) (b := k)
  rw [Nat.mul_comm k t, h1, Nat.mul_comm t]
  omega

theorem round_unr (X D : Nat) : rndU (unr X D) = rne X (D + 2) := by
  have ht : 0 < 2 ^ D := Nat.two_pow_pos D
  have e4 : 2 ^ (D + 2) = 4 * 2 ^ D := by rw [Nat.pow_add]; omega
  obtain ⟨h1, h2⟩ := cut_parts X (2 ^ D) 4 ht
  unfold rne rneB rndU unr
  rw [e4, h1, h2]
  have hR : X % 2 ^ D < 2 ^ D := Nat.mod_lt _ ht
  generalize X / 2 ^ D = Z
  generalize X % 2 ^ D = R at *
  generalize 2 ^ D = t at *
  clear h1 h2 e4
  have hz : Z % 4 = 0 ∨ Z % 4 = 1 ∨ Z % 4 = 2 ∨ Z % 4 = 3 := by omega
  by_cases hR0 : R = 0
  · subst hR0
    rw [if_pos rfl]
    rcases hz with h | h | h | h
    · rw [h, show decide (4 * t < 2 * (0 * t + 0)) = false by simp, show (4 * t == 2 * (0 * t + 0)) = false by simp; omega]
      simp; omega
    · rw [h, show decide (4 * t < 2 * (1 * t + 0)) = false by simp; omega, show (4 * t == 2 * (1 * t + 0)) = false by simp; omega]
      simp; omega
    · rw [h, show decide (4 * t < 2 * (2 * t + 0)) = false by simp; omega, show (4 * t == 2 * (2 * t + 0)) = true by simp; omega]
      by_cases ho : Z / 4 % 2 = 1
      · simp [ho]; omega
      · have : Z / 4 % 2 = 0 := by omega
        simp [this]; omega
    · rw [h, show decide (4 * t < 2 * (3 * t + 0)) = true by simp; omega]
      simp; omega
  · rw [if_neg hR0]
    have hy : (2 * (Z / 2) + 1) / 4 = Z / 4 := by omega
    rw [hy]
    rcases hz with h | h | h | h
    · rw [h, show decide (4 * t < 2 * (0 * t + R)) = false by simp; omega, show (4 * t == 2 * (0 * t + R)) = false by simp; omega]
      simp; omega
    · rw [h, show decide (4 * t < 2 * (1 * t + R)) = false by simp; omega, show (4 * t == 2 * (1 * t + R)) = false by simp; omega]
      simp; omega
    · rw [h, show decide (4 * t < 2 * (2 * t + R)) = true by simp; omega]
      simp; omega
    · rw [h, show decide (4 * t < 2 * (3 * t + R)) = true by simp; omega]
      simp; omega

theorem less_unr (X D : Nat) : lessU (unr X D) = unr X (D + 1) := by
  have ht : 0 < 2 ^ D := Nat.two_pow_pos D
  have e4 : 2 ^ (D + 1) = 2 * 2 ^ D := by rw [Nat.pow_add]; omega
  obtain ⟨h1, h2⟩ := cut_parts X (2 ^ D) 2 ht
  unfold lessU unr
  rw [e4, h1, h2]
  have hR : X % 2 ^ D < 2 ^ D := Nat.mod_lt _ ht
  generalize X / 2 ^ D = Z
  generalize X % 2 ^ D = R at *
  generalize 2 ^ D = t at *
  clear h1 h2 e4
  by_cases hR0 : R = 0
  · subst hR0
    rw [if_pos rfl]
    by_cases hz : Z % 2 = 0
    · rw [if_pos hz, hz, if_pos (by simp)]
    · have hz1 : Z % 2 = 1 := by omega
      rw [if_neg hz, hz1, if_neg (by simp; omega)]
  · rw [if_neg hR0, if_neg (by omega), if_neg (by omega)]
    omega

/-- X stands between 2^(D+25) and 2^(D+27), and not near the latter: the rung nearest to it, by two places more -/
theorem rung_unr (X D : Nat) (hD : D ≤ 250) (h1 : 33554432 * 2 ^ D ≤ X) (h2 : 64 * X < 63 * (134217728 * 2 ^ D)) :
    (unr X D < 67108862 → 8388608 ≤ rndU (unr X D) ∧ rndU (unr X D) < 16777216 ∧ (D + 2) * 8388608 + rndU (unr X D) = rndR X) ∧
    (67108862 ≤ unr X D → 8388608 ≤ rndU (lessU (unr X D)) ∧ rndU (lessU (unr X D)) < 16777216 ∧ (D + 3) * 8388608 + rndU (lessU (unr X D)) = rndR X) ∧
    unr X D < 134217728 ∧ 33554432 ≤ unr X D := by
  have ht : 0 < 2 ^ D := Nat.two_pow_pos D
  have p25 : 2 ^ (D + 25) = 33554432 * 2 ^ D := by rw [Nat.pow_add, Nat.mul_comm]
  have p26 : 2 ^ (D + 26) = 67108864 * 2 ^ D := by rw [Nat.pow_add, Nat.mul_comm]
  have p27 : 2 ^ (D + 27) = 134217728 * 2 ^ D := by rw [Nat.pow_add, Nat.mul_comm]
  have p3 : 2 ^ (D + 3) = 8 * 2 ^ D := by rw [Nat.pow_add, Nat.mul_comm]
  have r1 := round_unr X D
  have r2 := less_unr X D
  have r3 := round_unr X (D + 1)
  rw [show D + 1 + 2 = D + 3 by omega] at r3
  have hX : X ≠ 0 := by intro h; rw [h] at h1; omega
  have l25 : ¬ X.log2 < D + 25 := by rw [Nat.log2_lt hX, p25]; omega
  have l27 : X.log2 < D + 27 := by rw [Nat.log2_lt hX, p27]; omega
  have l26 : X.log2 < D + 26 ↔ X < 67108864 * 2 ^ D := by rw [Nat.log2_lt hX, p26]
  have ub : X / 2 ^ D < 134217728 := by
    rw [Nat.div_lt_iff_lt_mul ht]; omega
  have lb : 33554432 ≤ X / 2 ^ D := by
    rw [Nat.le_div_iff_mul_le ht]; omega
  have mb : X / 2 ^ D < 67108864 ↔ X < 67108864 * 2 ^ D := by rw [Nat.div_lt_iff_lt_mul ht]
  have uu : X / 2 ^ D ≤ unr X D ∧ unr X D ≤ 2 * (X / 2 ^ D / 2) + 1 := by
    unfold unr; split <;> omega
  have low := @rnd_low X (by omega)
  have top := @rnd_top X
  have hle := @rne_le X (D + 3)
  have hq : X / 2 ^ (D + 3) = X / 2 ^ D / 8 := by rw [p3]; exact (cut_parts X (2 ^ D) 8 ht).1
  rw [hq] at hle
  have hm8 : 64 * (X / 2 ^ D) < 63 * 134217728 := by
    have h5 : X / 2 ^ D * 2 ^ D ≤ X := Nat.div_mul_le_self _ _
    have h6 : 64 * (X / 2 ^ D) * 2 ^ D < 63 * 134217728 * 2 ^ D := by
      rw [Nat.mul_assoc, Nat.mul_assoc]; omega
    exact Nat.lt_of_mul_lt_mul_right h6
  have hR : rndR X = min ((X.log2 - 23) * 8388608 + rne X (X.log2 - 23)) 2139095040 := rfl
  rw [hR, r2, r3]
  clear p25 p26 p27 p3 hq h1 h2 hR
  generalize X / 2 ^ D = Z at *
  by_cases hc : X.log2 < D + 26
  · have hz := mb.2 (l26.1 hc)
    have hd : X.log2 - 23 = D + 2 := by omega
    rw [hd, ← r1] at low top ⊢
    clear l26 mb l25 l27 hd hc hX ht
    generalize unr X D = u at *
    clear hm8
    refine ⟨fun hu => ?_, fun hu => ?_, by omega, by omega⟩
    · have hm : rndU u < 16777216 := by unfold rndU; omega
      clear r2 r3 top hle
      exact ⟨low, hm, by omega⟩
    · have hb : u = 67108862 ∨ u = 67108863 := by omega
      have e2 : rne X (D + 3) = 8388608 := by
        rw [← r3, ← r2]
        rcases hb with h | h <;> rw [h] <;> decide
      have e1 : rndU u = 16777216 := by
        rcases hb with h | h <;> rw [h] <;> decide
      rw [e2, e1]
      clear r2 r3 top hle low e1 e2 hb r1
      omega
  · have hz : ¬ Z < 67108864 := fun h => hc (l26.2 (mb.1 h))
    have hd : X.log2 - 23 = D + 3 := by omega
    rw [hd] at low top ⊢
    clear l26 mb l25 l27 hd hc hX ht r1 r2 r3
    generalize unr X D = u at *
    generalize rne X (D + 3) = m at *
    clear top
    refine ⟨fun hu => by omega, fun hu => ⟨low, by omega, by omega⟩, by omega, by omega⟩
end Go.Proofs.YtnjbdaonmgadaaaGreatDoor
