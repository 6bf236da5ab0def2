/- What is rounded to a real of 32 bits, told in units of the least real: it hangs on the worth alone, and never falls. -/
import Derived.Test.YtnjbdaonmgadaaaGreatDoorFloN
namespace Go.Proofs.YtnjbdaonmgadaaaGreatDoor
open Go.RowKit Go.PlainAid

/-- to the nearest whole number, between two to the even one -/
def rneB (v d : Nat) : Bool := decide (2 ^ d < 2 * (v % 2 ^ d)) || (2 ^ d == 2 * (v % 2 ^ d) && v / 2 ^ d % 2 == 1)
def rne (v d : Nat) : Nat := v / 2 ^ d + (rneB v d).toNat

theorem cut_even (s : Bool) (n d : Nat) : Ieee.Toward.cut .even s n d = rne n d := by
  unfold Ieee.Toward.cut rne rneB
  simp only [Nat.one_shiftLeft]
  by_cases h : d ≤ n.log2 + 2
  · rw [Nat.min_eq_left h]
  · rw [Nat.min_eq_right (by omega)]
    have hn : n < 2 ^ (n.log2 + 1) := Nat.lt_log2_self
    have e1 : (2 : Nat) ^ (n.log2 + 2) = 2 * 2 ^ (n.log2 + 1) := by rw [Nat.pow_succ]; omega
    have h2 : 2 ^ (n.log2 + 2) ≤ 2 ^ d := Nat.pow_le_pow_right (by omega) (by omega)
    have h3 : n < 2 ^ (n.log2 + 2) := by omega
    have h4 : n < 2 ^ d := by omega
    rw [Nat.div_eq_of_lt h3, Nat.div_eq_of_lt h4, Nat.mod_eq_of_lt h3, Nat.mod_eq_of_lt h4]
    have a1 : decide (2 ^ (n.log2 + 2) < 2 * n) = false := by simp; omega
    have a2 : decide (2 ^ d < 2 * n) = false := by simp; omega
    have a3 : (2 ^ (n.log2 + 2) == 2 * n) = false := by simp; omega
    have a4 : (2 ^ d == 2 * n) = false := by simp; omega
    rw [a1, a2, a3, a4]
theorem rne_scale (v k d : Nat) : rne (v * 2 ^ k) (d + k) = rne v d := by
  have hp : 0 < 2 ^ k := Nat.two_pow_pos k
  have e0 : (2 : Nat) ^ (d + k) = 2 ^ d * 2 ^ k := Nat.pow_add ..
  have e1 : v * 2 ^ k / 2 ^ (d + k) = v / 2 ^ d := by rw [e0, Nat.mul_div_mul_right _ _ hp]
  have e2 : v * 2 ^ k % 2 ^ (d + k) = v % 2 ^ d * 2 ^ k := by rw [e0, Nat.mul_mod_mul_right]
  unfold rne rneB
  rw [e1, e2, e0]
  have e3 : 2 * (v % 2 ^ d * 2 ^ k) = 2 * (v % 2 ^ d) * 2 ^ k := by rw [Nat.mul_assoc]
  rw [e3]
  have e4 : decide (2 ^ d * 2 ^ k < 2 * (v % 2 ^ d) * 2 ^ k) = decide (2 ^ d < 2 * (v % 2 ^ d)) := by
    apply decide_eq_decide.2; exact Nat.mul_lt_mul_right hp
  have e5 : (2 ^ d * 2 ^ k == 2 * (v % 2 ^ d) * 2 ^ k) = (2 ^ d == 2 * (v % 2 ^ d)) := by
    rw [Bool.eq_iff_iff]; simp only [beq_iff_eq]
    exact ⟨fun h => Nat.eq_of_mul_eq_mul_right hp h, fun h => congrArg (· * 2 ^ k) h⟩
  rw [e4, e5]
theorem rne_zero (v : Nat) : rne v 0 = v := by
  unfold rne rneB
  simp [Nat.mod_one]
theorem rne_mono {v u : Nat} (h : v ≤ u) (d : Nat) : rne v d ≤ rne u d := by
  unfold rne
  have hq : v / 2 ^ d ≤ u / 2 ^ d := Nat.div_le_div_right h
  have b1 : (rneB v d).toNat ≤ 1 := Bool.toNat_le _
  by_cases hl : v / 2 ^ d < u / 2 ^ d
  · omega
  · have he : v / 2 ^ d = u / 2 ^ d := by omega
    have hr : v % 2 ^ d ≤ u % 2 ^ d := by
      have h1 := Nat.div_add_mod v (2 ^ d)
      have h2 := Nat.div_add_mod u (2 ^ d)
      rw [he] at h1
      omega
    have hb : rneB v d = true → rneB u d = true := by
      unfold rneB
      rw [he]
      simp only [Bool.or_eq_true, decide_eq_true_eq, Bool.and_eq_true, beq_iff_eq]
      intro h5
      rcases h5 with h5 | ⟨h5, h6⟩
      · left; omega
      · by_cases h7 : 2 ^ d < 2 * (u % 2 ^ d)
        · exact .inl h7
        · right; exact ⟨by omega, h6⟩
    rw [he]
    cases hv : rneB v d
    · simp
    · rw [hb hv]; exact Nat.le_refl _
theorem rne_le {v d : Nat} : rne v d ≤ v / 2 ^ d + 1 := by
  unfold rne
  have b1 : (rneB v d).toNat ≤ 1 := Bool.toNat_le _
  omega
theorem rne_ge {v d : Nat} : v / 2 ^ d ≤ rne v d := by
  unfold rne; omega

/-- the rung nearest to a worth -/
def rndR (v : Nat) : Nat := min ((v.log2 - 23) * 8388608 + rne v (v.log2 - 23)) 2139095040

theorem rndR_zero : rndR 0 = 0 := by decide
theorem log2_scale (m k : Nat) (h : 0 < m) : (m * 2 ^ k).log2 = m.log2 + k := by
  have h1 : 2 ^ m.log2 ≤ m := Nat.log2_self_le (by omega)
  have h2 : m < 2 ^ (m.log2 + 1) := Nat.lt_log2_self
  have hp : 0 < 2 ^ k := Nat.two_pow_pos k
  have hm : 0 < m * 2 ^ k := Nat.mul_pos h hp
  have a1 : 2 ^ (m.log2 + k) ≤ m * 2 ^ k := by rw [Nat.pow_add]; exact Nat.mul_le_mul_right _ h1
  have a2 : m * 2 ^ k < 2 ^ (m.log2 + k + 1) := by
    rw [show m.log2 + k + 1 = (m.log2 + 1) + k by omega, Nat.pow_add]; exact Nat.mul_lt_mul_of_pos_right h2 hp
  have b1 : (m * 2 ^ k).log2 < m.log2 + k + 1 := (Nat.log2_lt (by omega)).2 a2
  have b2 : ¬ (m * 2 ^ k).log2 < m.log2 + k := by
    rw [Nat.log2_lt (by omega)]; omega
  omega

theorem nearest_rnd (neg : Bool) (mag : Nat) (up : Nat) : Ieee.single.nearest neg mag (-149 + (up : Int)) = Ieee.single.word neg (rndR (mag * 2 ^ up)) := by
  have e2 : Ieee.single.binade = 8388608 := by decide
  have e3 : Ieee.single.infRung = 2139095040 := by decide
  have e4 : Ieee.single.leastPlace = -149 := by decide
  have e5 : Ieee.single.fractionBits = 23 := rfl
  unfold Ieee.Format.nearest
  by_cases h0 : mag = 0
  · rw [if_pos h0, h0, Nat.zero_mul, rndR_zero]
  rw [if_neg h0]
  simp only [e2, e3, e4, e5, cut_even]
  unfold rndR
  rw [log2_scale mag up (by omega)]
  generalize hL : mag.log2 = L
  by_cases hb : L + up ≤ 23
  · rw [show max (-149 + (up : Int) + (L : Int) - ((23 : Nat) : Int)) (-149) = -149 by omega]
    rw [show (-149 + (up : Int) - -149).toNat = up by omega, show (-149 - (-149 + (up : Int))).toNat = 0 by omega, show ((-149 : Int) - -149).toNat = 0 by decide, show L + up - 23 = 0 by omega]
    rw [rne_zero, rne_zero, Nat.shiftLeft_eq]
  · rw [show max (-149 + (up : Int) + (L : Int) - ((23 : Nat) : Int)) (-149) = -149 + ((L + up - 23 : Nat) : Int) by omega]
    rw [show (-149 + ((L + up - 23 : Nat) : Int) - -149).toNat = L + up - 23 by omega]
    congr 3
    by_cases hc : L ≤ 23
    · rw [show (-149 + (up : Int) - (-149 + ((L + up - 23 : Nat) : Int))).toNat = 23 - L by omega, show (-149 + ((L + up - 23 : Nat) : Int) - (-149 + (up : Int))).toNat = 0 by omega]
      rw [rne_zero, Nat.shiftLeft_eq]
      have := rne_scale (mag * 2 ^ (23 - L)) (L + up - 23) 0
      rw [rne_zero, Nat.mul_assoc, ← Nat.pow_add, Nat.zero_add, show 23 - L + (L + up - 23) = up by omega] at this
      exact this.symm
    · rw [show (-149 + (up : Int) - (-149 + ((L + up - 23 : Nat) : Int))).toNat = 0 by omega, show (-149 + ((L + up - 23 : Nat) : Int) - (-149 + (up : Int))).toNat = L - 23 by omega]
      rw [Nat.shiftLeft_eq, Nat.pow_zero, Nat.mul_one]
      have := rne_scale mag up (L - 23)
      rw [show L - 23 + up = L + up - 23 by omega] at this
      exact this.symm

theorem log2_mono {v u : Nat} (h : v ≤ u) (hv : 0 < v) : v.log2 ≤ u.log2 := by
  have h2 : v < 2 ^ (u.log2 + 1) := Nat.lt_of_le_of_lt h Nat.lt_log2_self
  have := (Nat.log2_lt (by omega : v ≠ 0)).2 h2
  omega

theorem rnd_top {v : Nat} : rne v (v.log2 - 23) ≤ 16777216 := by
  have hv : v < 2 ^ (v.log2 + 1) := Nat.lt_log2_self
  by_cases h : v.log2 ≤ 23
  · rw [show v.log2 - 23 = 0 by omega, rne_zero]
    have : (2 : Nat) ^ (v.log2 + 1) ≤ 2 ^ 24 := Nat.pow_le_pow_right (by omega) (by omega)
    omega
  · have : v / 2 ^ (v.log2 - 23) < 2 ^ 24 := by
      rw [Nat.div_lt_iff_lt_mul (Nat.two_pow_pos _), ← Nat.pow_add, show 24 + (v.log2 - 23) = v.log2 + 1 by omega]
      exact hv
    have := @rne_le v (v.log2 - 23)
    omega
theorem rnd_low {v : Nat} (h : 23 ≤ v.log2) : 8388608 ≤ rne v (v.log2 - 23) := by
  have hne : v ≠ 0 := by intro h0; rw [h0] at h; simp at h
  have hv : 2 ^ v.log2 ≤ v := Nat.log2_self_le hne
  have : 2 ^ 23 ≤ v / 2 ^ (v.log2 - 23) := by
    rw [Nat.le_div_iff_mul_le (Nat.two_pow_pos _), ← Nat.pow_add, show 23 + (v.log2 - 23) = v.log2 by omega]
    exact hv
  have := @rne_ge v (v.log2 - 23)
  omega

theorem rndR_mono {v u : Nat} (h : v ≤ u) : rndR v ≤ rndR u := by
  by_cases hv : v = 0
  · rw [hv, rndR_zero]; omega
  have hl := log2_mono h (by omega)
  unfold rndR
  have key : (v.log2 - 23) * 8388608 + rne v (v.log2 - 23) ≤ (u.log2 - 23) * 8388608 + rne u (u.log2 - 23) := by
    by_cases he : v.log2 - 23 = u.log2 - 23
    · rw [he]
      have := rne_mono h (u.log2 - 23)
      omega
    · have h1 := @rnd_top v
      have h2 := @rnd_low u (by omega)
      omega
  omega
theorem rndR_pos {v : Nat} (h : 0 < v) : 0 < rndR v := by
  have h1 : rndR 1 = 1 := by decide
  have := rndR_mono (show 1 ≤ v by omega)
  omega
theorem rndR_le (v : Nat) : rndR v ≤ 2139095040 := by unfold rndR; omega

/-- a worth with its sign, rounded: the rung with its sign -/
def rndZ (z : Int) : Int := if z < 0 then -(rndR z.natAbs : Int) else (rndR z.natAbs : Int)
theorem rndZ_mono {a b : Int} (h : a ≤ b) : rndZ a ≤ rndZ b := by
  unfold rndZ
  by_cases ha : a < 0
  · rw [if_pos ha]
    by_cases hb : b < 0
    · rw [if_pos hb]
      have := rndR_mono (show b.natAbs ≤ a.natAbs by omega)
      omega
    · rw [if_neg hb]; omega
  · rw [if_neg ha, if_neg (by omega)]
    have := rndR_mono (show a.natAbs ≤ b.natAbs by omega)
    omega

end Go.Proofs.YtnjbdaonmgadaaaGreatDoor

