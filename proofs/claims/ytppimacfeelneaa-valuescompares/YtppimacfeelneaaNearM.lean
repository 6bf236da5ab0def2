/- The mathematics of the document's Nearest: the float below a number, and the nearer one of it and the next, is what rounding to the nearest gives. -/
import Derived.Test.YtppimacfeelneaaBigG
import Derived.Test.YtppimacfeelneaaRnd
import Derived.Test.YtppimacfeelneaaFloD
namespace Go.Proofs.Ytppimacfeelneaa

theorem valN_succ (n : Nat) : valN (n + 1) = valN n + (if n < 8388608 then 1 else 2 ^ (n / 8388608 - 1)) := by
  unfold valN
  by_cases h1 : n < 8388608
  · rw [if_pos h1, if_pos h1]
    by_cases h2 : n + 1 < 8388608
    · rw [if_pos h2]
    · have : n = 8388607 := by omega
      subst this
      rfl
  · rw [if_neg h1, if_neg h1, if_neg (by omega)]
    by_cases h2 : n % 8388608 = 8388607
    · have e1 : (n + 1) % 8388608 = 0 := by omega
      have e2 : (n + 1) / 8388608 - 1 = (n / 8388608 - 1) + 1 := by omega
      rw [e1, e2, h2, Nat.pow_succ]
      generalize 2 ^ (n / 8388608 - 1) = p
      omega
    · have e1 : (n + 1) % 8388608 = n % 8388608 + 1 := by omega
      have e2 : (n + 1) / 8388608 - 1 = n / 8388608 - 1 := by omega
      rw [e1, e2, ← Nat.add_assoc, Nat.succ_mul]

/-- n is the float below V, in units of the least one -/
def Low (V n : Nat) : Prop := n ≤ 2139095040 ∧ valN n ≤ V ∧ (n = 2139095040 ∨ V < valN (n + 1))
def upB (V2 S n : Nat) : Bool := decide (S < V2) || (decide (V2 = S) && decide (n % 2 = 1))
def nearN (V n : Nat) : Nat := if n = 2139095040 then n else if upB (2 * V) (valN n + valN (n + 1)) n = true then n + 1 else n

theorem floor_rung (V : Nat) : valN ((V.log2 - 23) * 8388608 + V / 2 ^ (V.log2 - 23)) = V / 2 ^ (V.log2 - 23) * 2 ^ (V.log2 - 23) ∧
    valN ((V.log2 - 23) * 8388608 + V / 2 ^ (V.log2 - 23) + 1) = (V / 2 ^ (V.log2 - 23) + 1) * 2 ^ (V.log2 - 23) := by
  rw [valN_succ]
  by_cases h0 : V = 0
  · subst h0; decide
  have l1 : 2 ^ V.log2 ≤ V := Nat.log2_self_le h0
  have l2 : V < 2 ^ (V.log2 + 1) := Nat.lt_log2_self
  by_cases hd : V.log2 ≤ 23
  · have e0 : V.log2 - 23 = 0 := by omega
    have hV : V < 16777216 := Nat.lt_of_lt_of_le l2 (Nat.le_trans (Nat.pow_le_pow_right (by decide) (show V.log2 + 1 ≤ 24 by omega)) (by decide))
    rw [e0]
    simp only [Nat.zero_mul, Nat.zero_add, Nat.pow_zero, Nat.div_one, Nat.mul_one]
    have hv : valN V = V := by
      unfold valN
      split
      · rfl
      · rw [show V / 8388608 - 1 = 0 by omega]; omega
    rw [hv]
    refine ⟨rfl, ?_⟩
    split
    · rfl
    · rw [show V / 8388608 - 1 = 0 by omega]
  · generalize hdd : V.log2 - 23 = d at *
    have hlog : V.log2 = d + 23 := by omega
    rw [hlog] at l1 l2
    rw [Nat.pow_add] at l1
    rw [show d + 23 + 1 = d + 24 by omega, Nat.pow_add] at l2
    have hp : 0 < 2 ^ d := Nat.two_pow_pos d
    have t1 : 8388608 ≤ V / 2 ^ d := (Nat.le_div_iff_mul_le hp).2 (by rw [Nat.mul_comm]; exact l1)
    have t2 : V / 2 ^ d < 16777216 := (Nat.div_lt_iff_lt_mul hp).2 (by rw [Nat.mul_comm]; exact l2)
    generalize V / 2 ^ d = t at *
    have hv : valN (d * 8388608 + t) = t * 2 ^ d := by
      unfold valN
      rw [if_neg (by omega), show (d * 8388608 + t) % 8388608 = t - 8388608 by omega, show (d * 8388608 + t) / 8388608 - 1 = d by omega]
      rw [show 8388608 + (t - 8388608) = t by omega]
    rw [hv]
    refine ⟨rfl, ?_⟩
    rw [if_neg (by omega), show (d * 8388608 + t) / 8388608 - 1 = d by omega, Nat.succ_mul]

theorem floor_at (V d : Nat) (hd : V.log2 - 23 = d) : ∃ L, L = d * 8388608 + V / 2 ^ d ∧ valN L = V / 2 ^ d * 2 ^ d ∧ valN (L + 1) = (V / 2 ^ d + 1) * 2 ^ d := by
  subst hd
  exact ⟨_, rfl, floor_rung V⟩

theorem near_rnd (V n : Nat) (h : Low V n) : nearN V n = rndR V := by
  obtain ⟨h1, h2, h3⟩ := h
  unfold rndR rne rneB nearN upB
  generalize hd : V.log2 - 23 = d
  obtain ⟨L, hL, f1, f2⟩ := floor_at V d hd
  have hp : 0 < 2 ^ d := Nat.two_pow_pos d
  have hdm := Nat.div_add_mod V (2 ^ d)
  have hlt := Nat.mod_lt V hp
  generalize hpp : 2 ^ d = p at *
  generalize V / p = t at *
  generalize V % p = r at *
  rw [Nat.mul_comm] at hdm
  have hV1 : valN L ≤ V := by rw [f1]; omega
  have hV2 : V < valN (L + 1) := by rw [f2, Nat.succ_mul]; omega
  have hadd : ∀ b : Nat, d * 8388608 + (t + b) = L + b := fun b => by rw [hL]; omega
  rw [hadd]
  have a1 : n < L + 1 := valN_iff.1 (Nat.lt_of_le_of_lt h2 hV2)
  by_cases ho : n = 2139095040
  · rw [if_pos ho]
    generalize (decide (p < 2 * r) || p == 2 * r && t % 2 == 1).toNat = b
    rw [Nat.min_eq_right (by omega)]
    exact ho
  · rw [if_neg ho]
    have h3' : V < valN (n + 1) := by rcases h3 with h | h; exact absurd h ho; exact h
    have a2 : L < n + 1 := valN_iff.1 (Nat.lt_of_le_of_lt hV1 h3')
    have hn : n = L := by omega
    have h1' : L + 1 ≤ 2139095040 := by omega
    have e3 : decide (L % 2 = 1) = (t % 2 == 1) := by
      by_cases hx : t % 2 = 1
      · rw [show (t % 2 == 1) = true by simpa using hx, decide_eq_true (by omega)]
      · rw [show (t % 2 == 1) = false by simpa using hx, decide_eq_false (by omega)]
    clear hL hadd h1 ho a1 a2 h3 h3' hV1 hV2
    subst hn
    rw [f1, f2, e3]
    have e1 : decide (t * p + (t + 1) * p < 2 * V) = decide (p < 2 * r) := by
      rw [Nat.succ_mul t p, ← hdm]
      apply decide_eq_decide.2
      generalize t * p = q
      omega
    have e2 : decide (2 * V = t * p + (t + 1) * p) = (p == 2 * r) := by
      rw [Nat.succ_mul t p, ← hdm]
      generalize t * p = q
      by_cases hx : p = 2 * r
      · rw [show (p == 2 * r) = true by simpa using hx, decide_eq_true (by omega)]
      · rw [show (p == 2 * r) = false by simpa using hx, decide_eq_false (by omega)]
    rw [e1, e2]
    generalize (decide (p < 2 * r) || p == 2 * r && t % 2 == 1) = b
    cases b
    · rw [if_neg (by decide), Nat.min_eq_left (by simp; omega)]; rfl
    · rw [if_pos rfl, Nat.min_eq_left (by simp; omega)]; rfl

theorem cmp_scale (a b s : Nat) (hs : 0 < s) : cmpI ((a * s : Nat) : Int) ((b * s : Nat) : Int) = cmpI (a : Nat) (b : Nat) := by
  unfold cmpI
  rcases Nat.lt_trichotomy a b with h | h | h
  · have := Nat.mul_lt_mul_of_pos_right h hs
    rw [if_pos (by omega), if_pos (by omega)]
  · subst h
    rw [if_neg (by omega), if_neg (by omega), if_neg (by omega), if_neg (by omega)]
  · have := Nat.mul_lt_mul_of_pos_right h hs
    rw [if_neg (by omega), if_pos (by omega), if_neg (by omega), if_pos (by omega)]

theorem against_val (A B n : Nat) : cmpI ((A * 2 ^ (-(atE n)).toNat : Nat) : Int) ((atM n * 2 ^ (atE n).toNat * B : Nat) : Int) = cmpI ((A * 2 ^ 149 : Nat) : Int) ((valN n * B : Nat) : Int) := by
  unfold atE atM valN
  by_cases h : n < 8388608
  · rw [if_pos h, if_pos h, if_pos h]
    simp
  · rw [if_neg h, if_neg h, if_neg h]
    have hk : 1 ≤ n / 8388608 := by omega
    generalize n / 8388608 = k at *
    generalize 8388608 + n % 8388608 = m
    by_cases hk2 : k ≤ 150
    · rw [show (-((k : Int) - 150)).toNat = 150 - k by omega, show ((k : Int) - 150).toNat = 0 by omega, ← cmp_scale _ _ (2 ^ (k - 1)) (Nat.two_pow_pos _)]
      have e1 : A * 2 ^ (150 - k) * 2 ^ (k - 1) = A * 2 ^ 149 := by rw [Nat.mul_assoc, ← Nat.pow_add, show 150 - k + (k - 1) = 149 by omega]
      have e2 : m * 2 ^ 0 * B * 2 ^ (k - 1) = m * 2 ^ (k - 1) * B := by rw [Nat.pow_zero, Nat.mul_one, Nat.mul_assoc, Nat.mul_comm B, ← Nat.mul_assoc]
      rw [e1, e2]
    · rw [show (-((k : Int) - 150)).toNat = 0 by omega, show ((k : Int) - 150).toNat = k - 150 by omega, ← cmp_scale _ _ (2 ^ 149) (Nat.two_pow_pos _)]
      have e2 : m * 2 ^ (k - 150) * B * 2 ^ 149 = m * 2 ^ (k - 1) * B := by
        rw [Nat.mul_assoc, Nat.mul_comm B, ← Nat.mul_assoc, Nat.mul_assoc m, ← Nat.pow_add, show k - 150 + 149 = k - 1 by omega]
      rw [e2, Nat.pow_zero, Nat.mul_one]

theorem against_half (A B n : Nat) : cmpI ((A * 2 ^ (-(atE n - 1)).toNat : Nat) : Int) (((2 * atM n + 1) * 2 ^ (atE n - 1).toNat * B : Nat) : Int) = cmpI ((2 * (A * 2 ^ 149) : Nat) : Int) (((valN n + valN (n + 1)) * B : Nat) : Int) := by
  rw [valN_succ]
  have eA : 2 * (A * 2 ^ 149) = A * 2 ^ 150 := by rw [Nat.mul_comm, Nat.mul_assoc, ← Nat.pow_succ]
  rw [eA]
  unfold atE atM valN
  by_cases h : n < 8388608
  · rw [if_pos h, if_pos h, if_pos h, if_pos h]
    rw [show (-((-149 : Int) - 1)).toNat = 150 from rfl, show ((-149 : Int) - 1).toNat = 0 from rfl, Nat.pow_zero, Nat.mul_one, show 2 * n + 1 = n + (n + 1) by omega]
  · rw [if_neg h, if_neg h, if_neg h, if_neg h]
    have hk : 1 ≤ n / 8388608 := by omega
    generalize n / 8388608 = k at *
    generalize 8388608 + n % 8388608 = m
    have eS : m * 2 ^ (k - 1) + (m * 2 ^ (k - 1) + 2 ^ (k - 1)) = (2 * m + 1) * 2 ^ (k - 1) := by
      rw [Nat.add_mul, Nat.mul_assoc]; omega
    rw [eS]
    generalize 2 * m + 1 = m2
    by_cases hk2 : k ≤ 151
    · rw [show (-((k : Int) - 150 - 1)).toNat = 151 - k by omega, show ((k : Int) - 150 - 1).toNat = 0 by omega, ← cmp_scale _ _ (2 ^ (k - 1)) (Nat.two_pow_pos _)]
      have e1 : A * 2 ^ (151 - k) * 2 ^ (k - 1) = A * 2 ^ 150 := by rw [Nat.mul_assoc, ← Nat.pow_add, show 151 - k + (k - 1) = 150 by omega]
      have e2 : m2 * 2 ^ 0 * B * 2 ^ (k - 1) = m2 * 2 ^ (k - 1) * B := by rw [Nat.pow_zero, Nat.mul_one, Nat.mul_assoc, Nat.mul_comm B, ← Nat.mul_assoc]
      rw [e1, e2]
    · rw [show (-((k : Int) - 150 - 1)).toNat = 0 by omega, show ((k : Int) - 150 - 1).toNat = k - 151 by omega, ← cmp_scale _ _ (2 ^ 150) (Nat.two_pow_pos _)]
      have e2 : m2 * 2 ^ (k - 151) * B * 2 ^ 150 = m2 * 2 ^ (k - 1) * B := by
        rw [Nat.mul_assoc, Nat.mul_comm B, ← Nat.mul_assoc, Nat.mul_assoc m2, ← Nat.pow_add, show k - 151 + 150 = k - 1 by omega]
      rw [e2, Nat.pow_zero, Nat.mul_one]
end Go.Proofs.Ytppimacfeelneaa

