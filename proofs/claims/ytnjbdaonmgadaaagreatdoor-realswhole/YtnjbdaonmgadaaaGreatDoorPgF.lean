/- Whole numbers as reals multiplied; the library's exact way for short numbers. -/
import Derived.Test.YtnjbdaonmgadaaaGreatDoorPgE
namespace Go.Proofs.YtnjbdaonmgadaaaGreatDoor
open Go.RowKit Go.PlainAid

theorem read_short (x : Nat) (h : rungN x < 2139095040) : ∃ m : Nat, ∃ up : Nat, Ieee.single.read x = .number (x / 2147483648 % 2 == 1) m (-149 + (up : Int)) ∧ m * 2 ^ up = valN (rungN x) ∧ m < 2 ^ 24 := by
  have e1 : Ieee.single.signWeight = 2147483648 := by decide
  have e2 : Ieee.single.binade = 8388608 := by decide
  have e3 : Ieee.single.infRung = 2139095040 := by decide
  have e4 : Ieee.single.leastPlace = -149 := by decide
  unfold rungN at h ⊢
  unfold Ieee.Format.read valN
  simp only [e1, e2, e3, e4]
  by_cases hb : x % 2147483648 < 8388608
  · rw [if_pos hb, if_pos hb]
    exact ⟨x % 2147483648, 0, by simp, by simp, by omega⟩
  · rw [if_neg hb, if_pos h, if_neg hb]
    exact ⟨_, _, rfl, rfl, by omega⟩
theorem up_big (m up A : Nat) (h : m * 2 ^ up = A * P149) (hA : 0 < A) (hm : m < 2 ^ 24) : 125 < up := by
  refine Decidable.byContradiction fun hu => ?_
  have h1 : 2 ^ up ≤ 2 ^ 125 := Nat.pow_le_pow_right (by omega) (by omega)
  have h2 : m * 2 ^ up < 2 ^ 24 * 2 ^ 125 := Nat.lt_of_le_of_lt (Nat.mul_le_mul_left m h1) (Nat.mul_lt_mul_of_pos_right hm (Nat.two_pow_pos _))
  have h3 : 2 ^ 24 * 2 ^ 125 = P149 := by unfold P149; rw [← Nat.pow_add]
  have h4 : 1 * P149 ≤ A * P149 := Nat.mul_le_mul_right _ hA
  rw [h, h3] at h2
  omega
theorem four_by (m m' X Y A B p : Nat) (h1 : m * X = A * p) (h2 : m' * Y = B * p) : m * m' * (X * Y) = A * B * p * p := by
  rw [Nat.mul_mul_mul_comm, h1, h2, Nat.mul_mul_mul_comm, Nat.mul_assoc (A * B)]
theorem mul_whole (a c A B : Nat) (ha : a < 2139095040) (hc : c < 2139095040) (va : valN a = A * P149) (vc : valN c = B * P149) (hA : 0 < A) (hB : 0 < B) :
    floatBits .mul .f32 a c = some (rndR (A * B * P149)) := by
  show Ieee.single.mul a c = _
  have ra : rungN a = a := by unfold rungN; omega
  have rc : rungN c = c := by unfold rungN; omega
  obtain ⟨m, i, h1, h2, h3⟩ := read_short a (by omega)
  obtain ⟨m', j, k1, k2, k3⟩ := read_short c (by omega)
  rw [ra, va] at h2
  rw [rc, vc] at k2
  have hi := up_big m i A h2 hA h3
  have hj := up_big m' j B k2 hB k3
  have s1 : (a / 2147483648 % 2 == 1) = false := by simp; omega
  have s2 : (c / 2147483648 % 2 == 1) = false := by simp; omega
  unfold Ieee.Format.mul
  rw [h1, k1, s1, s2]
  simp only [Ieee.Datum.product, Option.map_some, Ieee.Format.write]
  have e : (-149 + (i : Int) + (-149 + (j : Int))) = -149 + ((i + j - 149 : Nat) : Int) := by omega
  rw [e, nearest_rnd]
  have hp : m * m' * 2 ^ (i + j - 149) = A * B * P149 := by
    have h5 : m * m' * 2 ^ (i + j - 149) * P149 = A * B * P149 * P149 := by
      have e5 : (2 : Nat) ^ (i + j - 149) * P149 = 2 ^ i * 2 ^ j := by
        unfold P149
        rw [← Nat.pow_add, ← Nat.pow_add, show i + j - 149 + 149 = i + j by omega]
      rw [Nat.mul_assoc, e5]
      exact four_by m m' _ _ A B P149 h2 k2
    exact Nat.eq_of_mul_eq_mul_right p149_pos h5
  rw [hp]
  have hr := rndR_le (A * B * P149)
  generalize rndR (A * B * P149) = r at *
  unfold Ieee.Format.word
  simp

theorem fromI_nat (n : Nat) : fromI (n : Int) = rndR (n * P149) := by
  rw [fromI_p, if_neg (by omega)]; simp
/-- a whole number that a real holds -/
theorem held (n : Nat) (h0 : 0 < n) (h : n ≤ 16777216) : valN (rndR (n * P149)) = n * P149 ∧ rndR (n * P149) < 2139095040 := by
  obtain ⟨a1, a2, a3, a4, a5⟩ := near_whole n h0 (by omega)
  exact ⟨a5 h, by omega⟩
theorem ten_held : ∀ k, k ≤ 10 → valN (rndR (10 ^ k * P149)) = 10 ^ k * P149 ∧ rndR (10 ^ k * P149) < 2139095040 := by
  decide
theorem seven : rndR (10000000 * P149) = 1259902592 := by decide
/-- beside ten to the power seven -/
theorem gt_seven (n : Nat) (h0 : 0 < n) (hn : n ≤ 9223372036854775808) : (FloatKind.f32.format.order (rndR (n * P149)) 1259902592 == some Ordering.gt) = decide (10000000 < n) ∧ (FloatKind.f32.format.order (rndR (n * P149)) 3407386240 == some Ordering.lt) = false := by
  obtain ⟨a1, a2, a3, a4, a5⟩ := near_whole n h0 hn
  have n1 : nanB (rndR (n * P149)) = false := nan_pos _ (by omega)
  have v7 : svalZ 1259902592 = ((10000000 * P149 : Nat) : Int) := by decide
  have v8 : svalZ 3407386240 = -((10000000 * P149 : Nat) : Int) := by decide
  have vx : svalZ (rndR (n * P149)) = (valN (rndR (n * P149)) : Int) := sval_pos _ (by omega)
  obtain ⟨f1, f2, f3⟩ := ord_facts (rndR (n * P149)) 1259902592 n1 (by decide)
  obtain ⟨g1, g2, g3⟩ := ord_facts (rndR (n * P149)) 3407386240 n1 (by decide)
  rw [f2, g1, v7, v8, vx]
  refine ⟨?_, decide_eq_false (by omega)⟩
  by_cases h : 10000000 < n
  · rw [decide_eq_true h]
    refine decide_eq_true ?_
    by_cases hs : n ≤ 16777216
    · rw [a5 hs]
      have := Nat.mul_lt_mul_of_pos_right h p149_pos
      omega
    · have h1 := rndR_mono (Nat.mul_le_mul_right P149 (show 16777216 ≤ n by omega))
      have h2 : rndR (16777216 * P149) = 1266679808 := by decide
      have h3 : valN 1266679808 = 16777216 * P149 := by decide
      rw [h2] at h1
      have h4 : valN 1266679808 ≤ valN (rndR (n * P149)) := by
        rcases Nat.lt_or_eq_of_le h1 with h | h
        · exact Nat.le_of_lt (valN_lt h)
        · rw [← h]; exact Nat.le_refl _
      rw [h3] at h4
      have h5 : 10000000 * P149 < 16777216 * P149 := Nat.mul_lt_mul_of_pos_right (by decide) p149_pos
      omega
  · rw [decide_eq_false h]
    refine decide_eq_false ?_
    rw [a5 (by omega)]
    have := Nat.mul_le_mul_right P149 (show n ≤ 10000000 by omega)
    omega
end Go.Proofs.YtnjbdaonmgadaaaGreatDoor
