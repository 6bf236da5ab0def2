/- The real of a number: the steps from its digits in 64 bits to its 32 bits. -/
import Derived.Test.YtnjbdaonmgadaaaGreatDoorFloD
namespace Go.Proofs.YtnjbdaonmgadaaaGreatDoor
open Go.RowKit Go.PlainAid Go.Lib

/-- the digits of the rung n, k doublings on, in 64 bits -/
def fD (n : Nat) (k : Int) : Nat := if atM n = 0 then 0 else wD (atM n * 2 ^ (52 - (atM n).log2)) (((atM n).log2 : Int) + k)

theorem atM_lt (n : Nat) : atM n < 16777216 := by unfold atM; split <;> omega
theorem atE_lo (n : Nat) : -149 ≤ atE n := by unfold atE; split <;> omega
theorem atE_hi (n : Nat) (h : n < 2139095040) : atE n ≤ 104 := by unfold atE; split <;> omega

theorem fD_start (n : Nat) : floatOfInt .f64 ((atM n : Nat) : Int) = fD n 0 := by
  show Ieee.double.nearest (decide (((atM n : Nat) : Int) < 0)) ((atM n : Nat) : Int).natAbs 0 = _
  rw [show decide (((atM n : Nat) : Int) < 0) = false by simp, Int.natAbs_natCast]
  unfold fD
  by_cases h : atM n = 0
  · rw [if_pos h, h]; decide
  · rw [if_neg h, (nearS (atM n) (by omega) (atM_lt n)).1, Int.add_zero]

theorem fD_mul (n : Nat) (k : Int) (h0 : 0 ≤ k) (h1 : k < 104) : floatBits .mul .f64 (fD n k) 4611686018427387904 = some (fD n (k + 1)) := by
  show Ieee.double.mul _ _ = _
  unfold fD
  by_cases h : atM n = 0
  · rw [if_pos h, if_pos h]; decide
  · rw [if_neg h, if_neg h]
    obtain ⟨_, k1, k2, k3⟩ := nearS (atM n) (by omega) (atM_lt n)
    rw [mul2 _ _ k1 k2 (by omega) (by omega), Int.add_assoc]

theorem fD_div (n : Nat) (k : Int) (h0 : -149 ≤ k) (h1 : k ≤ 104) : floatBits .quo .f64 (fD n k) 4611686018427387904 = some (fD n (k - 1)) := by
  show Ieee.double.div _ _ = _
  unfold fD
  by_cases h : atM n = 0
  · rw [if_pos h, if_pos h]; decide
  · rw [if_neg h, if_neg h]
    obtain ⟨_, k1, k2, k3⟩ := nearS (atM n) (by omega) (atM_lt n)
    rw [div2 _ _ k1 k2 (by omega) (by omega)]
    congr 2
    omega

theorem fD_end (n : Nat) (h : n < 2139095040) : floatToFloatBits .f64 (fD n (atE n)) .f32 = some n := by
  unfold floatToFloatBits
  rw [if_neg (by decide)]
  show (match Ieee.double.read (fD n (atE n)) with | .nan _ _ => none | .infinity s => some (Ieee.single.write (.infinity s)) | .number s m e => if (Ieee.single.read (Ieee.single.write (.number s m e))).isInfinity then none else some (Ieee.single.write (.number s m e))) = _
  unfold fD
  by_cases h0 : atM n = 0
  · have hn : n = 0 := by unfold atM at h0; split at h0 <;> omega
    subst hn
    decide
  · rw [if_neg h0]
    have hn0 : 0 < n := by
      rcases Nat.eq_zero_or_pos n with hz | hz
      · subst hz; exact absurd (by decide) h0
      · exact hz
    obtain ⟨_, k1, k2, k3⟩ := nearS (atM n) (by omega) (atM_lt n)
    have a1 := atE_lo n
    have a2 := atE_hi n h
    rw [readD _ _ k1 k2 (by omega) (by omega)]
    have hw : Ieee.single.write (.number false (atM n * 2 ^ (52 - (atM n).log2)) (((atM n).log2 : Int) + atE n - 52)) = n := toSingle n hn0 h
    simp only [hw]
    obtain ⟨m, up, hr, _⟩ := read_num n (by unfold rungN; omega)
    rw [hr]
    rfl

end Go.Proofs.YtnjbdaonmgadaaaGreatDoor

