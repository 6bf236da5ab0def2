/- The bound of a product: cut at 2^62, whatever the order in which the factors come. -/
import Derived.Test.YtbfcmfmfoknnnaaRows
import Derived.ProofKit
import Derived.Handy
import Derived.PlainAid
namespace Go.Proofs.Ytbfcmfmfoknnnaa
open Go.RowKit Go.PlainAid

/-- a product, but no more than 2^62 -/
def capN (a b : Nat) : Nat := if 4611686018427387904 / b < a then 4611686018427387904 else a * b
theorem capN_min (a b : Nat) (hb : 0 < b) : capN a b = min 4611686018427387904 (a * b) := by
  unfold capN
  split
  · rename_i h
    have := (Nat.div_lt_iff_lt_mul hb).1 h
    omega
  · rename_i h
    have := (Nat.le_div_iff_mul_le hb).1 (Nat.le_of_not_lt h)
    omega
theorem min_mul (C a b : Nat) (hb : 0 < b) : min C (min C a * b) = min C (a * b) := by
  by_cases h : a ≤ C
  · rw [Nat.min_eq_right h]
  · have h1 : min C a = C := by omega
    have h2 : C ≤ C * b := Nat.le_mul_of_pos_right _ hb
    have h3 : C * b ≤ a * b := Nat.mul_le_mul_right _ (by omega)
    rw [h1]; omega
theorem mul_min (C a b : Nat) (ha : 0 < a) : min C (a * min C b) = min C (a * b) := by
  rw [Nat.mul_comm, min_mul C b a ha, Nat.mul_comm]
theorem min_le_right2 (C a : Nat) (h : C ≤ a) : min C a = C := by omega
theorem capN_two (p f : Nat) (hf : 0 < f) : capN (capN p f) f = min 4611686018427387904 (p * f * f) := by
  rw [capN_min p f hf, capN_min _ f hf, min_mul _ _ _ hf]
/-- three factors, one behind the other -/
def cap3 (p f : Nat) : Nat := capN (capN (capN p f) f) f
def cap4 (p f : Nat) : Nat := capN (cap3 p f) f
theorem cap3_min (p f : Nat) (hf : 0 < f) : cap3 p f = min 4611686018427387904 (p * f * f * f) := by
  unfold cap3
  rw [capN_two p f hf, capN_min _ f hf, min_mul _ _ _ hf]
theorem cap4_min (p f : Nat) (hf : 0 < f) : cap4 p f = min 4611686018427387904 (p * f * f * f * f) := by
  unfold cap4
  rw [cap3_min p f hf, capN_min _ f hf, min_mul _ _ _ hf]
/-- the program's -/
def fN (n : Nat) : Nat := min n 4611686018427387904 + 2
def bndP (n m : Nat) : Nat := cap3 (cap3 16 (fN n)) (fN m)
def lstP (n m : Nat) : Nat := cap4 (cap3 16 (fN n)) (fN m)
/-- the document's -/
def moreN (n : Nat) : Nat := min n 8388608 + 2
def thirdN (x : Nat) : Nat := if 4194304 < x then 4611686018427387904 else capN (capN x x) x
def bndR (n m : Nat) : Nat := capN (capN 16 (thirdN (moreN n))) (thirdN (moreN m))
def lstR (n m : Nat) : Nat := if 8388608 < m then 4611686018427387904 else capN (bndR n m) (m + 2)
theorem third_pos (x : Nat) (hx : 0 < x) : 0 < thirdN x := by
  unfold thirdN
  split
  · omega
  · rw [capN_min _ _ hx, capN_min _ _ hx, min_mul _ _ _ hx]
    have : 0 < x * x * x := Nat.mul_pos (Nat.mul_pos hx hx) hx
    omega
theorem cube_big (f : Nat) (h : 4194304 < f) : 4611686018427387904 ≤ f * f * f := by
  have h1 : 4194304 * 4194304 ≤ f * f := Nat.mul_le_mul (by omega) (by omega)
  have h2 : 4194304 * 4194304 * 4194304 ≤ f * f * f := Nat.mul_le_mul h1 (by omega)
  omega
/-- a number's third power, behind another factor, both ways -/
theorem third_is (a n : Nat) (ha : 0 < a) : min 4611686018427387904 (a * thirdN (moreN n)) = min 4611686018427387904 (a * fN n * fN n * fN n) := by
  by_cases h : n ≤ 4194302
  · have e1 : moreN n = n + 2 := by unfold moreN; omega
    have e2 : fN n = n + 2 := by unfold fN; omega
    have hp : 0 < n + 2 := by omega
    rw [e1, e2]
    unfold thirdN
    rw [if_neg (by omega), capN_min _ _ hp, capN_min _ _ hp, min_mul _ _ _ hp, mul_min _ _ _ ha]
    simp only [Nat.mul_assoc]
  · have e1 : thirdN (moreN n) = 4611686018427387904 := by
      unfold thirdN moreN
      rw [if_pos (by omega)]
    have hf : 4194304 < fN n := by unfold fN; omega
    have h3 := cube_big _ hf
    rw [e1, min_le_right2 _ (a * 4611686018427387904) (Nat.le_mul_of_pos_left _ ha), Nat.mul_assoc, Nat.mul_assoc, ← Nat.mul_assoc (fN n)]
    rw [min_le_right2]
    exact Nat.le_trans h3 (Nat.le_mul_of_pos_left _ ha)
theorem fN_pos (n : Nat) : 0 < fN n := by unfold fN; omega
theorem moreN_pos (n : Nat) : 0 < moreN n := by unfold moreN; omega
theorem first_is (n : Nat) : capN 16 (thirdN (moreN n)) = cap3 16 (fN n) := by
  rw [capN_min _ _ (third_pos _ (moreN_pos n)), cap3_min _ _ (fN_pos n), third_is 16 n (by decide)]
theorem cap3_pos (p f : Nat) (hp : 0 < p) (hf : 0 < f) : 0 < cap3 p f := by
  rw [cap3_min p f hf]
  have : 0 < p * f * f * f := Nat.mul_pos (Nat.mul_pos (Nat.mul_pos hp hf) hf) hf
  omega
theorem bnd_is (n m : Nat) : bndR n m = bndP n m := by
  unfold bndR bndP
  rw [first_is, capN_min _ _ (third_pos _ (moreN_pos m)), cap3_min _ _ (fN_pos m), third_is _ m (cap3_pos _ _ (by decide) (fN_pos n))]
theorem lst_is (n m : Nat) : lstR n m = lstP n m := by
  unfold lstR
  rw [bnd_is]
  by_cases h : 8388608 < m
  · rw [if_pos h]
    unfold lstP
    rw [cap4_min _ _ (fN_pos m), min_le_right2]
    have hp := cap3_pos 16 (fN n) (by decide) (fN_pos n)
    have hf : 4194304 < fN m := by unfold fN; omega
    have h3 := cube_big _ hf
    generalize cap3 16 (fN n) = p at *
    generalize fN m = f at *
    rw [Nat.mul_assoc p, Nat.mul_assoc p, Nat.mul_assoc p]
    have : f * f * f ≤ f * f * f * f := Nat.le_mul_of_pos_right _ (by omega)
    exact Nat.le_trans (Nat.le_trans h3 this) (Nat.le_mul_of_pos_left _ hp)
  · rw [if_neg h]
    have e : fN m = m + 2 := by unfold fN; omega
    unfold lstP bndP cap4
    rw [e]
theorem capN_le (a b : Nat) (hb : 0 < b) : capN a b ≤ 4611686018427387904 := by
  rw [capN_min a b hb]; omega
theorem third_le (x : Nat) (hx : 0 < x) : thirdN x ≤ 4611686018427387904 := by
  unfold thirdN
  split
  · exact Nat.le_refl _
  · exact capN_le _ _ hx
end Go.Proofs.Ytbfcmfmfoknnnaa
