/- A whole number as the nearest real: its neighbours, its order, what it is as a whole number again. -/
import Derived.Test.YtnjbdaonmgadaaaGreatDoorWhI
namespace Go.Proofs.YtnjbdaonmgadaaaGreatDoor
open Go.RowKit Go.PlainAid

theorem valN_at (d m : Nat) (h1 : 8388608 ≤ m) (h2 : m ≤ 16777216) : valN (d * 8388608 + m) = m * 2 ^ d := by
  unfold valN
  rw [if_neg (by omega)]
  by_cases h : m = 16777216
  · rw [h, show (d * 8388608 + 16777216) % 8388608 = 0 by omega, show (d * 8388608 + 16777216) / 8388608 - 1 = d + 1 by omega, Nat.pow_succ, Nat.mul_comm (2 ^ d) 2, ← Nat.mul_assoc]
  · rw [show (d * 8388608 + m) % 8388608 = m - 8388608 by omega, show (d * 8388608 + m) / 8388608 - 1 = d by omega, show 8388608 + (m - 8388608) = m by omega]

/-- between the rung ahead and the one behind the nearest -/
theorem near_all (X : Nat) (h : 23 ≤ X.log2) (hinf : rndR X < 2139095040) :
    (valN (rndR X) < X → X < valN (rndR X + 1)) ∧ (X < valN (rndR X) → valN (rndR X - 1) < X) ∧ (X % 2 ^ (X.log2 - 23) = 0 → valN (rndR X) = X) := by
  have hX : X ≠ 0 := by intro e; rw [e] at h; exact absurd h (by decide)
  have low := @rnd_low X h
  have top := @rnd_top X
  have e : rndR X = (X.log2 - 23) * 8388608 + rne X (X.log2 - 23) := by
    unfold rndR at hinf ⊢; omega
  have hL : X < 2 ^ (X.log2 + 1) := Nat.lt_log2_self
  have hq : X / 2 ^ (X.log2 - 23) < 16777216 := by
    rw [Nat.div_lt_iff_lt_mul (Nat.two_pow_pos _), show (16777216 : Nat) = 2 ^ 24 by decide, ← Nat.pow_add, show 24 + (X.log2 - 23) = X.log2 + 1 by omega]
    exact hL
  have hz : 8388608 ≤ X / 2 ^ (X.log2 - 23) := by
    rw [Nat.le_div_iff_mul_le (Nat.two_pow_pos _), show (8388608 : Nat) = 2 ^ 23 by decide, ← Nat.pow_add, show 23 + (X.log2 - 23) = X.log2 by omega]
    exact Nat.log2_self_le hX
  have hm : rne X (X.log2 - 23) = X / 2 ^ (X.log2 - 23) + (rneB X (X.log2 - 23)).toNat := rfl
  have hdm := Nat.div_add_mod X (2 ^ (X.log2 - 23))
  have hR : X % 2 ^ (X.log2 - 23) < 2 ^ (X.log2 - 23) := Nat.mod_lt _ (Nat.two_pow_pos _)
  have hb : (rneB X (X.log2 - 23)) = true → 0 < X % 2 ^ (X.log2 - 23) := by
    unfold rneB
    simp only [Bool.or_eq_true, decide_eq_true_eq, Bool.and_eq_true, beq_iff_eq]
    have := Nat.two_pow_pos (X.log2 - 23)
    rintro (h | ⟨h, _⟩) <;> omega
  rw [e]
  clear hL h hinf e
  generalize X.log2 - 23 = d at *
  rw [valN_at d _ low top]
  generalize rne X d = m at *
  generalize rneB X d = b at *
  generalize hZ : X / 2 ^ d = Z at *
  generalize hRR : X % 2 ^ d = R at *
  generalize ht : 2 ^ d = t at *
  refine ⟨fun h => ?_, fun h => ?_, fun h => ?_⟩
  · rw [show d * 8388608 + m + 1 = d * 8388608 + (m + 1) by omega]
    have hbf : b = false := by
      cases b
      · rfl
      · simp at hm
        rw [hm, Nat.add_mul, Nat.one_mul, Nat.mul_comm] at h
        omega
    rw [hbf] at hm
    simp at hm
    rw [hm, valN_at d (Z + 1) (by omega) (by omega), ht, Nat.add_mul, Nat.one_mul, Nat.mul_comm Z t]
    omega
  · have hbt : b = true := by
      cases b
      · simp at hm
        rw [hm, Nat.mul_comm] at h
        omega
      · rfl
    have hR0 := hb hbt
    rw [hbt] at hm
    simp at hm
    rw [hm, show d * 8388608 + (Z + 1) - 1 = d * 8388608 + Z by omega, valN_at d Z (by omega) (by omega), ht, Nat.mul_comm Z t]
    omega
  · have hbf : b = false := by
      cases b
      · rfl
      · have := hb rfl; omega
    rw [hbf] at hm
    simp at hm
    rw [hm, Nat.mul_comm]
    omega

/-- the worth of 1 -/
def P149 : Nat := 2 ^ 149
theorem rnd_big : rndR (9223372036854775808 * P149) = 1593835520 := by decide
theorem p149_pos : 0 < P149 := by decide

/-- a whole number that isn't 0 and its rung -/
theorem near_whole (N : Nat) (h0 : 0 < N) (h1 : N ≤ 9223372036854775808) :
    0 < rndR (N * P149) ∧ rndR (N * P149) ≤ 1593835520 ∧ (valN (rndR (N * P149)) < N * P149 → N * P149 < valN (rndR (N * P149) + 1)) ∧ (N * P149 < valN (rndR (N * P149)) → valN (rndR (N * P149) - 1) < N * P149) ∧ (N ≤ 16777216 → valN (rndR (N * P149)) = N * P149) := by
  have hpos : 0 < N * P149 := Nat.mul_pos h0 p149_pos
  have hl : (N * P149).log2 = N.log2 + 149 := log2_scale N 149 h0
  have hb : rndR (N * P149) ≤ 1593835520 := by
    rw [← rnd_big]; exact rndR_mono (Nat.mul_le_mul_right _ h1)
  obtain ⟨a1, a2, a3⟩ := near_all (N * P149) (by omega) (by omega)
  refine ⟨rndR_pos hpos, hb, a1, a2, fun h => a3 ?_⟩
  rw [hl]
  have h3 : N < 2 ^ (N.log2 + 1) := Nat.lt_log2_self
  have h4 : 2 ^ N.log2 ≤ N := Nat.log2_self_le (by omega)
  by_cases hN : N = 16777216
  · rw [hN]; decide
  · have h5 : N.log2 < 24 := by rw [Nat.log2_lt (by omega)]; omega
    have e : P149 = 2 ^ (149 - (N.log2 + 149 - 23)) * 2 ^ (N.log2 + 149 - 23) := by
      unfold P149
      rw [← Nat.pow_add]; congr 1; omega
    rw [e, ← Nat.mul_assoc]
    exact Nat.mul_mod_left _ _
theorem fromI_p (n : Int) : fromI n = if n < 0 then rndR (n.natAbs * P149) + 2147483648 else rndR (n.natAbs * P149) := by
  unfold fromI P149
  by_cases h : n < 0
  · rw [if_pos h, if_pos (decide_eq_true h)]
  · rw [if_neg h, if_neg (by simpa using h)]
theorem sval_pos (r : Nat) (h : r < 2147483648) : svalZ r = (valN r : Int) := by
  unfold svalZ rungN
  rw [if_neg (by omega), Nat.mod_eq_of_lt h]
theorem sval_neg (r : Nat) (h : r < 2147483648) : svalZ (r + 2147483648) = -(valN r : Int) := by
  unfold svalZ rungN
  rw [if_pos (by omega), show (r + 2147483648) % 2147483648 = r by omega]
theorem nan_pos (r : Nat) (h : r ≤ 2139095040) : nanB r = false := by unfold nanB; simp; omega
theorem nan_neg (r : Nat) (h : r ≤ 2139095040) : nanB (r + 2147483648) = false := by unfold nanB; simp; omega
theorem key_pos (r : Nat) (h : r ≤ 2139095040) : keyN r = r + 2147483648 := by
  unfold keyN; rw [nan_pos r h, if_neg (by simp), if_neg (by omega)]
theorem key_neg (r : Nat) (h : r ≤ 2139095040) : keyN (r + 2147483648) = 2147483647 - r := by
  unfold keyN; rw [nan_neg r h, if_neg (by simp), if_pos (by omega)]; omega
theorem from_pos (r : Nat) (h : r ≤ 2139095040) : fromN (r + 2147483648) = r := by
  have e : bitsK (r + 2147483648) = r := by unfold bitsK; rw [if_pos (by omega)]; omega
  unfold fromN; rw [e, nan_pos r h, if_neg (by simp)]
theorem from_neg (r : Nat) (h : r ≤ 2139095040) : fromN (2147483647 - r) = r + 2147483648 := by
  have e : bitsK (2147483647 - r) = r + 2147483648 := by unfold bitsK; rw [if_neg (by omega)]; omega
  unfold fromN; rw [e, nan_neg r h, if_neg (by simp)]
theorem up_pos (r : Nat) (h : r < 2139095040) : nextN r true = r + 1 := by
  unfold nextN
  rw [if_pos rfl, key_pos r (by omega), show r + 2147483648 + 1 = (r + 1) + 2147483648 by omega, from_pos _ (by omega)]
theorem down_pos (r : Nat) (h0 : 0 < r) (h : r < 2139095040) : nextN r false = r - 1 := by
  unfold nextN
  rw [if_neg (by simp), key_pos r (by omega), if_neg (by omega), if_neg (by omega), show r + 2147483648 - 1 = (r - 1) + 2147483648 by omega, from_pos _ (by omega)]
theorem up_neg (r : Nat) (h0 : 0 < r) (h : r < 2139095040) : nextN (r + 2147483648) true = r - 1 + 2147483648 := by
  unfold nextN
  rw [if_pos rfl, key_neg r (by omega), show 2147483647 - r + 1 = 2147483647 - (r - 1) by omega, from_neg _ (by omega)]
theorem down_neg (r : Nat) (h : r < 2139095040) : nextN (r + 2147483648) false = r + 1 + 2147483648 := by
  unfold nextN
  rw [if_neg (by simp), key_neg r (by omega), if_neg (by omega), if_neg (by omega), show 2147483647 - r - 1 = 2147483647 - (r + 1) by omega, from_neg _ (by omega)]
theorem up_zero : nextN 0 true = 1 := by decide
theorem down_zero : nextN 0 false = 2147483648 := by decide

/-- what the statement on whole numbers asks of one -/
structure WhA (n : Int) (x : Nat) : Prop where
  lt : x < 4294967296
  na : nanB x = false
  nu : nanB (nextN x true) = false
  nd : nanB (nextN x false) = false
  lu : nextN x true < 4294967296
  ld : nextN x false < 4294967296
  up : svalZ x < n * (P149 : Nat) → n * (P149 : Nat) < svalZ (nextN x true)
  down : n * (P149 : Nat) < svalZ x → svalZ (nextN x false) < n * (P149 : Nat)
  small : n.natAbs ≤ 16777216 → svalZ x = n * (P149 : Nat)
  rung : rungN x < 2139095040
theorem whole_math (n : Int) (h1 : -9223372036854775808 ≤ n) (h2 : n ≤ 9223372036854775807) : WhA n (fromI n) := by
  rw [fromI_p]
  by_cases h0 : n = 0
  · subst h0
    rw [if_neg (by omega), show (0 : Int).natAbs * P149 = 0 by simp, rndR_zero]
    exact ⟨by decide, by decide, by decide, by decide, by decide, by decide, fun h => absurd h (by decide), fun h => absurd h (by decide), fun _ => by decide, by decide⟩
  · obtain ⟨a1, a2, a3, a4, a5⟩ := near_whole n.natAbs (by omega) (by omega)
    generalize hr : rndR (n.natAbs * P149) = r at *
    by_cases hn : n < 0
    · have en : n * (P149 : Nat) = -((n.natAbs * P149 : Nat) : Int) := by
        rw [Int.natCast_mul, show ((n.natAbs : Nat) : Int) = -n by omega, Int.neg_mul, Int.neg_neg]
      rw [if_pos hn]
      refine ⟨by omega, nan_neg r (by omega), by rw [up_neg r a1 (by omega)]; exact nan_neg _ (by omega), by rw [down_neg r (by omega)]; exact nan_neg _ (by omega), by rw [up_neg r a1 (by omega)]; omega, by rw [down_neg r (by omega)]; omega, fun h => ?_, fun h => ?_, fun h => ?_, by unfold rungN; omega⟩
      · rw [en, up_neg r a1 (by omega), sval_neg _ (by omega)]
        rw [en, sval_neg r (by omega)] at h
        have := a4 (by omega)
        omega
      · rw [en, down_neg r (by omega), sval_neg _ (by omega)]
        rw [en, sval_neg r (by omega)] at h
        have := a3 (by omega)
        omega
      · rw [en, sval_neg r (by omega), a5 h]
    · have en : n * (P149 : Nat) = ((n.natAbs * P149 : Nat) : Int) := by
        rw [Int.natCast_mul, show ((n.natAbs : Nat) : Int) = n by omega]
      rw [if_neg hn]
      refine ⟨by omega, nan_pos r (by omega), by rw [up_pos r (by omega)]; exact nan_pos _ (by omega), by rw [down_pos r a1 (by omega)]; exact nan_pos _ (by omega), by rw [up_pos r (by omega)]; omega, by rw [down_pos r a1 (by omega)]; omega, fun h => ?_, fun h => ?_, fun h => ?_, by unfold rungN; omega⟩
      · rw [en, up_pos r (by omega), sval_pos _ (by omega)]
        rw [en, sval_pos r (by omega)] at h
        have := a3 (by omega)
        omega
      · rw [en, down_pos r a1 (by omega), sval_pos _ (by omega)]
        rw [en, sval_pos r (by omega)] at h
        have := a4 (by omega)
        omega
      · rw [en, sval_pos r (by omega), a5 h]

theorem key_fromI (n : Int) (h1 : -9223372036854775808 ≤ n) (h2 : n ≤ 9223372036854775807) : ((keyN (fromI n) : Nat) : Int) = if n < 0 then 2147483647 - (rndR (n.natAbs * P149) : Int) else 2147483648 + (rndR (n.natAbs * P149) : Int) := by
  have hr : rndR (n.natAbs * P149) ≤ 1593835520 := by
    rw [← rnd_big]; exact rndR_mono (Nat.mul_le_mul_right _ (by omega))
  rw [fromI_p]
  generalize rndR (n.natAbs * P149) = r at *
  unfold keyN
  by_cases hn : n < 0
  · rw [if_pos hn, if_pos hn, nan_neg r (by omega), if_neg (by simp), if_pos (by omega)]; omega
  · rw [if_neg hn, if_neg hn, nan_pos r (by omega), if_neg (by simp), if_neg (by omega)]; omega
theorem key_mono (n m : Int) (h1 : -9223372036854775808 ≤ n) (h2 : n ≤ 9223372036854775807) (h3 : -9223372036854775808 ≤ m) (h4 : m ≤ 9223372036854775807) (h : n ≤ m) : (keyN (fromI n) : Int) ≤ keyN (fromI m) := by
  rw [key_fromI n h1 h2, key_fromI m h3 h4]
  by_cases hn : n < 0
  · by_cases hm : m < 0
    · have := rndR_mono (Nat.mul_le_mul_right P149 (show m.natAbs ≤ n.natAbs by omega))
      rw [if_pos hn, if_pos hm]; omega
    · rw [if_pos hn, if_neg hm]; omega
  · have := rndR_mono (Nat.mul_le_mul_right P149 (show n.natAbs ≤ m.natAbs by omega))
    rw [if_neg hn, if_neg (show ¬ m < 0 by omega)]; omega
/-- what it is as a whole number -/
theorem toI_small (n : Int) (x : Nat) (h : WhA n x) (h1 : -16777216 ≤ n) (h2 : n ≤ 16777216) : toI x = (n, true) := by
  have e := h.small (by omega)
  have hp := p149_pos
  have hw : wholeZ x = n := by
    have e2 : wholeZ x = if x / 2147483648 % 2 = 1 then -((valN (rungN x) / P149 : Nat) : Int) else ((valN (rungN x) / P149 : Nat) : Int) := rfl
    rw [e2]
    unfold svalZ at e
    generalize valN (rungN x) = v at *
    generalize P149 = p at *
    have hv : v = n.natAbs * p := by
      have e3 : ((v : Nat) : Int).natAbs = (n * (p : Int)).natAbs := by
        rw [← e]; split <;> simp
      rw [Int.natAbs_mul] at e3
      simpa using e3
    rw [hv, Nat.mul_div_cancel _ hp]
    rw [hv] at e
    split
    · rename_i hs
      rw [if_pos hs] at e
      have : (-(n.natAbs : Int)) * (p : Int) = n * (p : Int) := by rw [← e, Int.natCast_mul, Int.neg_mul]
      exact Int.eq_of_mul_eq_mul_right (by omega) this
    · rename_i hs
      rw [if_neg hs] at e
      have : ((n.natAbs : Nat) : Int) * (p : Int) = n * (p : Int) := by rw [← e, Int.natCast_mul]
      exact Int.eq_of_mul_eq_mul_right (by omega) this
  unfold toI
  rw [if_pos]
  · rw [hw]
  · rw [hw]
    exact ⟨h.rung, e, by omega, by omega⟩
theorem cmpI_mul (k n : Int) (p : Nat) (hp : 0 < p) : cmpI (k * p) (n * p) = cmpI k n := by
  have h1 : k * (p : Int) < n * p ↔ k < n := Int.mul_lt_mul_right (by omega)
  have h2 : n * (p : Int) < k * p ↔ n < k := Int.mul_lt_mul_right (by omega)
  unfold cmpI
  simp only [h1, h2]
/-- c, whole and k go together -/
theorem toI_cmp (n : Int) (x : Nat) (h : (toI x).2 = true) : cmpI (svalZ x) (n * (P149 : Nat)) = cmpI (toI x).1 n := by
  unfold toI at h ⊢
  split at h
  · rename_i hh
    rw [if_pos hh]
    have : svalZ x = wholeZ x * ((P149 : Nat) : Int) := hh.2.1
    rw [this]
    exact cmpI_mul _ _ _ p149_pos
  · cases h
end Go.Proofs.YtnjbdaonmgadaaaGreatDoor
