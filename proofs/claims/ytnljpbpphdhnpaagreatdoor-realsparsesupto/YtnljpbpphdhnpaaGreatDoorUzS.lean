/- Doublings and halvings of reals of 64 bits, exact; the way from there to 32 bits. -/
import Derived.Test.YtnljpbpphdhnpaaGreatDoorSameR
import Derived.Test.YtnljpbpphdhnpaaGreatDoorBigG
import Derived.Test.YtnljpbpphdhnpaaGreatDoorPfD
import Derived.Test.YtnljpbpphdhnpaaGreatDoorUsE

namespace Go.Proofs.YtnljpbpphdhnpaaGreatDoor
open Go.RowKit Go.PlainAid Go.Lib

/-- the bits of M * 2^(E - 52), M with 53 digits -/
def wD (M : Nat) (E : Int) : Nat := (E + 1022).toNat * 4503599627370496 + M

theorem dconsts : Ieee.double.binade = 4503599627370496 ∧ Ieee.double.infRung = 9218868437227405312 ∧ Ieee.double.leastPlace = -1074 ∧ Ieee.double.signWeight = 9223372036854775808 := by decide

theorem log2_eq {n k : Nat} (h1 : 2 ^ k ≤ n) (h2 : n < 2 ^ (k + 1)) : n.log2 = k := by
  have h0 : n ≠ 0 := by have := Nat.two_pow_pos k; omega
  have a1 : n.log2 < k + 1 := (Nat.log2_lt h0).2 h2
  have a2 : ¬ n.log2 < k := fun h => by have := (Nat.log2_lt h0).1 h; omega
  omega

theorem cut_exact (s : Bool) (M t L : Nat) (_hM : 0 < M) (hL : (M * 2 ^ t).log2 = L) (ht : t ≤ L + 2) : Ieee.Toward.cut .even s (M * 2 ^ t) t = M := by
  have hp : 0 < 2 ^ t := Nat.two_pow_pos t
  unfold Ieee.Toward.cut
  simp only [Nat.one_shiftLeft, hL]
  rw [Nat.min_eq_left ht, Nat.mul_div_cancel _ hp, Nat.mul_mod_left]
  have h1 : decide (2 ^ t < 2 * 0) = false := by simp
  have h2 : (2 ^ t == 2 * 0) = false := by simp
  rw [h1, h2]
  rfl

theorem nearD (M t : Nat) (E place : Int) (h1 : 4503599627370496 ≤ M) (h2 : M < 9007199254740992) (hE : place + 52 + t = E) (lo : -1022 ≤ E) (hi : E ≤ 1023) : Ieee.double.nearest false (M * 2 ^ t) place = wD M E := by
  obtain ⟨c1, c2, c3, c4⟩ := dconsts
  have hp : 0 < 2 ^ t := Nat.two_pow_pos t
  have hlog : (M * 2 ^ t).log2 = 52 + t := by
    apply log2_eq
    · rw [Nat.pow_add]; exact Nat.mul_le_mul_right _ h1
    · rw [show 52 + t + 1 = 53 + t by omega, Nat.pow_add]; exact Nat.mul_lt_mul_of_pos_right h2 hp
  have hne : M * 2 ^ t ≠ 0 := by
    have := Nat.mul_pos (show 0 < M by omega) hp
    omega
  unfold Ieee.Format.nearest
  rw [if_neg hne]
  simp only [c1, c2, c3, hlog, show Ieee.double.fractionBits = 52 from rfl]
  rw [show max (place + ((52 + t : Nat) : Int) - ((52 : Nat) : Int)) (-1074) = place + t by omega]
  rw [show (place - (place + (t : Int))).toNat = 0 by omega, show (place + (t : Int) - place).toNat = t by omega, Nat.shiftLeft_eq, Nat.pow_zero, Nat.mul_one]
  rw [cut_exact false M t (52 + t) (by omega) hlog (by omega)]
  rw [show (place + (t : Int) - -1074).toNat = (E + 1022).toNat by omega]
  unfold Ieee.Format.word wD
  simp only [Bool.false_eq_true, if_false]
  rw [Nat.min_eq_left]
  have : (E + 1022).toNat ≤ 2045 := by omega
  omega

/-- a small whole number as a real of 64 bits -/
theorem nearS (m : Nat) (h0 : 0 < m) (hm : m < 16777216) : Ieee.double.nearest false m 0 = wD (m * 2 ^ (52 - m.log2)) (m.log2 : Int) ∧ 4503599627370496 ≤ m * 2 ^ (52 - m.log2) ∧ m * 2 ^ (52 - m.log2) < 9007199254740992 ∧ m.log2 ≤ 23 := by
  obtain ⟨c1, c2, c3, c4⟩ := dconsts
  have hlo : 2 ^ m.log2 ≤ m := Nat.log2_self_le (by omega)
  have hhi : m < 2 ^ (m.log2 + 1) := Nat.lt_log2_self
  have hL : m.log2 < 24 := (Nat.log2_lt (by omega)).2 hm
  generalize hl : m.log2 = L at hlo hhi hL
  have k1 : 2 ^ L * 2 ^ (52 - L) ≤ m * 2 ^ (52 - L) := Nat.mul_le_mul_right _ hlo
  rw [← Nat.pow_add, show L + (52 - L) = 52 by omega] at k1
  have k2 : m * 2 ^ (52 - L) < 2 ^ (L + 1) * 2 ^ (52 - L) := Nat.mul_lt_mul_of_pos_right hhi (Nat.two_pow_pos _)
  rw [← Nat.pow_add, show L + 1 + (52 - L) = 53 by omega] at k2
  refine ⟨?_, k1, k2, by omega⟩
  unfold Ieee.Format.nearest
  rw [if_neg (by omega)]
  simp only [c1, c2, c3, hl, show Ieee.double.fractionBits = 52 from rfl]
  rw [show max ((0 : Int) + (L : Int) - ((52 : Nat) : Int)) (-1074) = (L : Int) - 52 by omega]
  rw [show ((0 : Int) - ((L : Int) - 52)).toNat = 52 - L by omega, show (((L : Int) - 52) - 0).toNat = 0 by omega, Nat.shiftLeft_eq]
  have hcut : Ieee.Toward.cut .even false (m * 2 ^ (52 - L)) 0 = m * 2 ^ (52 - L) := by
    unfold Ieee.Toward.cut
    simp [Nat.mod_one]
  rw [hcut, show (((L : Int) - 52) - -1074).toNat = ((L : Int) + 1022).toNat by omega]
  unfold Ieee.Format.word wD
  simp only [Bool.false_eq_true, if_false]
  rw [Nat.min_eq_left]
  have : ((L : Int) + 1022).toNat ≤ 1046 := by omega
  have k3 : m * 2 ^ (52 - L) < 9007199254740992 := k2
  omega

theorem readD (M : Nat) (E : Int) (h1 : 4503599627370496 ≤ M) (h2 : M < 9007199254740992) (lo : -1022 ≤ E) (hi : E ≤ 1023) : Ieee.double.read (wD M E) = .number false M (E - 52) := by
  obtain ⟨c1, c2, c3, c4⟩ := dconsts
  obtain ⟨q, hq⟩ : ∃ q : Nat, (E + 1022).toNat = q := ⟨_, rfl⟩
  have hq2 : q ≤ 2045 := by omega
  unfold wD
  rw [hq]
  unfold Ieee.Format.read
  simp only [c1, c2, c3, c4]
  rw [show (q * 4503599627370496 + M) % 9223372036854775808 = q * 4503599627370496 + M by omega, show (q * 4503599627370496 + M) / 9223372036854775808 % 2 = 0 by omega]
  rw [if_neg (by omega), if_pos (by omega), show (q * 4503599627370496 + M) % 4503599627370496 = M - 4503599627370496 by omega, show (q * 4503599627370496 + M) / 4503599627370496 - 1 = q by omega]
  rw [show 4503599627370496 + (M - 4503599627370496) = M by omega, show (-1074 : Int) + (q : Int) = E - 52 by omega]
  rfl

theorem read2 : Ieee.double.read 4611686018427387904 = .number false 4503599627370496 (-51) := by decide

theorem mul2 (M : Nat) (E : Int) (h1 : 4503599627370496 ≤ M) (h2 : M < 9007199254740992) (lo : -1022 ≤ E) (hi : E ≤ 1022) : Ieee.double.mul (wD M E) 4611686018427387904 = some (wD M (E + 1)) := by
  unfold Ieee.Format.mul
  rw [readD M E h1 h2 lo (by omega), read2]
  simp only [Ieee.Datum.product, Option.map_some, Ieee.Format.write]
  congr 1
  exact nearD M 52 (E + 1) _ h1 h2 (by omega) (by omega) (by omega)

theorem div2 (M : Nat) (E : Int) (h1 : 4503599627370496 ≤ M) (h2 : M < 9007199254740992) (lo : -1021 ≤ E) (hi : E ≤ 1023) : Ieee.double.div (wD M E) 4611686018427387904 = some (wD M (E - 1)) := by
  unfold Ieee.Format.div
  rw [readD M E h1 h2 (by omega) hi, read2]
  have hlM : M.log2 = 52 := log2_eq h1 h2
  have hl2 : (4503599627370496 : Nat).log2 = 52 := by decide
  simp only [Ieee.Datum.quotient, hlM, hl2, show Ieee.double.fractionBits = 52 from rfl]
  rw [if_neg (by decide)]
  simp only [Option.map_some, Ieee.Format.write, Nat.shiftLeft_eq]
  congr 1
  have e1 : M * 2 ^ (52 + 2 + 52 - 52) / 4503599627370496 = M * 4 := by
    rw [show M * 2 ^ (52 + 2 + 52 - 52) = M * 4 * 4503599627370496 by rw [Nat.mul_assoc]]
    exact Nat.mul_div_cancel _ (by omega)
  have e2 : M * 2 ^ (52 + 2 + 52 - 52) % 4503599627370496 = 0 := by
    rw [show M * 2 ^ (52 + 2 + 52 - 52) = M * 4 * 4503599627370496 by rw [Nat.mul_assoc]]
    exact Nat.mul_mod_left _ _
  rw [e1, e2]
  rw [show 2 * (M * 4) + ((0 : Nat) != 0).toNat = M * 2 ^ 3 by simp; omega]
  exact nearD M 3 (E - 1) _ h1 h2 (by omega) (by omega) (by omega)

theorem div0 : Ieee.double.div 0 4611686018427387904 = some 0 := by decide

/-- what a rung of 32 bits is worth, and the way back from 64 bits -/
def atM (n : Nat) : Nat := if n < 8388608 then n else 8388608 + n % 8388608
def atE (n : Nat) : Int := if n < 8388608 then -149 else (n / 8388608 : Nat) - 150

theorem toSingle (n : Nat) (h0 : 0 < n) (hn : n < 2139095040) : Ieee.single.nearest false (atM n * 2 ^ (52 - (atM n).log2)) (((atM n).log2 : Int) + atE n - 52) = n := by
  have e2 : Ieee.single.binade = 8388608 := by decide
  have e3 : Ieee.single.infRung = 2139095040 := by decide
  have e4 : Ieee.single.leastPlace = -149 := by decide
  have hm0 : 0 < atM n := by unfold atM; split <;> omega
  have hm1 : atM n < 16777216 := by unfold atM; split <;> omega
  obtain ⟨_, k1, k2, k3⟩ := nearS (atM n) hm0 hm1
  generalize hL : (atM n).log2 = L at k1 k2 k3
  have hlog : (atM n * 2 ^ (52 - L)).log2 = 52 := log2_eq k1 k2
  unfold Ieee.Format.nearest
  rw [if_neg (by omega)]
  simp only [e2, e3, e4, hlog, show Ieee.single.fractionBits = 23 from rfl]
  by_cases hs : n < 8388608
  · have hE : atE n = -149 := by unfold atE; rw [if_pos hs]
    have hM : atM n = n := by unfold atM; rw [if_pos hs]
    have hL22 : L ≤ 22 := by
      rw [← hL, hM]
      have := (Nat.log2_lt (show n ≠ 0 by omega)).2 (show n < 2 ^ 23 from hs)
      omega
    rw [hE]
    rw [show max ((L : Int) + -149 - 52 + ((52 : Nat) : Int) - ((23 : Nat) : Int)) (-149) = -149 by omega]
    rw [show ((L : Int) + -149 - 52 - -149).toNat = 0 by omega, show ((-149 : Int) - ((L : Int) + -149 - 52)).toNat = 52 - L by omega, Nat.shiftLeft_eq, Nat.pow_zero, Nat.mul_one]
    rw [cut_exact false (atM n) (52 - L) 52 hm0 hlog (by omega), hM]
    unfold Ieee.Format.word
    simp
    omega
  · have hE : atE n = (n / 8388608 : Nat) - 150 := by unfold atE; rw [if_neg hs]
    have hM : atM n = 8388608 + n % 8388608 := by unfold atM; rw [if_neg hs]
    have hL23 : L = 23 := by
      rw [← hL, hM]
      exact log2_eq (by omega) (by omega)
    subst hL23
    rw [hE]
    rw [show max (((23 : Nat) : Int) + (((n / 8388608 : Nat) : Int) - 150) - 52 + ((52 : Nat) : Int) - ((23 : Nat) : Int)) (-149) = ((n / 8388608 : Nat) : Int) - 150 by omega]
    rw [show (((23 : Nat) : Int) + (((n / 8388608 : Nat) : Int) - 150) - 52 - (((n / 8388608 : Nat) : Int) - 150)).toNat = 0 by omega, show ((((n / 8388608 : Nat) : Int) - 150) - (((23 : Nat) : Int) + (((n / 8388608 : Nat) : Int) - 150) - 52)).toNat = 29 by omega, Nat.shiftLeft_eq, Nat.pow_zero, Nat.mul_one]
    rw [cut_exact false (atM n) 29 52 hm0 hlog (by omega), hM]
    rw [show ((((n / 8388608 : Nat) : Int) - 150) - -149).toNat = n / 8388608 - 1 by omega]
    unfold Ieee.Format.word
    simp only [Bool.false_eq_true, if_false]
    rw [Nat.min_eq_left] <;> omega

end Go.Proofs.YtnljpbpphdhnpaaGreatDoor



/- The mathematics of the document's Nearest: the float below a number, and the nearer one of it and the next, is what rounding to the nearest gives. -/
namespace Go.Proofs.YtnljpbpphdhnpaaGreatDoor

theorem valN_succ (n : Nat) : valN (n + 1) = valN n + (if n < 8388608 then 1 else 2 ^ (n / 8388608 - 1)) := by
  unfold valN
  by_cases h1 : n < 8388608
  · rw [if_pos h1, if_pos h1]
    by_cases h2 : n + 1 < 8388608
    · rw [if_pos h2]
    · have : n = 8388607 := by omega
      subst this
      rfl
  · rw [if_neg h1, if_neg h1, if_neg (by omega)]
    by_cases h2 : n % 8388608 = 8388607
    · have e1 : (n + 1) % 8388608 = 0 := by omega
      have e2 : (n + 1) / 8388608 - 1 = (n / 8388608 - 1) + 1 := by omega
      rw [e1, e2, h2, Nat.pow_succ]
      generalize 2 ^ (n / 8388608 - 1) = p
      omega
    · have e1 : (n + 1) % 8388608 = n % 8388608 + 1 := by omega
      have e2 : (n + 1) / 8388608 - 1 = n / 8388608 - 1 := by omega
      rw [e1, e2, ← Nat.add_assoc, Nat.succ_mul]

/-- n is the float below V, in units of the least one -/
def Low (V n : Nat) : Prop := n ≤ 2139095040 ∧ valN n ≤ V ∧ (n = 2139095040 ∨ V < valN (n + 1))
def upB (V2 S n : Nat) : Bool := decide (S < V2) || (decide (V2 = S) && decide (n % 2 = 1))
def nearN (V n : Nat) : Nat := if n = 2139095040 then n else if upB (2 * V) (valN n + valN (n + 1)) n = true then n + 1 else n

theorem floor_rung (V : Nat) : valN ((V.log2 - 23) * 8388608 + V / 2 ^ (V.log2 - 23)) = V / 2 ^ (V.log2 - 23) * 2 ^ (V.log2 - 23) ∧
    valN ((V.log2 - 23) * 8388608 + V / 2 ^ (V.log2 - 23) + 1) = (V / 2 ^ (V.log2 - 23) + 1) * 2 ^ (V.log2 - 23) := by
  rw [valN_succ]
  by_cases h0 : V = 0
  · subst h0; decide
  have l1 : 2 ^ V.log2 ≤ V := Nat.log2_self_le h0
  have l2 : V < 2 ^ (V.log2 + 1) := Nat.lt_log2_self
  by_cases hd : V.log2 ≤ 23
  · have e0 : V.log2 - 23 = 0 := by omega
    have hV : V < 16777216 := Nat.lt_of_lt_of_le l2 (Nat.le_trans (Nat.pow_le_pow_right (by decide) (show V.log2 + 1 ≤ 24 by omega)) (by decide))
    rw [e0]
    simp only [Nat.zero_mul, Nat.zero_add, Nat.pow_zero, Nat.div_one, Nat.mul_one]
    have hv : valN V = V := by
      unfold valN
      split
      · rfl
      · rw [show V / 8388608 - 1 = 0 by omega]; omega
    rw [hv]
    refine ⟨rfl, ?_⟩
    split
    · rfl
    · rw [show V / 8388608 - 1 = 0 by omega]
  · generalize hdd : V.log2 - 23 = d at *
    have hlog : V.log2 = d + 23 := by omega
    rw [hlog] at l1 l2
    rw [Nat.pow_add] at l1
    rw [show d + 23 + 1 = d + 24 by omega, Nat.pow_add] at l2
    have hp : 0 < 2 ^ d := Nat.two_pow_pos d
    have t1 : 8388608 ≤ V / 2 ^ d := (Nat.le_div_iff_mul_le hp).2 (by rw [Nat.mul_comm]; exact l1)
    have t2 : V / 2 ^ d < 16777216 := (Nat.div_lt_iff_lt_mul hp).2 (by rw [Nat.mul_comm]; exact l2)
    generalize V / 2 ^ d = t at *
    have hv : valN (d * 8388608 + t) = t * 2 ^ d := by
      unfold valN
      rw [if_neg (by omega), show (d * 8388608 + t) % 8388608 = t - 8388608 by omega, show (d * 8388608 + t) / 8388608 - 1 = d by omega]
      rw [show 8388608 + (t - 8388608) = t by omega]
    rw [hv]
    refine ⟨rfl, ?_⟩
    rw [if_neg (by omega), show (d * 8388608 + t) / 8388608 - 1 = d by omega, Nat.succ_mul]

theorem floor_at (V d : Nat) (hd : V.log2 - 23 = d) : ∃ L, L = d * 8388608 + V / 2 ^ d ∧ valN L = V / 2 ^ d * 2 ^ d ∧ valN (L + 1) = (V / 2 ^ d + 1) * 2 ^ d := by
  subst hd
  exact ⟨_, rfl, floor_rung V⟩

theorem near_rnd (V n : Nat) (h : Low V n) : nearN V n = rndR V := by
  obtain ⟨h1, h2, h3⟩ := h
  unfold rndR rne rneB nearN upB
  generalize hd : V.log2 - 23 = d
  obtain ⟨L, hL, f1, f2⟩ := floor_at V d hd
  have hp : 0 < 2 ^ d := Nat.two_pow_pos d
  have hdm := Nat.div_add_mod V (2 ^ d)
  have hlt := Nat.mod_lt V hp
  generalize hpp : 2 ^ d = p at *
  generalize V / p = t at *
  generalize V % p = r at *
  rw [Nat.mul_comm] at hdm
  have hV1 : valN L ≤ V := by rw [f1]; omega
  have hV2 : V < valN (L + 1) := by rw [f2, Nat.succ_mul]; omega
  have hadd : ∀ b : Nat, d * 8388608 + (t + b) = L + b := fun b => by rw [hL]; omega
  rw [hadd]
  have a1 : n < L + 1 := valN_iff.1 (Nat.lt_of_le_of_lt h2 hV2)
  by_cases ho : n = 2139095040
  · rw [if_pos ho]
    generalize (decide (p < 2 * r) || p == 2 * r && t % 2 == 1).toNat = b
    rw [Nat.min_eq_right (by omega)]
    exact ho
  · rw [if_neg ho]
    have h3' : V < valN (n + 1) := by rcases h3 with h | h; exact absurd h ho; exact h
    have a2 : L < n + 1 := valN_iff.1 (Nat.lt_of_le_of_lt hV1 h3')
    have hn : n = L := by omega
    have h1' : L + 1 ≤ 2139095040 := by omega
    have e3 : decide (L % 2 = 1) = (t % 2 == 1) := by
      by_cases hx : t % 2 = 1
      · rw [show (t % 2 == 1) = true by simpa using hx, decide_eq_true (by omega)]
      · rw [show (t % 2 == 1) = false by simpa using hx, decide_eq_false (by omega)]
    clear hL hadd h1 ho a1 a2 h3 h3' hV1 hV2
    subst hn
    rw [f1, f2, e3]
    have e1 : decide (t * p + (t + 1) * p < 2 * V) = decide (p < 2 * r) := by
      rw [Nat.succ_mul t p, ← hdm]
      apply decide_eq_decide.2
      generalize t * p = q
      omega
    have e2 : decide (2 * V = t * p + (t + 1) * p) = (p == 2 * r) := by
      rw [Nat.succ_mul t p, ← hdm]
      generalize t * p = q
      by_cases hx : p = 2 * r
      · rw [show (p == 2 * r) = true by simpa using hx, decide_eq_true (by omega)]
      · rw [show (p == 2 * r) = false by simpa using hx, decide_eq_false (by omega)]
    rw [e1, e2]
    generalize (decide (p < 2 * r) || p == 2 * r && t % 2 == 1) = b
    cases b
    · rw [if_neg (by decide), Nat.min_eq_left (by simp; omega)]; rfl
    · rw [if_pos rfl, Nat.min_eq_left (by simp; omega)]; rfl

theorem cmp_scale (a b s : Nat) (hs : 0 < s) : cmpI ((a * s : Nat) : Int) ((b * s : Nat) : Int) = cmpI (a : Nat) (b : Nat) := by
  unfold cmpI
  rcases Nat.lt_trichotomy a b with h | h | h
  · have := Nat.mul_lt_mul_of_pos_right h hs
    rw [if_pos (by omega), if_pos (by omega)]
  · subst h
    rw [if_neg (by omega), if_neg (by omega), if_neg (by omega), if_neg (by omega)]
  · have := Nat.mul_lt_mul_of_pos_right h hs
    rw [if_neg (by omega), if_pos (by omega), if_neg (by omega), if_pos (by omega)]

theorem against_val (A B n : Nat) : cmpI ((A * 2 ^ (-(atE n)).toNat : Nat) : Int) ((atM n * 2 ^ (atE n).toNat * B : Nat) : Int) = cmpI ((A * 2 ^ 149 : Nat) : Int) ((valN n * B : Nat) : Int) := by
  unfold atE atM valN
  by_cases h : n < 8388608
  · rw [if_pos h, if_pos h, if_pos h]
    simp
  · rw [if_neg h, if_neg h, if_neg h]
    have hk : 1 ≤ n / 8388608 := by omega
    generalize n / 8388608 = k at *
    generalize 8388608 + n % 8388608 = m
    by_cases hk2 : k ≤ 150
    · rw [show (-((k : Int) - 150)).toNat = 150 - k by omega, show ((k : Int) - 150).toNat = 0 by omega, ← cmp_scale _ _ (2 ^ (k - 1)) (Nat.two_pow_pos _)]
      have e1 : A * 2 ^ (150 - k) * 2 ^ (k - 1) = A * 2 ^ 149 := by rw [Nat.mul_assoc, ← Nat.pow_add, show 150 - k + (k - 1) = 149 by omega]
      have e2 : m * 2 ^ 0 * B * 2 ^ (k - 1) = m * 2 ^ (k - 1) * B := by rw [Nat.pow_zero, Nat.mul_one, Nat.mul_assoc, Nat.mul_comm B, ← Nat.mul_assoc]
      rw [e1, e2]
    · rw [show (-((k : Int) - 150)).toNat = 0 by omega, show ((k : Int) - 150).toNat = k - 150 by omega, ← cmp_scale _ _ (2 ^ 149) (Nat.two_pow_pos _)]
      have e2 : m * 2 ^ (k - 150) * B * 2 ^ 149 = m * 2 ^ (k - 1) * B := by
        rw [Nat.mul_assoc, Nat.mul_comm B, ← Nat.mul_assoc, Nat.mul_assoc m, ← Nat.pow_add, show k - 150 + 149 = k - 1 by omega]
      rw [e2, Nat.pow_zero, Nat.mul_one]

theorem against_half (A B n : Nat) : cmpI ((A * 2 ^ (-(atE n - 1)).toNat : Nat) : Int) (((2 * atM n + 1) * 2 ^ (atE n - 1).toNat * B : Nat) : Int) = cmpI ((2 * (A * 2 ^ 149) : Nat) : Int) (((valN n + valN (n + 1)) * B : Nat) : Int) := by
  rw [valN_succ]
  have eA : 2 * (A * 2 ^ 149) = A * 2 ^ 150 := by rw [Nat.mul_comm, Nat.mul_assoc, ← Nat.pow_succ]
  rw [eA]
  unfold atE atM valN
  by_cases h : n < 8388608
  · rw [if_pos h, if_pos h, if_pos h, if_pos h]
    rw [show (-((-149 : Int) - 1)).toNat = 150 from rfl, show ((-149 : Int) - 1).toNat = 0 from rfl, Nat.pow_zero, Nat.mul_one, show 2 * n + 1 = n + (n + 1) by omega]
  · rw [if_neg h, if_neg h, if_neg h, if_neg h]
    have hk : 1 ≤ n / 8388608 := by omega
    generalize n / 8388608 = k at *
    generalize 8388608 + n % 8388608 = m
    have eS : m * 2 ^ (k - 1) + (m * 2 ^ (k - 1) + 2 ^ (k - 1)) = (2 * m + 1) * 2 ^ (k - 1) := by
      rw [Nat.add_mul, Nat.mul_assoc]; omega
    rw [eS]
    generalize 2 * m + 1 = m2
    by_cases hk2 : k ≤ 151
    · rw [show (-((k : Int) - 150 - 1)).toNat = 151 - k by omega, show ((k : Int) - 150 - 1).toNat = 0 by omega, ← cmp_scale _ _ (2 ^ (k - 1)) (Nat.two_pow_pos _)]
      have e1 : A * 2 ^ (151 - k) * 2 ^ (k - 1) = A * 2 ^ 150 := by rw [Nat.mul_assoc, ← Nat.pow_add, show 151 - k + (k - 1) = 150 by omega]
      have e2 : m2 * 2 ^ 0 * B * 2 ^ (k - 1) = m2 * 2 ^ (k - 1) * B := by rw [Nat.pow_zero, Nat.mul_one, Nat.mul_assoc, Nat.mul_comm B, ← Nat.mul_assoc]
      rw [e1, e2]
    · rw [show (-((k : Int) - 150 - 1)).toNat = 0 by omega, show ((k : Int) - 150 - 1).toNat = k - 151 by omega, ← cmp_scale _ _ (2 ^ 150) (Nat.two_pow_pos _)]
      have e2 : m2 * 2 ^ (k - 151) * B * 2 ^ 150 = m2 * 2 ^ (k - 1) * B := by
        rw [Nat.mul_assoc, Nat.mul_comm B, ← Nat.mul_assoc, Nat.mul_assoc m2, ← Nat.pow_add, show k - 151 + 150 = k - 1 by omega]
      rw [e2, Nat.pow_zero, Nat.mul_one]
end Go.Proofs.YtnljpbpphdhnpaaGreatDoor


/- The real of a number: the steps from its digits in 64 bits to its 32 bits. -/
namespace Go.Proofs.YtnljpbpphdhnpaaGreatDoor
open Go.RowKit Go.PlainAid Go.Lib

/-- the digits of the rung n, k doublings on, in 64 bits -/
def fD (n : Nat) (k : Int) : Nat := if atM n = 0 then 0 else wD (atM n * 2 ^ (52 - (atM n).log2)) (((atM n).log2 : Int) + k)

theorem atM_lt (n : Nat) : atM n < 16777216 := by unfold atM; split <;> omega
theorem atE_lo (n : Nat) : -149 ≤ atE n := by unfold atE; split <;> omega
theorem atE_hi (n : Nat) (h : n < 2139095040) : atE n ≤ 104 := by unfold atE; split <;> omega

theorem fD_start (n : Nat) : floatOfInt .f64 ((atM n : Nat) : Int) = fD n 0 := by
  show Ieee.double.nearest (decide (((atM n : Nat) : Int) < 0)) ((atM n : Nat) : Int).natAbs 0 = _
  rw [show decide (((atM n : Nat) : Int) < 0) = false by simp, Int.natAbs_natCast]
  unfold fD
  by_cases h : atM n = 0
  · rw [if_pos h, h]; decide
  · rw [if_neg h, (nearS (atM n) (by omega) (atM_lt n)).1, Int.add_zero]

theorem fD_mul (n : Nat) (k : Int) (h0 : 0 ≤ k) (h1 : k < 104) : floatBits .mul .f64 (fD n k) 4611686018427387904 = some (fD n (k + 1)) := by
  show Ieee.double.mul _ _ = _
  unfold fD
  by_cases h : atM n = 0
  · rw [if_pos h, if_pos h]; decide
  · rw [if_neg h, if_neg h]
    obtain ⟨_, k1, k2, k3⟩ := nearS (atM n) (by omega) (atM_lt n)
    rw [mul2 _ _ k1 k2 (by omega) (by omega), Int.add_assoc]

theorem fD_div (n : Nat) (k : Int) (h0 : -149 ≤ k) (h1 : k ≤ 104) : floatBits .quo .f64 (fD n k) 4611686018427387904 = some (fD n (k - 1)) := by
  show Ieee.double.div _ _ = _
  unfold fD
  by_cases h : atM n = 0
  · rw [if_pos h, if_pos h]; decide
  · rw [if_neg h, if_neg h]
    obtain ⟨_, k1, k2, k3⟩ := nearS (atM n) (by omega) (atM_lt n)
    rw [div2 _ _ k1 k2 (by omega) (by omega)]
    congr 2
    omega

theorem fD_end (n : Nat) (h : n < 2139095040) : floatToFloatBits .f64 (fD n (atE n)) .f32 = some n := by
  unfold floatToFloatBits
  rw [if_neg (by decide)]
  show (match Ieee.double.read (fD n (atE n)) with | .nan _ _ => none | .infinity s => some (Ieee.single.write (.infinity s)) | .number s m e => if (Ieee.single.read (Ieee.single.write (.number s m e))).isInfinity then none else some (Ieee.single.write (.number s m e))) = _
  unfold fD
  by_cases h0 : atM n = 0
  · have hn : n = 0 := by unfold atM at h0; split at h0 <;> omega
    subst hn
    decide
  · rw [if_neg h0]
    have hn0 : 0 < n := by
      rcases Nat.eq_zero_or_pos n with hz | hz
      · subst hz; exact absurd (by decide) h0
      · exact hz
    obtain ⟨_, k1, k2, k3⟩ := nearS (atM n) (by omega) (atM_lt n)
    have a1 := atE_lo n
    have a2 := atE_hi n h
    rw [readD _ _ k1 k2 (by omega) (by omega)]
    have hw : Ieee.single.write (.number false (atM n * 2 ^ (52 - (atM n).log2)) (((atM n).log2 : Int) + atE n - 52)) = n := toSingle n hn0 h
    simp only [hw]
    obtain ⟨m, up, hr, _⟩ := read_num n (by unfold rungN; omega)
    rw [hr]
    rfl

end Go.Proofs.YtnljpbpphdhnpaaGreatDoor



/- The reference's At and Float: the real of a number. -/
namespace Go.Proofs.YtnljpbpphdhnpaaGreatDoor
open Go.RowKit Go.PlainAid Go.Lib

theorem at_any (n : Nat) (h : n < 2139095040) (w : World) : Calls Tryz.prog 41 #[.int .u32 (n : Int)] w fun e w' => e = .returned (.tuple #[.int .u64 (atM n : Nat), .int .i64 (atE n)]) ∧ w' = w := by
  by_cases hs : n < 8388608
  · have h1 : (n : Int) < 8388608 := by omega
    have hM : atM n = n := by unfold atM; rw [if_pos hs]
    have hE : atE n = -149 := by unfold atE; rw [if_pos hs]
    rw [hM, hE]
    go_enter Tryz.func41, Tryz.ntmps41
    go_wp2
    go_ret2
    refine ⟨?_, rfl⟩
    go_num
  · have h1 : ¬ (n : Int) < 8388608 := by omega
    have hM : atM n = 8388608 + n % 8388608 := by unfold atM; rw [if_neg hs]
    have hE : atE n = (n / 8388608 : Nat) - 150 := by unfold atE; rw [if_neg hs]
    rw [hM, hE]
    go_enter Tryz.func41, Tryz.ntmps41
    go_wp2
    go_ret2
    refine ⟨?_, rfl⟩
    go_num


theorem u64f64 (m : Nat) (w : World) : (convert 65 80 (.int .u64 (m : Int))).run Tryz.prog w = .ok (.float .f64 (floatOfInt .f64 (m : Int))) w := run_convert_int_float w 65 80 .u64 .f64 m (by kernel_rfl) Tryz.underlying80

theorem neg_low (n : Nat) (h : n < 2147483648) : Op.negFloat .f32 n = n + 2147483648 := by
  show n ^^^ 2147483648 = _
  rw [show (2147483648 : Nat) = 2 ^ 31 from rfl]
  have h2 : n ^^^ 2 ^ 31 = n ||| 2 ^ 31 := by
    apply Nat.eq_of_testBit_eq
    intro i
    rw [Nat.testBit_xor, Nat.testBit_or, Nat.testBit_two_pow]
    by_cases hi : 31 = i
    · subst hi
      rw [Nat.testBit_lt_two_pow (show n < 2 ^ 31 from h)]
      rfl
    · rw [show decide (31 = i) = false by simpa using hi]
      cases n.testBit i <;> rfl
  have h3 := Nat.two_pow_add_eq_or_of_lt (show n < 2 ^ 31 from h) 1
  rw [Nat.mul_one] at h3
  rw [h2, Nat.or_comm, ← h3]
  omega

set_option maxHeartbeats 1600000 in
theorem float_low (neg : Bool) (n : Nat) (h : n < 2139095040) (w : World) : Calls Tryz.prog 32 #[.bool neg, .int .u32 (n : Int)] w fun e w' => e = .returned (.float .f32 (if neg then n + 2147483648 else n)) ∧ w' = w := by
  have hA := at_any n h
  have h1 : ¬ (2139095040 ≤ (n : Int)) := by omega
  have hc := u64f64 (atM n)
  rw [fD_start] at hc
  have hm : ∀ (k : Int), 0 ≤ k → k < 104 → ∀ w, (binOp .mul 80 (.float .f64 (fD n k)) (.float .f64 4611686018427387904)).run Tryz.prog w = .ok (.float .f64 (fD n (k + 1))) w := fun k p q w => run_float_arith w .mul 80 .f64 _ _ _ (fD_mul n k p q)
  have hd : ∀ (k : Int), -149 ≤ k → k ≤ 104 → ∀ w, (binOp .quo 80 (.float .f64 (fD n k)) (.float .f64 4611686018427387904)).run Tryz.prog w = .ok (.float .f64 (fD n (k - 1))) w := fun k p q w => run_float_arith w .quo 80 .f64 _ _ _ (fD_div n k p q)
  have he : ∀ w, (convert 80 22 (.float .f64 (fD n (atE n)))).run Tryz.prog w = .ok (.float .f32 n) w := fun w => run_convert_float_float w 80 22 .f64 .f32 _ _ (by kernel_rfl) Tryz.underlying22 (fD_end n h)
  have hn := neg_low n (by omega)
  have a1 := atE_lo n
  have a2 := atE_hi n h
  generalize atE n = E at *
  generalize atM n = M at *
  generalize fD n = F at *
  have HM : Hid (∀ (k : Int), 0 ≤ k → k < 104 → ∀ w, (binOp .mul 80 (.float .f64 (F k)) (.float .f64 4611686018427387904)).run Tryz.prog w = .ok (.float .f64 (F (k + 1))) w) := hm
  have HD : Hid (∀ (k : Int), -149 ≤ k → k ≤ 104 → ∀ w, (binOp .quo 80 (.float .f64 (F k)) (.float .f64 4611686018427387904)).run Tryz.prog w = .ok (.float .f64 (F (k - 1))) w) := hd
  have HE : Hid (∀ w, (convert 80 22 (.float .f64 (F E))).run Tryz.prog w = .ok (.float .f32 n) w) := he
  have HN : Hid (Op.negFloat .f32 n = n + 2147483648) := hn
  clear hm hd he hn h
  go_enter Tryz.func32, Tryz.ntmps32
  go_wp2_with (first | (go_at_call 41; refine (hA _).mono ?_; rintro e9 w9 ⟨rfl, hw9⟩; obtain rfl := hw9.symm))
  go_loop [9, 10] (fun fv iv => ∃ k : Nat, iv = .int .i64 (k : Int) ∧ fv = .float .f64 (F (k : Int)) ∧ (k = 0 ∨ (k : Int) ≤ E)) (fun _ iv => (E - RowKit.intOf iv).toNat)
  case atStart => exact ⟨0, rfl, rfl, .inl rfl⟩
  case round =>
    obtain ⟨k, rfl, rfl, hk⟩ := hrel
    by_cases hlt : (k : Int) < E
    · have hmk := HM.out (k : Int) (by omega) (by omega)
      go_wp2
      go_round
      case rel => exact ⟨k + 1, by go_num, rfl, .inr (by omega)⟩
      case measure => simp [RowKit.intOf]; omega
    · go_wp2
      go_loop [9, 11] (fun fv iv => ∃ i : Int, iv = .int .i64 i ∧ E ≤ i ∧ (i ≤ 0 ∨ i = E) ∧ fv = .float .f64 (F ((k : Int) + E - i))) (fun _ iv => (- RowKit.intOf iv).toNat)
      case atStart => exact ⟨E, rfl, by omega, .inr rfl, by rw [show (k : Int) + E - E = k by omega]⟩
      case round =>
        obtain ⟨i, rfl, hi1, hi2, rfl⟩ := hrel
        by_cases hi : i < 0
        · have hdk := HD.out ((k : Int) + E - i) (by omega) (by omega)
          go_wp2
          go_round
          case rel => exact ⟨i + 1, by go_num, by omega, .inl (by omega), by rw [show (k : Int) + E - i - 1 = k + E - (i + 1) by omega]⟩
          case measure => simp [RowKit.intOf]; omega
        · have hce := HE.out
          rw [show (k : Int) + E - i = E by omega]
          have hng : ∀ w, (Op.unary .neg (.float .f32 n)).run Tryz.prog w = .ok (.float .f32 (n + 2147483648)) w := fun w => by
            show (pure (Value.float .f32 (Op.negFloat .f32 n)) : Sem Value).run Tryz.prog w = _
            rw [HN.out]
            rfl
          cases neg
          · go_wp2
            go_ret
            exact ⟨rfl, rfl⟩
          · go_wp2
            go_ret
            exact ⟨rfl, rfl⟩

end Go.Proofs.YtnljpbpphdhnpaaGreatDoor


/- The reference's Float at every number, Number, IsNan, Below, Same. -/
namespace Go.Proofs.YtnljpbpphdhnpaaGreatDoor
open Go.RowKit Go.PlainAid Go.Lib

set_option maxHeartbeats 1600000 in
theorem float_over (neg : Bool) (n : Nat) (h : 2139095040 ≤ n) (w : World) : Calls Tryz.prog 32 #[.bool neg, .int .u32 (n : Int)] w fun e w' => e = .returned (.float .f32 (if neg then 4286578688 else 2139095040)) ∧ w' = w := by
  have h1 : 2139095040 ≤ (n : Int) := by omega
  have hq : ∀ w, (binOp .quo 22 (.float .f32 1065353216) (.float .f32 0)).run Tryz.prog w = .ok (.float .f32 2139095040) w := fun w => run_float_arith w .quo 22 .f32 _ _ _ (by decide)
  have hng : ∀ w, (Op.unary .neg (.float .f32 2139095040)).run Tryz.prog w = .ok (.float .f32 4286578688) w := fun w => rfl
  cases neg
  · go_enter Tryz.func32, Tryz.ntmps32
    go_wp2
    go_ret
    exact ⟨rfl, rfl⟩
  · go_enter Tryz.func32, Tryz.ntmps32
    go_wp2
    go_ret
    exact ⟨rfl, rfl⟩

/-- Float of a number up to the infinite one's -/
theorem float_any (neg : Bool) (n : Nat) (h : n ≤ 2139095040) (w : World) : Calls Tryz.prog 32 #[.bool neg, .int .u32 (n : Int)] w fun e w' => e = .returned (.float .f32 (if neg then n + 2147483648 else n)) ∧ w' = w := by
  by_cases h1 : n < 2139095040
  · exact float_low neg n h1 w
  · obtain rfl : n = 2139095040 := by omega
    exact float_over neg _ (Nat.le_refl _) w

theorem rlt_any (a b : Nat) (ha : rungN a ≤ 2139095040) (hb : rungN b ≤ 2139095040) : (FloatKind.f32.format.order a b == some Ordering.lt) = decide (srungZ a < srungZ b) := by
  show (Ieee.single.order a b == some Ordering.lt) = _
  rw [order_any, if_neg (by omega)]
  rcases Int.lt_trichotomy (srungZ a) (srungZ b) with h | h | h
  · rw [show compare (srungZ a) (srungZ b) = .lt from Int.compare_eq_lt.2 h, show decide (srungZ a < srungZ b) = true by simpa using h]; rfl
  · rw [show compare (srungZ a) (srungZ b) = .eq from Int.compare_eq_eq.2 h, show decide (srungZ a < srungZ b) = false by simp; omega]; rfl
  · rw [show compare (srungZ a) (srungZ b) = .gt from Int.compare_eq_gt.2 h, show decide (srungZ a < srungZ b) = false by simp; omega]; rfl

theorem req_any (a b : Nat) (ha : rungN a ≤ 2139095040) (hb : rungN b ≤ 2139095040) : (FloatKind.f32.format.order a b == some Ordering.eq) = decide (srungZ a = srungZ b) := by
  show (Ieee.single.order a b == some Ordering.eq) = _
  rw [order_any, if_neg (by omega)]
  rcases Int.lt_trichotomy (srungZ a) (srungZ b) with h | h | h
  · rw [show compare (srungZ a) (srungZ b) = .lt from Int.compare_eq_lt.2 h, show decide (srungZ a = srungZ b) = false by simp; omega]; rfl
  · rw [show compare (srungZ a) (srungZ b) = .eq from Int.compare_eq_eq.2 h, show decide (srungZ a = srungZ b) = true by simpa using h]; rfl
  · rw [show compare (srungZ a) (srungZ b) = .gt from Int.compare_eq_gt.2 h, show decide (srungZ a = srungZ b) = false by simp; omega]; rfl

theorem neg_high (n : Nat) (h : 2147483648 ≤ n) (h2 : n < 4294967296) : Op.negFloat .f32 n = n - 2147483648 := by
  have h3 := neg_low (n - 2147483648) (by omega)
  have h4 : n - 2147483648 + 2147483648 = n := by omega
  rw [h4] at h3
  have h5 : Op.negFloat .f32 n = Op.negFloat .f32 (Op.negFloat .f32 (n - 2147483648)) := by rw [h3]
  rw [h5]
  show (n - 2147483648) ^^^ 2147483648 ^^^ 2147483648 = _
  rw [Nat.xor_assoc, Nat.xor_self, Nat.xor_zero]

theorem srung_low (n : Nat) (h : n < 2147483648) : srungZ n = n ∧ rungN n = n := by
  unfold srungZ rungN
  rw [if_neg (by omega)]
  omega

/-- the halving: a real without sign -/
theorem half_step (lo hi : Nat) (h1 : lo < hi) (h2 : hi ≤ 2139095041) (hd : 1 < hi - lo) : lo < lo + (hi - lo) / 2 ∧ lo + (hi - lo) / 2 < hi := by omega

set_option maxHeartbeats 3200000 in
theorem number_any (x : Nat) (hx : x < 4294967296) (hn : nanB x = false) (w : World) : Calls Tryz.prog 19 #[.float .f32 x] w fun e w' => e = .returned (.int .u32 (rungN x : Nat)) ∧ w' = w := by
  have hr : rungN x ≤ 2139095040 := by simpa [nanB, rungN] using hn
  have hlt := rlt_any x 0 hr (by decide)
  rw [(srung_low 0 (by decide)).1] at hlt
  have key : ∀ y : Nat, rungN y = rungN x → srungZ y = (rungN x : Nat) → ∀ m : Nat, m ≤ 2139095040 → (FloatKind.f32.format.order m y == some Ordering.lt) = decide (m < rungN x) ∧ (FloatKind.f32.format.order m y == some Ordering.eq) = decide (m = rungN x) := fun y h1 h2 m hm => by
    have p1 : rungN m ≤ 2139095040 := by rw [(srung_low m (by omega)).2]; exact hm
    rw [rlt_any m y p1 (by rw [h1]; exact hr), req_any m y p1 (by rw [h1]; exact hr), (srung_low m (by omega)).1, h2]
    constructor
    · simp
    · simp; omega
  have hF := fun (m : Nat) (hm : m ≤ 2139095040) => float_any false m hm
  simp only [Bool.false_eq_true, if_false] at hF
  by_cases hb : srungZ x < ((0 : Nat) : Int)
  · have hx2 : 2147483648 ≤ x := by
      unfold srungZ at hb
      split at hb <;> omega
    have hng : ∀ w, (Op.unary .neg (.float .f32 x)).run Tryz.prog w = .ok (.float .f32 (x - 2147483648)) w := fun w => by
      show (pure (Value.float .f32 (Op.negFloat .f32 x)) : Sem Value).run Tryz.prog w = _
      rw [neg_high x hx2 hx]
      rfl
    have k2 := key (x - 2147483648) (by unfold rungN; omega) (by rw [(srung_low _ (by omega)).1]; unfold rungN; omega)
    rw [show decide (srungZ x < ((0 : Nat) : Int)) = true by simpa using hb] at hlt
    have HK : Hid (∀ m : Nat, m ≤ 2139095040 → (FloatKind.f32.format.order m (x - 2147483648) == some Ordering.lt) = decide (m < rungN x) ∧ (FloatKind.f32.format.order m (x - 2147483648) == some Ordering.eq) = decide (m = rungN x)) := k2
    clear key hb hx2 k2 hn
    generalize rungN x = r at *
    generalize x - 2147483648 = y at *
    have HF : Hid (∀ (m : Nat), m ≤ 2139095040 → ∀ (w : World), Calls Tryz.prog 32 #[.bool false, .int .u32 (m : Int)] w fun e w' => e = .returned (.float .f32 m) ∧ w' = w) := hF
    clear hF
    go_enter Tryz.func19, Tryz.ntmps19
    go_wp2
    go_loop [3, 4] (fun lv hv => ∃ lo hi : Nat, lv = .int .u32 (lo : Int) ∧ hv = .int .u32 (hi : Int) ∧ lo ≤ r ∧ r < hi ∧ hi ≤ 2139095041) (fun lv hv => (RowKit.intOf hv - RowKit.intOf lv).toNat)
    case atStart => exact ⟨0, 2139095041, rfl, rfl, Nat.zero_le _, by omega, Nat.le_refl _⟩
    case round =>
      obtain ⟨lo, hi, rfl, rfl, l1, l2, l3⟩ := hrel
      by_cases hd : lo + 1 < hi
      · have hdi : 1 < (hi : Int) - lo := by omega
        obtain ⟨m, hmid⟩ : ∃ m : Nat, m = lo + (hi - lo) / 2 := ⟨_, rfl⟩
        have hfm := HF.out m (by omega)
        obtain ⟨k1, k2⟩ := HK.out m (by omega)
        have hmz : (m : Int) = (lo : Int) + ((hi : Int) - lo) / 2 := by omega
        have HZ : Hid ((m : Int) = (lo : Int) + ((hi : Int) - lo) / 2 ∧ lo < m ∧ m < hi) := ⟨hmz, by omega, by omega⟩
        rw [hmz] at hfm
        clear hmz hmid
        rcases Nat.lt_trichotomy m r with hle | hle | hle
        · rw [show decide (m < r) = true by simpa using hle] at k1
          clear k2
          go_wp2_with (go_at_call 32; refine (hfm _).mono ?_; rintro e9 w9 ⟨rfl, hw9⟩; obtain rfl := hw9.symm)
          go_round
          case rel => exact ⟨m, hi, by rw [HZ.out.1], rfl, by omega, l2, l3⟩
          case measure => have := HZ.out; simp only [RowKit.intOf]; omega
        · rw [show decide (m < r) = false by simp; omega] at k1
          rw [show decide (m = r) = true by simpa using hle] at k2
          have HL : Hid (m = r) := hle
          clear hle
          go_wp2_with (go_at_call 32; refine (hfm _).mono ?_; rintro e9 w9 ⟨rfl, hw9⟩; obtain rfl := hw9.symm)
          go_round
          case rel => exact ⟨m, hi, by rw [HZ.out.1], rfl, by have := HL.out; omega, l2, l3⟩
          case measure => have := HZ.out; simp only [RowKit.intOf]; omega
        · rw [show decide (m < r) = false by simp; omega] at k1
          rw [show decide (m = r) = false by simp; omega] at k2
          go_wp2_with (go_at_call 32; refine (hfm _).mono ?_; rintro e9 w9 ⟨rfl, hw9⟩; obtain rfl := hw9.symm)
          go_round
          case rel => exact ⟨lo, m, rfl, by rw [HZ.out.1], l1, by omega, by have := HZ.out; omega⟩
          case measure => have := HZ.out; simp only [RowKit.intOf]; omega
      · have hdi : ¬ 1 < (hi : Int) - lo := by omega
        obtain rfl : lo = r := by omega
        go_wp2
        go_ret
        exact ⟨rfl, rfl⟩
  · rw [show decide (srungZ x < ((0 : Nat) : Int)) = false by simpa using hb] at hlt
    have k2 := key x rfl (by unfold srungZ at hb ⊢; split at hb <;> simp_all <;> omega)
    have HK : Hid (∀ m : Nat, m ≤ 2139095040 → (FloatKind.f32.format.order m x == some Ordering.lt) = decide (m < rungN x) ∧ (FloatKind.f32.format.order m x == some Ordering.eq) = decide (m = rungN x)) := k2
    clear key hb k2 hn
    generalize rungN x = r at *
    have HF : Hid (∀ (m : Nat), m ≤ 2139095040 → ∀ (w : World), Calls Tryz.prog 32 #[.bool false, .int .u32 (m : Int)] w fun e w' => e = .returned (.float .f32 m) ∧ w' = w) := hF
    clear hF
    go_enter Tryz.func19, Tryz.ntmps19
    go_wp2
    go_loop [3, 4] (fun lv hv => ∃ lo hi : Nat, lv = .int .u32 (lo : Int) ∧ hv = .int .u32 (hi : Int) ∧ lo ≤ r ∧ r < hi ∧ hi ≤ 2139095041) (fun lv hv => (RowKit.intOf hv - RowKit.intOf lv).toNat)
    case atStart => exact ⟨0, 2139095041, rfl, rfl, Nat.zero_le _, by omega, Nat.le_refl _⟩
    case round =>
      obtain ⟨lo, hi, rfl, rfl, l1, l2, l3⟩ := hrel
      by_cases hd : lo + 1 < hi
      · have hdi : 1 < (hi : Int) - lo := by omega
        obtain ⟨m, hmid⟩ : ∃ m : Nat, m = lo + (hi - lo) / 2 := ⟨_, rfl⟩
        have hfm := HF.out m (by omega)
        obtain ⟨k1, k2⟩ := HK.out m (by omega)
        have hmz : (m : Int) = (lo : Int) + ((hi : Int) - lo) / 2 := by omega
        have HZ : Hid ((m : Int) = (lo : Int) + ((hi : Int) - lo) / 2 ∧ lo < m ∧ m < hi) := ⟨hmz, by omega, by omega⟩
        rw [hmz] at hfm
        clear hmz hmid
        rcases Nat.lt_trichotomy m r with hle | hle | hle
        · rw [show decide (m < r) = true by simpa using hle] at k1
          clear k2
          go_wp2_with (go_at_call 32; refine (hfm _).mono ?_; rintro e9 w9 ⟨rfl, hw9⟩; obtain rfl := hw9.symm)
          go_round
          case rel => exact ⟨m, hi, by rw [HZ.out.1], rfl, by omega, l2, l3⟩
          case measure => have := HZ.out; simp only [RowKit.intOf]; omega
        · rw [show decide (m < r) = false by simp; omega] at k1
          rw [show decide (m = r) = true by simpa using hle] at k2
          have HL : Hid (m = r) := hle
          clear hle
          go_wp2_with (go_at_call 32; refine (hfm _).mono ?_; rintro e9 w9 ⟨rfl, hw9⟩; obtain rfl := hw9.symm)
          go_round
          case rel => exact ⟨m, hi, by rw [HZ.out.1], rfl, by have := HL.out; omega, l2, l3⟩
          case measure => have := HZ.out; simp only [RowKit.intOf]; omega
        · rw [show decide (m < r) = false by simp; omega] at k1
          rw [show decide (m = r) = false by simp; omega] at k2
          go_wp2_with (go_at_call 32; refine (hfm _).mono ?_; rintro e9 w9 ⟨rfl, hw9⟩; obtain rfl := hw9.symm)
          go_round
          case rel => exact ⟨lo, m, rfl, by rw [HZ.out.1], l1, by omega, by have := HZ.out; omega⟩
          case measure => have := HZ.out; simp only [RowKit.intOf]; omega
      · have hdi : ¬ 1 < (hi : Int) - lo := by omega
        obtain rfl : lo = r := by omega
        go_wp2
        go_ret
        exact ⟨rfl, rfl⟩

end Go.Proofs.YtnljpbpphdhnpaaGreatDoor


/- The document's Nearest. -/
namespace Go.Proofs.YtnljpbpphdhnpaaGreatDoor
open Go.RowKit Go.PlainAid

theorem at_le (n : Nat) (h : n ≤ 2139095040) (w : World) : Calls Tryz.prog 41 #[.int .u32 (n : Int)] w fun e w' => e = .returned (.tuple #[.int .u64 (atM n : Nat), .int .i64 (atE n)]) ∧ w' = w := by
  by_cases h1 : n < 2139095040
  · exact at_any n h1 w
  · obtain rfl : n = 2139095040 := by omega
    have hM : ((atM 2139095040 : Nat) : Int) = 8388608 := by decide
    have hE : atE 2139095040 = 105 := by decide
    rw [hM, hE]
    go_enter Tryz.func41, Tryz.ntmps41
    go_wp2
    go_ret2
    exact ⟨rfl, rfl⟩
theorem at_bounds (n : Nat) (h : n ≤ 2139095040) : atM n < 16777216 ∧ -149 ≤ atE n ∧ atE n ≤ 105 := by
  unfold atM atE
  split <;> omega

/-- n is the float below A over B, or the last one -/
def LowB (A B n : Nat) : Prop := n ≤ 2139095040 ∧ valN n * B ≤ A * 2 ^ 149 ∧ (n = 2139095040 ∨ A * 2 ^ 149 < valN (n + 1) * B)
def nearB (A B n : Nat) : Nat := if n = 2139095040 then n else if upB (2 * (A * 2 ^ 149)) ((valN n + valN (n + 1)) * B) n = true then n + 1 else n

/-- how the halving stands -/
def Hal (A B lo hi : Nat) : Prop := lo < hi ∧ hi ≤ 2139095041 ∧ valN lo * B ≤ A * 2 ^ 149 ∧ (hi = 2139095041 ∨ A * 2 ^ 149 < valN hi * B)

set_option maxRecDepth 1000000 in
set_option maxHeartbeats 3200000 in
theorem nearest_any (fa fb : Value) (A B K L : Nat) (w : World) (ha : Big w fa A K) (hb : Big w fb B L) (hK : K ≤ 3000) (hL : L ≤ 3000) :
    Calls Tryz.prog 35 #[.agg #[fa, fb]] w fun r w' => ∃ n, LowB A B n ∧ r = .returned (.int .u32 ((nearB A B n : Nat) : Int)) ∧ Keep [] w w' := by
  obtain ⟨ao, na, ca, rfl⟩ := ha.sl
  obtain ⟨bo, nb, cb, rfl⟩ := hb.sl
  have hAg : ∀ (n : Nat) (wr : World), n ≤ 2139095040 → Keep [] w wr → _ := fun n wr hn kw => against_any (.slice ao na ca) (.slice bo nb cb) A B K L (atM n) (atE n) wr (ha.keep kw (Off.nil _)) (hb.keep kw (Off.nil _)) hK hL (by have := at_bounds n hn; omega) (by have := at_bounds n hn; omega) (by have := at_bounds n hn; omega)
  have hAh : ∀ (n : Nat) (wr : World), n ≤ 2139095040 → Keep [] w wr → _ := fun n wr hn kw => against_any (.slice ao na ca) (.slice bo nb cb) A B K L (2 * atM n + 1) (atE n - 1) wr (ha.keep kw (Off.nil _)) (hb.keep kw (Off.nil _)) hK hL (by have := at_bounds n hn; omega) (by have := at_bounds n hn; omega) (by have := at_bounds n hn; omega)
  simp only [against_val] at hAg
  simp only [against_half] at hAh
  have HG : Hid _ := hAg
  have HH : Hid _ := hAh
  clear hAg hAh ha hb
  go_enter Tryz.func35, Tryz.ntmps35
  go_wp2
  go_loopw [3, 4] (fun lv hv wr => ∃ lo hi : Nat, lv = .int .u32 (lo : Int) ∧ hv = .int .u32 (hi : Int) ∧ Hid (Hal A B lo hi) ∧ Hid (wr.cell? ⟨w.heap.size, 0, none⟩ = some (.slice ao na ca) ∧ wr.cell? ⟨w.heap.size, 1, none⟩ = some (.slice bo nb cb) ∧ Keep [] w wr)) (fun lv hv _ => (intOf hv - intOf lv).toNat)
  case atStart => exact ⟨0, 2139095041, rfl, rfl, (⟨by decide, Nat.le_refl _, by rw [valN_zero]; simp, .inl rfl⟩ : Hal A B 0 2139095041), (⟨by simp, by simp, Keep.alloc1 w _⟩ : _ ∧ _ ∧ _)⟩
  case round =>
    obtain ⟨lo, hi, rfl, rfl, HI, HC⟩ := hrel
    have hlh : lo < hi := HI.out.1
    have hh1 : hi ≤ 2139095041 := HI.out.2.1
    have hc0 := HC.out.1
    have hc1 := HC.out.2.1
    by_cases hd : lo + 1 < hi
    · have hdi : 1 < (hi : Int) - lo := by omega
      obtain ⟨m, hmid⟩ : ∃ m : Nat, m = lo + (hi - lo) / 2 := ⟨_, rfl⟩
      have hmle : m ≤ 2139095040 := by omega
      have hAt := at_le m hmle
      have hmz : (m : Int) = (lo : Int) + ((hi : Int) - lo) / 2 := by omega
      have HZ : Hid ((m : Int) = (lo : Int) + ((hi : Int) - lo) / 2 ∧ lo < m ∧ m < hi) := ⟨hmz, by omega, by omega⟩
      have hag := HG.out m wr hmle HC.out.2.2
      rw [hmz] at hAt
      clear hmz hmid
      have hbd := at_bounds m hmle
      have hM0 : Hid (0 ≤ (atM m : Int) ∧ (atM m : Int) ≤ 16777216) := show 0 ≤ (atM m : Int) ∧ (atM m : Int) ≤ 16777216 by omega
      by_cases hc : valN m * B ≤ A * 2 ^ 149
      · have hge : (0 : Int) ≤ cmpI ((A * 2 ^ 149 : Nat) : Int) ((valN m * B : Nat) : Int) := by unfold cmpI; split; omega; split <;> omega
        have HJ : Hid (Hal A B m hi) := (⟨HZ.out.2.2, hh1, hc, HI.out.2.2.2⟩ : Hal A B m hi)
        clear hc
        generalize cmpI ((A * 2 ^ 149 : Nat) : Int) ((valN m * B : Nat) : Int) = z at *
        generalize ((atM m : Nat) : Int) = M at *
        generalize atE m = E at *
        go_wp2_with (first
          | (go_at_call 41; refine (hAt _).mono ?_; rintro e9 w9 ⟨rfl, hw9⟩; obtain rfl := hw9.symm)
          | (go_at_call 42; refine hag.mono ?_; rintro e9 w8 ⟨rfl, hk8⟩))
        have HC2 : Hid (w8.cell? ⟨w.heap.size, 0, none⟩ = some (.slice ao na ca) ∧ w8.cell? ⟨w.heap.size, 1, none⟩ = some (.slice bo nb cb) ∧ Keep [] w w8) := ⟨hk8.cell' HC.out.1 (by simp), hk8.cell' HC.out.2.1 (by simp), HC.out.2.2.trans' hk8⟩
        clear hk8
        go_roundw
        case rel => exact ⟨m, hi, by rw [HZ.out.1], rfl, HJ, HC2⟩
        case measure => have := HZ.out; simp only [intOf]; omega
      · have hge : ¬ (0 : Int) ≤ cmpI ((A * 2 ^ 149 : Nat) : Int) ((valN m * B : Nat) : Int) := by unfold cmpI; rw [if_pos (by omega)]; decide
        have HJ : Hid (Hal A B lo m) := (⟨HZ.out.2.1, by omega, HI.out.2.2.1, .inr (by omega)⟩ : Hal A B lo m)
        clear hc
        generalize cmpI ((A * 2 ^ 149 : Nat) : Int) ((valN m * B : Nat) : Int) = z at *
        generalize ((atM m : Nat) : Int) = M at *
        generalize atE m = E at *
        go_wp2_with (first
          | (go_at_call 41; refine (hAt _).mono ?_; rintro e9 w9 ⟨rfl, hw9⟩; obtain rfl := hw9.symm)
          | (go_at_call 42; refine hag.mono ?_; rintro e9 w8 ⟨rfl, hk8⟩))
        have HC2 : Hid (w8.cell? ⟨w.heap.size, 0, none⟩ = some (.slice ao na ca) ∧ w8.cell? ⟨w.heap.size, 1, none⟩ = some (.slice bo nb cb) ∧ Keep [] w w8) := ⟨hk8.cell' HC.out.1 (by simp), hk8.cell' HC.out.2.1 (by simp), HC.out.2.2.trans' hk8⟩
        clear hk8
        go_roundw
        case rel => exact ⟨lo, m, rfl, by rw [HZ.out.1], HJ, HC2⟩
        case measure => have := HZ.out; simp only [intOf]; omega
    · have hdi : ¬ 1 < (hi : Int) - lo := by omega
      have hhi : hi = lo + 1 := by omega
      have HLow : Hid (LowB A B lo) := (⟨by omega, HI.out.2.2.1, by
        rcases HI.out.2.2.2 with h | h
        · exact .inl (by omega)
        · exact .inr (by rw [← hhi]; exact h)⟩ : LowB A B lo)
      clear HI HG hd
      by_cases ho : lo = 2139095040
      · have HN : Hid (nearB A B lo = lo) := show nearB A B lo = lo by unfold nearB; rw [if_pos ho]
        have t0 : ((lo : Int) == 2139095040) = true := by simp; omega
        clear HH hhi ho
        go_wp2
        go_ret
        exact ⟨lo, HLow.out, by rw [HN.out]; rfl, HC.out.2.2⟩
      · have hlo : lo ≤ 2139095040 := HLow.out.1
        have hAt := at_le lo hlo
        have hah := HH.out lo wr hlo HC.out.2.2
        rw [show ((2 * atM lo + 1 : Nat) : Int) = 2 * ((atM lo : Nat) : Int) + 1 by omega] at hah
        have hbd := at_bounds lo hlo
        have t0 : ((lo : Int) == 2139095040) = false := by simp; omega
        have hM0 : (0 : Int) ≤ ((atM lo : Nat) : Int) ∧ ((atM lo : Nat) : Int) < 16777216 := by omega
        have hE0 : -149 ≤ atE lo ∧ atE lo ≤ 105 := hbd.2
        have hln : (lo : Int) ≤ 2139095039 := by omega
        clear HH hhi hbd
        have hnear : nearB A B lo = if upB (2 * (A * 2 ^ 149)) ((valN lo + valN (lo + 1)) * B) lo = true then lo + 1 else lo := by unfold nearB; rw [if_neg ho]
        unfold upB at hnear
        generalize hS : (valN lo + valN (lo + 1)) * B = S at hnear hah
        generalize hV2 : 2 * (A * 2 ^ 149) = V2 at hnear hah
        have HS : Hid ((valN lo + valN (lo + 1)) * B = S ∧ 2 * (A * 2 ^ 149) = V2) := ⟨hS, hV2⟩
        clear hS hV2
        generalize ((atM lo : Nat) : Int) = M at *
        generalize atE lo = E at *
        obtain ⟨hM1, hM2⟩ := hM0
        obtain ⟨hE1, hE2⟩ := hE0
        rcases Nat.lt_trichotomy S V2 with c1 | c1 | c1
        · have hz : cmpI (V2 : Nat) (S : Nat) = 1 := by unfold cmpI; rw [if_neg (by omega), if_pos (by omega)]
          rw [hz] at hah
          have HN : Hid (((nearB A B lo : Nat) : Int) = (lo : Int) + 1) := show ((nearB A B lo : Nat) : Int) = (lo : Int) + 1 by rw [hnear, decide_eq_true c1, Bool.true_or, if_pos rfl]; omega
          clear hnear hz c1 ho
          go_wp2_with (first
            | (go_at_call 41; refine (hAt _).mono ?_; rintro e9 w9 ⟨rfl, hw9⟩; obtain rfl := hw9.symm)
            | (go_at_call 42; refine hah.mono ?_; rintro e9 w8 ⟨rfl, hk8⟩))
          go_ret
          refine ⟨lo, HLow.out, ?_, HC.out.2.2.trans' hk8⟩
          rw [HN.out]
          rfl
        · have hz : cmpI (V2 : Nat) (S : Nat) = 0 := by unfold cmpI; rw [if_neg (by omega), if_neg (by omega)]
          rw [hz] at hah
          by_cases hp : lo % 2 = 1
          · have HN : Hid (((nearB A B lo : Nat) : Int) = (lo : Int) + 1) := show ((nearB A B lo : Nat) : Int) = (lo : Int) + 1 by rw [hnear, decide_eq_true c1.symm, decide_eq_true hp, Bool.and_true, Bool.or_true, if_pos rfl]; omega
            have t1 : ((lo : Int) % 2 == 1) = true := by simp; omega
            clear hnear hz c1 ho
            go_wp2_with (first
              | (go_at_call 41; refine (hAt _).mono ?_; rintro e9 w9 ⟨rfl, hw9⟩; obtain rfl := hw9.symm)
              | (go_at_call 42; refine hah.mono ?_; rintro e9 w8 ⟨rfl, hk8⟩))
            go_ret
            refine ⟨lo, HLow.out, ?_, HC.out.2.2.trans' hk8⟩
            rw [HN.out]
            rfl
          · have HN : Hid (((nearB A B lo : Nat) : Int) = (lo : Int)) := show ((nearB A B lo : Nat) : Int) = (lo : Int) by rw [hnear, decide_eq_false hp, Bool.and_false, Bool.or_false, decide_eq_false (show ¬ S < V2 by omega), if_neg (by decide)]
            have t1 : ((lo : Int) % 2 == 1) = false := by simp; omega
            clear hnear hz c1 ho
            go_wp2_with (first
              | (go_at_call 41; refine (hAt _).mono ?_; rintro e9 w9 ⟨rfl, hw9⟩; obtain rfl := hw9.symm)
              | (go_at_call 42; refine hah.mono ?_; rintro e9 w8 ⟨rfl, hk8⟩))
            go_ret
            refine ⟨lo, HLow.out, ?_, HC.out.2.2.trans' hk8⟩
            rw [HN.out]
            rfl
        · have hz : cmpI (V2 : Nat) (S : Nat) = -1 := by unfold cmpI; rw [if_pos (by omega)]
          rw [hz] at hah
          have HN : Hid (((nearB A B lo : Nat) : Int) = (lo : Int)) := show ((nearB A B lo : Nat) : Int) = (lo : Int) by rw [hnear, decide_eq_false (show ¬ S < V2 by omega), decide_eq_false (show ¬ V2 = S by omega), Bool.false_and, Bool.or_false, if_neg (by decide)]
          clear hnear hz c1 ho
          go_wp2_with (first
            | (go_at_call 41; refine (hAt _).mono ?_; rintro e9 w9 ⟨rfl, hw9⟩; obtain rfl := hw9.symm)
            | (go_at_call 42; refine hah.mono ?_; rintro e9 w8 ⟨rfl, hk8⟩))
          go_ret
          refine ⟨lo, HLow.out, ?_, HC.out.2.2.trans' hk8⟩
          rw [HN.out]
          rfl

/-- beside a whole number -/
theorem nearest_whole (fa fb : Value) (A K L : Nat) (w : World) (ha : Big w fa A K) (hb : Big w fb 1 L) (hK : K ≤ 3000) (hL : L ≤ 3000) :
    Calls Tryz.prog 35 #[.agg #[fa, fb]] w fun r w' => r = .returned (.int .u32 ((rndR (A * 2 ^ 149) : Nat) : Int)) ∧ Keep [] w w' := by
  refine (nearest_any fa fb A 1 K L w ha hb hK hL).mono ?_
  rintro e w' ⟨n, hl, he, hk⟩
  refine ⟨?_, hk⟩
  rw [he]
  have h1 : nearB A 1 n = nearN (A * 2 ^ 149) n := by unfold nearB nearN; rw [Nat.mul_one]
  have h2 : Low (A * 2 ^ 149) n := by
    unfold LowB at hl
    rw [Nat.mul_one, Nat.mul_one] at hl
    exact hl
  rw [h1, near_rnd _ _ h2]
end Go.Proofs.YtnljpbpphdhnpaaGreatDoor


/- A number over another, cut with two places more and rounded by them, is the document's Nearest. -/
namespace Go.Proofs.YtnljpbpphdhnpaaGreatDoor
open Go.RowKit Go.PlainAid

theorem uN_ratio (a b c d : Nat) (hb : 0 < b) (hd : 0 < d) (e : a * d = c * b) : uN a b = uN c d := by
  have f : a % b * d = c % d * b := by
    rw [← Nat.mul_mod_mul_right, ← Nat.mul_mod_mul_right, e, Nat.mul_comm b d]
  have g : a / b = c / d := by
    rw [← Nat.mul_div_mul_right a b hd, e, Nat.mul_comm b d, Nat.mul_div_mul_right c d hb]
  unfold uN
  rw [g]
  by_cases h : a % b = 0
  · rw [h, Nat.zero_mul] at f
    have h2 : c % d = 0 := by
      rcases Nat.mul_eq_zero.1 f.symm with k | k
      · exact k
      · omega
    rw [if_pos h, if_pos h2]
  · have h2 : c % d ≠ 0 := by
      intro k
      rw [k, Nat.zero_mul] at f
      rcases Nat.mul_eq_zero.1 f with k | k
      · exact h k
      · omega
    rw [if_neg h, if_neg h2]
theorem uN_between (P Q : Nat) : P / Q ≤ uN P Q ∧ uN P Q ≤ 2 * (P / Q / 2) + 1 := by
  unfold uN; split <;> omega
theorem less_uN (P Q : Nat) (hQ : 0 < Q) : lessU (uN P Q) = uN P (2 * Q) := by
  obtain ⟨h1, h2⟩ := cut_parts P Q 2 hQ
  unfold lessU uN
  rw [h1, h2]
  have hR : P % Q < Q := Nat.mod_lt _ hQ
  generalize P / Q = Z
  generalize P % Q = R at *
  clear h1 h2
  by_cases hR0 : R = 0
  · subst hR0
    rw [if_pos rfl]
    by_cases hz : Z % 2 = 0
    · rw [if_pos hz, hz, if_pos (by simp)]
    · have hz1 : Z % 2 = 1 := by omega
      rw [if_neg hz, hz1, if_neg (by simp; omega)]
  · rw [if_neg hR0, if_neg (by omega), if_neg (by omega)]
    omega
theorem rnd_uN (P Q : Nat) (hQ : 0 < Q) : rndU (uN P Q) = P / Q / 4 + (if upB (2 * P) ((2 * (P / Q / 4) + 1) * (4 * Q)) (P / Q / 4) = true then 1 else 0) := by
  have hdm := Nat.div_add_mod P Q
  have hR : P % Q < Q := Nat.mod_lt _ hQ
  unfold rndU uN upB
  generalize P / Q = Z at *
  generalize P % Q = R at *
  subst hdm
  obtain ⟨n, j, rfl, hj⟩ : ∃ n j, Z = 4 * n + j ∧ j < 4 := ⟨Z / 4, Z % 4, by omega, by omega⟩
  have e1 : (4 * n + j) / 4 = n := by omega
  rw [e1]
  have e2 : 2 * (Q * (4 * n + j) + R) = 8 * (Q * n) + 2 * (Q * j) + 2 * R := by
    rw [Nat.mul_add Q, Nat.mul_left_comm Q 4 n]; omega
  have e3 : (2 * n + 1) * (4 * Q) = 8 * (Q * n) + 4 * Q := by
    rw [Nat.add_mul, Nat.mul_comm Q n, Nat.mul_assoc 2 n, Nat.mul_left_comm n 4 Q]; omega
  rw [e2, e3]
  generalize Q * n = q
  have hj4 : j = 0 ∨ j = 1 ∨ j = 2 ∨ j = 3 := by omega
  rcases hj4 with rfl | rfl | rfl | rfl
  · have t : ¬ (8 * q + 4 * Q < 8 * q + 2 * (Q * 0) + 2 * R) := by omega
    have t2 : ¬ (8 * q + 2 * (Q * 0) + 2 * R = 8 * q + 4 * Q) := by omega
    simp only [decide_eq_false t, decide_eq_false t2, Bool.false_and, Bool.or_self, Bool.false_eq_true, if_false]
    split <;> omega
  · have t : ¬ (8 * q + 4 * Q < 8 * q + 2 * (Q * 1) + 2 * R) := by omega
    have t2 : ¬ (8 * q + 2 * (Q * 1) + 2 * R = 8 * q + 4 * Q) := by omega
    simp only [decide_eq_false t, decide_eq_false t2, Bool.false_and, Bool.or_self, Bool.false_eq_true, if_false]
    split <;> omega
  · by_cases hR0 : R = 0
    · subst hR0
      have t : ¬ (8 * q + 4 * Q < 8 * q + 2 * (Q * 2) + 2 * 0) := by omega
      have t2 : (8 * q + 2 * (Q * 2) + 2 * 0 = 8 * q + 4 * Q) := by omega
      simp only [decide_eq_false t, decide_eq_true t2, Bool.true_and, Bool.false_or, decide_eq_true_eq, if_true]
      split <;> omega
    · have t : (8 * q + 4 * Q < 8 * q + 2 * (Q * 2) + 2 * R) := by omega
      simp only [decide_eq_true t, Bool.true_or, if_true, if_neg hR0]
      omega
  · have t : (8 * q + 4 * Q < 8 * q + 2 * (Q * 3) + 2 * R) := by omega
    simp only [decide_eq_true t, Bool.true_or, if_true]
    split <;> omega

theorem valN_at0 (d m : Nat) (h1 : 8388608 ≤ m) (h2 : m ≤ 16777216) : valN (d * 8388608 + m) = m * 2 ^ d := by
  unfold valN
  rw [if_neg (by omega)]
  by_cases h : m = 16777216
  · rw [h, show (d * 8388608 + 16777216) % 8388608 = 0 by omega, show (d * 8388608 + 16777216) / 8388608 - 1 = d + 1 by omega, Nat.pow_succ, Nat.mul_comm (2 ^ d) 2, ← Nat.mul_assoc]
  · rw [show (d * 8388608 + m) % 8388608 = m - 8388608 by omega, show (d * 8388608 + m) / 8388608 - 1 = d by omega, show 8388608 + (m - 8388608) = m by omega]
theorem valN_rung (d m : Nat) (h1 : 8388608 ≤ m ∨ d = 0) (h2 : m ≤ 16777216) : valN (d * 8388608 + m) = m * 2 ^ d := by
  by_cases h : 8388608 ≤ m
  · exact valN_at0 d m h h2
  · obtain rfl : d = 0 := by omega
    unfold valN
    rw [Nat.zero_mul, Nat.zero_add, if_pos (by omega), Nat.pow_zero, Nat.mul_one]
theorem low_is (A B m L : Nat) (hl : LowB A B m) (h1 : valN L * B ≤ A * 2 ^ 149) (h2 : A * 2 ^ 149 < valN (L + 1) * B) (hL : L < 2139095040) : m = L := by
  obtain ⟨a1, a2, a3⟩ := hl
  have b1 : m < L + 1 := valN_iff.1 (Nat.lt_of_mul_lt_mul_right (Nat.lt_of_le_of_lt a2 h2))
  rcases a3 with a3 | a3
  · omega
  · have b2 : L < m + 1 := valN_iff.1 (Nat.lt_of_mul_lt_mul_right (Nat.lt_of_le_of_lt h1 a3))
    omega
theorem upB_four (a b n : Nat) : upB (4 * a) (4 * b) n = upB a b n := by
  unfold upB
  rw [show decide (4 * b < 4 * a) = decide (b < a) from decide_eq_decide.2 (by omega), show decide (4 * a = 4 * b) = decide (a = b) from decide_eq_decide.2 (by omega)]
theorem upB_par (a b n m : Nat) (h : n % 2 = m % 2) : upB a b n = upB a b m := by unfold upB; rw [h]

theorem cutZ_q {X Q n R : Nat} (h : Q * n + R = X) (hR : R < Q) : Q * n ≤ X ∧ X < Q * n + Q := by omega
theorem lessZ_q {D z : Nat} (h : (D + 1) * 8388608 + z < 2139095040) : D * 8388608 + 16777215 < 2139095040 := by
  have h2 : (D + 1) * 8388608 < 255 * 8388608 := Nat.lt_of_le_of_lt (Nat.le_add_right _ z) h
  have h3 : D + 1 < 255 := Nat.lt_of_mul_lt_mul_right h2
  have h4 : D * 8388608 ≤ 253 * 8388608 := Nat.mul_le_mul_right _ (by omega)
  exact Nat.lt_of_le_of_lt (Nat.add_le_add_right h4 _) (by decide)
theorem near_cut (A B D m : Nat) (hB : 0 < B) (hl : LowB A B m) (h1 : 8388608 ≤ A * 2 ^ 149 / (B * 2 ^ D) ∨ D = 0) (h2 : A * 2 ^ 149 / (B * 2 ^ D) < 16777216) (h3 : D * 8388608 + A * 2 ^ 149 / (B * 2 ^ D) < 2139095040) :
    nearB A B m = D * 8388608 + rndU (uN (4 * (A * 2 ^ 149)) (B * 2 ^ D)) := by
  have hQ : 0 < B * 2 ^ D := Nat.mul_pos hB (Nat.two_pow_pos D)
  have hdm := Nat.div_add_mod (A * 2 ^ 149) (B * 2 ^ D)
  have hR := Nat.mod_lt (A * 2 ^ 149) hQ
  have e4 : 4 * (A * 2 ^ 149) / (B * 2 ^ D) / 4 = A * 2 ^ 149 / (B * 2 ^ D) := by
    rw [Nat.div_div_eq_div_mul, Nat.mul_comm _ 4, Nat.mul_div_mul_left _ _ (by decide)]
  rw [rnd_uN _ _ hQ, e4]
  unfold nearB
  generalize A * 2 ^ 149 / (B * 2 ^ D) = n at *
  have v0 := valN_rung D n h1 (by omega)
  have v1 := valN_rung D (n + 1) (by omega) (by omega)
  rw [← Nat.add_assoc] at v1
  have hm : m = D * 8388608 + n := by
    refine low_is A B m _ hl ?_ ?_ h3
    · rw [v0, show n * 2 ^ D * B = (B * 2 ^ D) * n by ac_rfl]
      exact (cutZ_q hdm hR).1
    · rw [v1, show (n + 1) * 2 ^ D * B = (B * 2 ^ D) * (n + 1) by ac_rfl, Nat.mul_add, Nat.mul_one]
      exact (cutZ_q hdm hR).2
  subst hm
  rw [if_neg (by omega), v0, v1]
  have e5 : 2 * (4 * (A * 2 ^ 149)) = 4 * (2 * (A * 2 ^ 149)) := Nat.mul_left_comm _ _ _
  have e6 : (2 * n + 1) * (4 * (B * 2 ^ D)) = 4 * ((n * 2 ^ D + (n + 1) * 2 ^ D) * B) := by
    rw [← Nat.add_mul, show n + (n + 1) = 2 * n + 1 by omega]
    ac_rfl
  rw [e5, e6, upB_four, upB_par _ _ n (D * 8388608 + n) (by omega)]
  split
  · rw [Nat.add_assoc]
  · rw [Nat.add_zero]
/-- beyond the greatest -/
theorem near_inf (A B D m : Nat) (hB : 0 < B) (hl : LowB A B m) (h1 : 8388608 ≤ A * 2 ^ 149 / (B * 2 ^ D)) (h3 : 254 ≤ D) : nearB A B m = 2139095040 := by
  have hQ : 0 < B * 2 ^ D := Nat.mul_pos hB (Nat.two_pow_pos D)
  obtain ⟨a1, a2, a3⟩ := hl
  have hm : m = 2139095040 := by
    rcases a3 with a3 | a3
    · exact a3
    · have hv : valN 2139095040 = 8388608 * 2 ^ 254 := valN_rung 254 8388608 (by omega) (by omega)
      have h4 : 8388608 * (B * 2 ^ D) ≤ A * 2 ^ 149 := (Nat.le_div_iff_mul_le hQ).1 h1
      have h5 : 2 ^ 254 ≤ 2 ^ D := Nat.pow_le_pow_right (by decide) h3
      have h6 : valN 2139095040 * B ≤ A * 2 ^ 149 := by
        rw [hv, Nat.mul_assoc, Nat.mul_comm _ B]
        exact Nat.le_trans (Nat.mul_le_mul_left _ (Nat.mul_le_mul_left _ h5)) h4
      have b2 : 2139095040 < m + 1 := valN_iff.1 (Nat.lt_of_mul_lt_mul_right (Nat.lt_of_le_of_lt h6 a3))
      omega
  unfold nearB
  rw [if_pos hm, hm]
/-- one place less, where rounding comes to the next power of two -/
theorem near_less (A B D m : Nat) (hB : 0 < B) (hl : LowB A B m) (h1 : 67108862 ≤ uN (4 * (A * 2 ^ 149)) (B * 2 ^ D)) (h2 : A * 2 ^ 149 / (B * 2 ^ (D + 1)) < 16777216) (h3 : (D + 1) * 8388608 + A * 2 ^ 149 / (B * 2 ^ (D + 1)) < 2139095040) :
    nearB A B m = (D + 1) * 8388608 + rndU (lessU (uN (4 * (A * 2 ^ 149)) (B * 2 ^ D))) ∧ 8388608 ≤ rndU (lessU (uN (4 * (A * 2 ^ 149)) (B * 2 ^ D))) := by
  have hQ : 0 < B * 2 ^ D := Nat.mul_pos hB (Nat.two_pow_pos D)
  have eQ : 2 * (B * 2 ^ D) = B * 2 ^ (D + 1) := by rw [Nat.pow_succ]; ac_rfl
  have hu := uN_between (4 * (A * 2 ^ 149)) (B * 2 ^ D)
  have e4 : 4 * (A * 2 ^ 149) / (B * 2 ^ D) / 4 = A * 2 ^ 149 / (B * 2 ^ D) := by
    rw [Nat.div_div_eq_div_mul, Nat.mul_comm _ 4, Nat.mul_div_mul_left _ _ (by decide)]
  have e5 : A * 2 ^ 149 / (B * 2 ^ (D + 1)) = A * 2 ^ 149 / (B * 2 ^ D) / 2 := by
    rw [Nat.div_div_eq_div_mul, ← eQ, Nat.mul_comm 2]
  by_cases h : 8388608 ≤ A * 2 ^ 149 / (B * 2 ^ (D + 1))
  · have := near_cut A B (D + 1) m hB hl (Or.inl h) h2 h3
    rw [this, less_uN _ _ hQ, eQ]
    refine ⟨rfl, ?_⟩
    rw [rnd_uN _ _ (by rw [← eQ]; omega)]
    have e7 : 4 * (A * 2 ^ 149) / (B * 2 ^ (D + 1)) / 4 = A * 2 ^ 149 / (B * 2 ^ (D + 1)) := by
      rw [Nat.div_div_eq_div_mul, Nat.mul_comm _ 4, Nat.mul_div_mul_left _ _ (by decide)]
    rw [e7]
    omega
  · have hn : A * 2 ^ 149 / (B * 2 ^ D) = 16777215 := by
      generalize 4 * (A * 2 ^ 149) / (B * 2 ^ D) = z1 at *
      generalize A * 2 ^ 149 / (B * 2 ^ D) = z2 at *
      generalize A * 2 ^ 149 / (B * 2 ^ (D + 1)) = z3 at *
      generalize uN (4 * (A * 2 ^ 149)) (B * 2 ^ D) = z4 at *
      omega
    have := near_cut A B D m hB hl (by left; rw [hn]; decide) (by rw [hn]; decide) (by rw [hn]; exact lessZ_q h3)
    rw [this]
    have hu2 : uN (4 * (A * 2 ^ 149)) (B * 2 ^ D) = 67108862 ∨ uN (4 * (A * 2 ^ 149)) (B * 2 ^ D) = 67108863 := by omega
    rcases hu2 with e | e
    · rw [e]; refine ⟨?_, by decide⟩
      rw [show rndU 67108862 = 16777216 by decide, show rndU (lessU 67108862) = 8388608 by decide]; omega
    · rw [e]; refine ⟨?_, by decide⟩
      rw [show rndU 67108863 = 16777216 by decide, show rndU (lessU 67108863) = 8388608 by decide]; omega
end Go.Proofs.YtnljpbpphdhnpaaGreatDoor
