/- Doublings and halvings of reals of 64 bits, exact; the way from there to 32 bits. -/
import Derived.Test.YtnljpbpphdhnpaaGreatDoorSum
import Derived.Test.YtnljpbpphdhnpaaGreatDoorShC

namespace Go.Proofs.YtnljpbpphdhnpaaGreatDoor
open Go.RowKit Go.PlainAid Go.Lib

/-- the bits of M * 2^(E - 52), M with 53 digits -/
def wD (M : Nat) (E : Int) : Nat := (E + 1022).toNat * 4503599627370496 + M

theorem dconsts : Ieee.double.binade = 4503599627370496 ∧ Ieee.double.infRung = 9218868437227405312 ∧ Ieee.double.leastPlace = -1074 ∧ Ieee.double.signWeight = 9223372036854775808 := by decide

theorem log2_eq {n k : Nat} (h1 : 2 ^ k ≤ n) (h2 : n < 2 ^ (k + 1)) : n.log2 = k := by
  have h0 : n ≠ 0 := by have := Nat.two_pow_pos k; omega
  have a1 : n.log2 < k + 1 := (Nat.log2_lt h0).2 h2
  have a2 : ¬ n.log2 < k := fun h => by have := (Nat.log2_lt h0).1 h; omega
  omega

theorem cut_exact (s : Bool) (M t L : Nat) (_hM : 0 < M) (hL : (M * 2 ^ t).log2 = L) (ht : t ≤ L + 2) : Ieee.Toward.cut .even s (M * 2 ^ t) t = M := by
  have hp : 0 < 2 ^ t := Nat.two_pow_pos t
  unfold Ieee.Toward.cut
  simp only [Nat.one_shiftLeft, hL]
  rw [Nat.min_eq_left ht, Nat.mul_div_cancel _ hp, Nat.mul_mod_left]
  have h1 : decide (2 ^ t < 2 * 0) = false := by simp
  have h2 : (2 ^ t == 2 * 0) = false := by simp
  rw [h1, h2]
  rfl

theorem nearD (M t : Nat) (E place : Int) (h1 : 4503599627370496 ≤ M) (h2 : M < 9007199254740992) (hE : place + 52 + t = E) (lo : -1022 ≤ E) (hi : E ≤ 1023) : Ieee.double.nearest false (M * 2 ^ t) place = wD M E := by
  obtain ⟨c1, c2, c3, c4⟩ := dconsts
  have hp : 0 < 2 ^ t := Nat.two_pow_pos t
  have hlog : (M * 2 ^ t).log2 = 52 + t := by
    apply log2_eq
    · rw [Nat.pow_add]; exact Nat.mul_le_mul_right _ h1
    · rw [show 52 + t + 1 = 53 + t by omega, Nat.pow_add]; exact Nat.mul_lt_mul_of_pos_right h2 hp
  have hne : M * 2 ^ t ≠ 0 := by
    have := Nat.mul_pos (show 0 < M by omega) hp
    omega
  unfold Ieee.Format.nearest
  rw [if_neg hne]
  simp only [c1, c2, c3, hlog, show Ieee.double.fractionBits = 52 from rfl]
  rw [show max (place + ((52 + t : Nat) : Int) - ((52 : Nat) : Int)) (-1074) = place + t by omega]
  rw [show (place - (place + (t : Int))).toNat = 0 by omega, show (place + (t : Int) - place).toNat = t by omega, Nat.shiftLeft_eq, Nat.pow_zero, Nat.mul_one]
  rw [cut_exact false M t (52 + t) (by omega) hlog (by omega)]
  rw [show (place + (t : Int) - -1074).toNat = (E + 1022).toNat by omega]
  unfold Ieee.Format.word wD
  simp only [Bool.false_eq_true, if_false]
  rw [Nat.min_eq_left]
  have : (E + 1022).toNat ≤ 2045 := by omega
  omega

/-- a small whole number as a real of 64 bits -/
theorem nearS (m : Nat) (h0 : 0 < m) (hm : m < 16777216) : Ieee.double.nearest false m 0 = wD (m * 2 ^ (52 - m.log2)) (m.log2 : Int) ∧ 4503599627370496 ≤ m * 2 ^ (52 - m.log2) ∧ m * 2 ^ (52 - m.log2) < 9007199254740992 ∧ m.log2 ≤ 23 := by
  obtain ⟨c1, c2, c3, c4⟩ := dconsts
  have hlo : 2 ^ m.log2 ≤ m := Nat.log2_self_le (by omega)
  have hhi : m < 2 ^ (m.log2 + 1) := Nat.lt_log2_self
  have hL : m.log2 < 24 := (Nat.log2_lt (by omega)).2 hm
  generalize hl : m.log2 = L at hlo hhi hL
  have k1 : 2 ^ L * 2 ^ (52 - L) ≤ m * 2 ^ (52 - L) := Nat.mul_le_mul_right _ hlo
  rw [← Nat.pow_add, show L + (52 - L) = 52 by omega] at k1
  have k2 : m * 2 ^ (52 - L) < 2 ^ (L + 1) * 2 ^ (52 - L) := Nat.mul_lt_mul_of_pos_right hhi (Nat.two_pow_pos _)
  rw [← Nat.pow_add, show L + 1 + (52 - L) = 53 by omega] at k2
  refine ⟨?_, k1, k2, by omega⟩
  unfold Ieee.Format.nearest
  rw [if_neg (by omega)]
  simp only [c1, c2, c3, hl, show Ieee.double.fractionBits = 52 from rfl]
  rw [show max ((0 : Int) + (L : Int) - ((52 : Nat) : Int)) (-1074) = (L : Int) - 52 by omega]
  rw [show ((0 : Int) - ((L : Int) - 52)).toNat = 52 - L by omega, show (((L : Int) - 52) - 0).toNat = 0 by omega, Nat.shiftLeft_eq]
  have hcut : Ieee.Toward.cut .even false (m * 2 ^ (52 - L)) 0 = m * 2 ^ (52 - L) := by
    unfold Ieee.Toward.cut
    simp [Nat.mod_one]
  rw [hcut, show (((L : Int) - 52) - -1074).toNat = ((L : Int) + 1022).toNat by omega]
  unfold Ieee.Format.word wD
  simp only [Bool.false_eq_true, if_false]
  rw [Nat.min_eq_left]
  have : ((L : Int) + 1022).toNat ≤ 1046 := by omega
  have k3 : m * 2 ^ (52 - L) < 9007199254740992 := k2
  omega

theorem readD (M : Nat) (E : Int) (h1 : 4503599627370496 ≤ M) (h2 : M < 9007199254740992) (lo : -1022 ≤ E) (hi : E ≤ 1023) : Ieee.double.read (wD M E) = .number false M (E - 52) := by
  obtain ⟨c1, c2, c3, c4⟩ := dconsts
  obtain ⟨q, hq⟩ : ∃ q : Nat, (E + 1022).toNat = q := ⟨_, rfl⟩
  have hq2 : q ≤ 2045 := by omega
  unfold wD
  rw [hq]
  unfold Ieee.Format.read
  simp only [c1, c2, c3, c4]
  rw [show (q * 4503599627370496 + M) % 9223372036854775808 = q * 4503599627370496 + M by omega, show (q * 4503599627370496 + M) / 9223372036854775808 % 2 = 0 by omega]
  rw [if_neg (by omega), if_pos (by omega), show (q * 4503599627370496 + M) % 4503599627370496 = M - 4503599627370496 by omega, show (q * 4503599627370496 + M) / 4503599627370496 - 1 = q by omega]
  rw [show 4503599627370496 + (M - 4503599627370496) = M by omega, show (-1074 : Int) + (q : Int) = E - 52 by omega]
  rfl

theorem read2 : Ieee.double.read 4611686018427387904 = .number false 4503599627370496 (-51) := by decide

theorem mul2 (M : Nat) (E : Int) (h1 : 4503599627370496 ≤ M) (h2 : M < 9007199254740992) (lo : -1022 ≤ E) (hi : E ≤ 1022) : Ieee.double.mul (wD M E) 4611686018427387904 = some (wD M (E + 1)) := by
  unfold Ieee.Format.mul
  rw [readD M E h1 h2 lo (by omega), read2]
  simp only [Ieee.Datum.product, Option.map_some, Ieee.Format.write]
  congr 1
  exact nearD M 52 (E + 1) _ h1 h2 (by omega) (by omega) (by omega)

theorem div2 (M : Nat) (E : Int) (h1 : 4503599627370496 ≤ M) (h2 : M < 9007199254740992) (lo : -1021 ≤ E) (hi : E ≤ 1023) : Ieee.double.div (wD M E) 4611686018427387904 = some (wD M (E - 1)) := by
  unfold Ieee.Format.div
  rw [readD M E h1 h2 (by omega) hi, read2]
  have hlM : M.log2 = 52 := log2_eq h1 h2
  have hl2 : (4503599627370496 : Nat).log2 = 52 := by decide
  simp only [Ieee.Datum.quotient, hlM, hl2, show Ieee.double.fractionBits = 52 from rfl]
  rw [if_neg (by decide)]
  simp only [Option.map_some, Ieee.Format.write, Nat.shiftLeft_eq]
  congr 1
  have e1 : M * 2 ^ (52 + 2 + 52 - 52) / 4503599627370496 = M * 4 := by
    rw [show M * 2 ^ (52 + 2 + 52 - 52) = M * 4 * 4503599627370496 by rw [Nat.mul_assoc]]
    exact Nat.mul_div_cancel _ (by omega)
  have e2 : M * 2 ^ (52 + 2 + 52 - 52) % 4503599627370496 = 0 := by
    rw [show M * 2 ^ (52 + 2 + 52 - 52) = M * 4 * 4503599627370496 by rw [Nat.mul_assoc]]
    exact Nat.mul_mod_left _ _
  rw [e1, e2]
  rw [show 2 * (M * 4) + ((0 : Nat) != 0).toNat = M * 2 ^ 3 by simp; omega]
  exact nearD M 3 (E - 1) _ h1 h2 (by omega) (by omega) (by omega)

theorem div0 : Ieee.double.div 0 4611686018427387904 = some 0 := by decide

/-- what a rung of 32 bits is worth, and the way back from 64 bits -/
def atM (n : Nat) : Nat := if n < 8388608 then n else 8388608 + n % 8388608
def atE (n : Nat) : Int := if n < 8388608 then -149 else (n / 8388608 : Nat) - 150

theorem toSingle (n : Nat) (h0 : 0 < n) (hn : n < 2139095040) : Ieee.single.nearest false (atM n * 2 ^ (52 - (atM n).log2)) (((atM n).log2 : Int) + atE n - 52) = n := by
  have e2 : Ieee.single.binade = 8388608 := by decide
  have e3 : Ieee.single.infRung = 2139095040 := by decide
  have e4 : Ieee.single.leastPlace = -149 := by decide
  have hm0 : 0 < atM n := by unfold atM; split <;> omega
  have hm1 : atM n < 16777216 := by unfold atM; split <;> omega
  obtain ⟨_, k1, k2, k3⟩ := nearS (atM n) hm0 hm1
  generalize hL : (atM n).log2 = L at k1 k2 k3
  have hlog : (atM n * 2 ^ (52 - L)).log2 = 52 := log2_eq k1 k2
  unfold Ieee.Format.nearest
  rw [if_neg (by omega)]
  simp only [e2, e3, e4, hlog, show Ieee.single.fractionBits = 23 from rfl]
  by_cases hs : n < 8388608
  · have hE : atE n = -149 := by unfold atE; rw [if_pos hs]
    have hM : atM n = n := by unfold atM; rw [if_pos hs]
    have hL22 : L ≤ 22 := by
      rw [← hL, hM]
      have := (Nat.log2_lt (show n ≠ 0 by omega)).2 (show n < 2 ^ 23 from hs)
      omega
    rw [hE]
    rw [show max ((L : Int) + -149 - 52 + ((52 : Nat) : Int) - ((23 : Nat) : Int)) (-149) = -149 by omega]
    rw [show ((L : Int) + -149 - 52 - -149).toNat = 0 by omega, show ((-149 : Int) - ((L : Int) + -149 - 52)).toNat = 52 - L by omega, Nat.shiftLeft_eq, Nat.pow_zero, Nat.mul_one]
    rw [cut_exact false (atM n) (52 - L) 52 hm0 hlog (by omega), hM]
    unfold Ieee.Format.word
    simp
    omega
  · have hE : atE n = (n / 8388608 : Nat) - 150 := by unfold atE; rw [if_neg hs]
    have hM : atM n = 8388608 + n % 8388608 := by unfold atM; rw [if_neg hs]
    have hL23 : L = 23 := by
      rw [← hL, hM]
      exact log2_eq (by omega) (by omega)
    subst hL23
    rw [hE]
    rw [show max (((23 : Nat) : Int) + (((n / 8388608 : Nat) : Int) - 150) - 52 + ((52 : Nat) : Int) - ((23 : Nat) : Int)) (-149) = ((n / 8388608 : Nat) : Int) - 150 by omega]
    rw [show (((23 : Nat) : Int) + (((n / 8388608 : Nat) : Int) - 150) - 52 - (((n / 8388608 : Nat) : Int) - 150)).toNat = 0 by omega, show ((((n / 8388608 : Nat) : Int) - 150) - (((23 : Nat) : Int) + (((n / 8388608 : Nat) : Int) - 150) - 52)).toNat = 29 by omega, Nat.shiftLeft_eq, Nat.pow_zero, Nat.mul_one]
    rw [cut_exact false (atM n) 29 52 hm0 hlog (by omega), hM]
    rw [show ((((n / 8388608 : Nat) : Int) - 150) - -149).toNat = n / 8388608 - 1 by omega]
    unfold Ieee.Format.word
    simp only [Bool.false_eq_true, if_false]
    rw [Nat.min_eq_left] <;> omega

end Go.Proofs.YtnljpbpphdhnpaaGreatDoor



/- The library's shortFloat in one, for every float32 above 0. -/
namespace Go.Proofs.YtnljpbpphdhnpaaGreatDoor
open Go.RowKit Go.PlainAid

/-- is it a power of two whose lower neighbour stands at half the distance? -/
def skw (n : Nat) : Bool := decide (n % 8388608 = 0) && decide (16777216 ≤ n)
def jF (n : Nat) : Nat := if skw n then jS (atE n) else jN (atE n)
/-- four times a worth of so many quarters, brought to the scale, cut -/
def u4 (n X : Nat) : Nat := uN (X * 2 ^ (atE n).toNat * 10 ^ (jF n - 31)) (2 ^ (-(atE n)).toNat * 10 ^ (31 - jF n))
def xlo (n : Nat) : Nat := if skw n then 4 * atM n - 1 else 4 * atM n - 2
/-- the digits as a number, and the power of ten of the last one -/
def shN (n : Nat) : Nat × Nat := shD (u4 n (xlo n)) (u4 n (4 * atM n + 2)) (u4 n (4 * atM n)) (atM n % 2)
def dF (n : Nat) : Nat := (shN n).1
def pF (n : Nat) : Int := 31 - (jF n : Int) + ((shN n).2 : Int)

def scaleOk (E : Int) (j : Nat) : Prop := 2 ^ (-E).toNat * 10 ^ (31 - j) ≤ 2 ^ E.toNat * 10 ^ (j - 31) ∧ 2 ^ E.toNat * 10 ^ (j - 31) ≤ 14 * (2 ^ (-E).toNat * 10 ^ (31 - j))
instance (E : Int) (j : Nat) : Decidable (scaleOk E j) := by unfold scaleOk; infer_instance
theorem scales_ok : ∀ n : Nat, n < 254 → scaleOk ((n : Int) - 149) (jN ((n : Int) - 149)) ∧ (1 ≤ n → scaleOk ((n : Int) - 149) (jS ((n : Int) - 149))) := by
  decide +kernel
theorem uN_bounds (a b lo hi : Nat) (hb : 0 < b) (h1 : lo * b ≤ a) (h2 : a ≤ hi * b) : lo ≤ uN a b ∧ uN a b ≤ hi + 1 := by
  have g1 : lo ≤ a / b := (Nat.le_div_iff_mul_le hb).2 h1
  have g2 : a / b ≤ hi := Nat.div_le_of_le_mul (by rw [Nat.mul_comm]; exact h2)
  unfold uN
  split <;> omega
theorem at_facts (n : Nat) (h1 : 1 ≤ n) (h2 : n < 2139095040) : -149 ≤ atE n ∧ atE n ≤ 104 ∧ 1 ≤ atM n ∧ atM n < 16777216 ∧ (8388608 ≤ n → 8388608 ≤ atM n) ∧ (n < 8388608 → atM n = n ∧ atE n = -149) ∧ (skw n = true → atM n = 8388608 ∧ -148 ≤ atE n) ∧ (skw n = false → 8388608 ≤ n → atM n = 8388608 → atE n = -149) := by
  unfold atE atM skw
  by_cases h : n < 8388608
  · simp only [if_pos h]
    refine ⟨by omega, by omega, by omega, by omega, fun h5 => absurd h5 (by omega), by simp, fun hs => ?_, fun _ h5 _ => absurd h5 (by omega)⟩
    simp at hs
    omega
  · simp only [if_neg h]
    refine ⟨by omega, by omega, by omega, by omega, fun _ => by omega, fun h6 => absurd h6 h, fun hs => ?_, fun hs _ hm => ?_⟩
    · simp at hs
      omega
    · simp at hs
      have : n % 8388608 = 0 := by omega
      have := hs this
      omega
theorem row_of (n : Nat) (h1 : 1 ≤ n) (h2 : n < 2139095040) : rowOk (atE n) (jF n) ∧ scaleOk (atE n) (jF n) := by
  obtain ⟨a1, a2, _, _, _, _, a7, _⟩ := at_facts n h1 h2
  obtain ⟨k, hk⟩ : ∃ k : Nat, atE n = (k : Int) - 149 := ⟨(atE n + 149).toNat, by omega⟩
  have hk2 : k < 254 := by omega
  unfold jF
  by_cases hs : skw n = true
  · rw [if_pos hs]
    have := (a7 hs).2
    rw [hk]
    exact ⟨(rows_ok k hk2).2 (by omega), (scales_ok k hk2).2 (by omega)⟩
  · rw [if_neg hs, hk]
    exact ⟨(rows_ok k hk2).1, (scales_ok k hk2).1⟩
theorem u4_bounds (n X : Nat) (h1 : 1 ≤ n) (h2 : n < 2139095040) : X ≤ u4 n X ∧ u4 n X ≤ 14 * X + 1 := by
  obtain ⟨_, s1, s2⟩ := row_of n h1 h2
  unfold u4
  have hb : 0 < 2 ^ (-(atE n)).toNat * 10 ^ (31 - jF n) := Nat.mul_pos (Nat.two_pow_pos _) (Nat.pow_pos (by decide))
  refine uN_bounds _ _ _ _ hb ?_ ?_
  · rw [Nat.mul_assoc X]
    exact Nat.mul_le_mul_left _ s1
  · rw [Nat.mul_assoc X, Nat.mul_comm 14 X, Nat.mul_assoc X]
    exact Nat.mul_le_mul_left _ s2
end Go.Proofs.YtnljpbpphdhnpaaGreatDoor

/- What the document tells of a float's digits, in units of some power of ten, beside the library's way. -/
namespace Go.Proofs.YtnljpbpphdhnpaaGreatDoor

theorem uN_le (a t y : Nat) (ht : 0 < t) : uN a t ≤ 2 * y ↔ a ≤ 2 * y * t := by
  unfold uN
  have hd := Nat.div_add_mod a t
  have hm := Nat.mod_lt a ht
  by_cases h : a % t = 0
  · rw [if_pos h]
    rw [h, Nat.add_zero] at hd
    constructor
    · intro g
      rw [← hd, Nat.mul_comm]
      exact Nat.mul_le_mul_right t g
    · intro g
      exact Nat.div_le_of_le_mul (by rw [Nat.mul_comm]; exact g)
  · rw [if_neg h]
    constructor
    · intro g
      have g2 : a / t < 2 * y := by omega
      exact Nat.le_of_lt ((Nat.div_lt_iff_lt_mul ht).1 g2)
    · intro g
      have g2 : a < 2 * y * t := by
        rcases Nat.lt_or_eq_of_le g with h1 | h1
        · exact h1
        · exact absurd (by rw [h1]; exact Nat.mul_mod_left _ _) h
      have g3 := (Nat.div_lt_iff_lt_mul ht).2 g2
      omega
theorem uN_lt (a t y : Nat) (ht : 0 < t) : uN a t < 2 * y ↔ a < 2 * y * t := by
  unfold uN
  by_cases h : a % t = 0
  · rw [if_pos h]
    exact Nat.div_lt_iff_lt_mul ht
  · rw [if_neg h]
    rw [← Nat.div_lt_iff_lt_mul ht]
    omega

/-- does the number of c of these units lie where it is read as the float (all twice; o: is the float's number odd?) -/
def LiesI (L2 H2 o c : Nat) : Prop := L2 + o ≤ 2 * c ∧ 2 * c + o ≤ H2
theorem lo_iff (L2 t o x : Nat) (ht : 0 < t) (ho : o < 2) : (uN (2 * L2) t + o + 3) / 4 ≤ x ↔ L2 + o ≤ 2 * (x * t) := by
  have e1 : 2 * (2 * x) * t = 2 * (2 * (x * t)) := by rw [Nat.mul_assoc, Nat.mul_assoc]
  rcases Nat.lt_or_ge o 1 with h | h
  · have : o = 0 := by omega
    subst this
    have := uN_le (2 * L2) t (2 * x) ht
    rw [e1] at this
    omega
  · have : o = 1 := by omega
    subst this
    have := uN_lt (2 * L2) t (2 * x) ht
    rw [e1] at this
    omega
theorem hi_iff (H2 t o x : Nat) (ht : 0 < t) (ho : o < 2) (hx : 1 ≤ x ∨ o ≤ H2) : x ≤ (uN (2 * H2) t - o) / 4 ↔ 2 * (x * t) + o ≤ H2 := by
  have e1 : 2 * (2 * x) * t = 2 * (2 * (x * t)) := by rw [Nat.mul_assoc, Nat.mul_assoc]
  rcases Nat.lt_or_ge o 1 with h | h
  · have : o = 0 := by omega
    subst this
    have := uN_lt (2 * H2) t (2 * x) ht
    rw [e1] at this
    omega
  · have : o = 1 := by omega
    subst this
    have h1 := uN_le (2 * H2) t (2 * x) ht
    rw [e1] at h1
    rcases Nat.eq_zero_or_pos x with h0 | h0
    · subst h0
      simp at hx ⊢
      omega
    · omega
theorem rnd_q (N t : Nat) (ht : 0 < t) : rndU (uN (4 * N) t) = if 2 * N < (2 * (N / t) + 1) * t ∨ (2 * N = (2 * (N / t) + 1) * t ∧ N / t % 2 = 0) then N / t else N / t + 1 := by
  have hd := Nat.div_add_mod N t
  have hm := Nat.mod_lt N ht
  have a1 := uN_le (4 * N) t (2 * (N / t) + 1) ht
  have a2 := uN_lt (4 * N) t (2 * (N / t) + 1) ht
  have a3 := uN_lt (4 * N) t (2 * (N / t)) ht
  have a4 := uN_lt (4 * N) t (2 * (N / t) + 2) ht
  generalize N / t = q at *
  generalize uN (4 * N) t = u at *
  generalize N % t = r at *
  have e1 : 2 * (2 * q + 1) * t = 4 * (t * q) + 2 * t := by rw [Nat.mul_assoc, Nat.add_mul, Nat.mul_assoc 2 q, Nat.mul_comm q t]; omega
  have e2 : (2 * q + 1) * t = 2 * (t * q) + t := by rw [Nat.add_mul, Nat.mul_assoc 2 q, Nat.mul_comm q t]; omega
  have e3 : 2 * (2 * q) * t = 4 * (t * q) := by rw [Nat.mul_assoc, Nat.mul_assoc, Nat.mul_comm q t]; omega
  have e4 : 2 * (2 * q + 2) * t = 4 * (t * q) + 4 * t := by rw [Nat.mul_assoc, Nat.add_mul, Nat.mul_assoc 2 q, Nat.mul_comm q t]; omega
  rw [e1] at a1 a2
  rw [e3] at a3
  rw [e4] at a4
  rw [e2]
  generalize t * q = z at *
  unfold rndU
  have g1 : 4 * q ≤ u := by omega
  have g2 : u < 4 * q + 4 := by omega
  have g3 : u / 4 = q := by omega
  rw [g3]
  split <;> omega

/-- what both tell: a number of units of which no tenth lies there, or the only one of ten units -/
structure Sp (t N L2 H2 o : Nat) : Prop where
  t0 : 0 < t
  ho : o < 2
  lo : L2 < 2 * N
  hi : 2 * N < H2
  hh : H2 - 2 * N = 2 * N - L2 ∨ H2 - 2 * N = 2 * (2 * N - L2)
  wide : 2 * t < H2 - L2 ∨ N % t = 0
  thin : H2 - L2 < 20 * t
/-- q * t is what is told: in the way of the document, among the neighbours -/
def Told (t N L2 H2 o q : Nat) : Prop :=
  (q = N / t ∧ LiesI L2 H2 o (N / t * t) ∧ (LiesI L2 H2 o ((N / t + 1) * t) → 2 * N < (2 * (N / t) + 1) * t ∨ (2 * N = (2 * (N / t) + 1) * t ∧ N / t % 2 = 0))) ∨
  (q = N / t + 1 ∧ LiesI L2 H2 o ((N / t + 1) * t) ∧ (LiesI L2 H2 o (N / t * t) → ¬ (2 * N < (2 * (N / t) + 1) * t ∨ (2 * N = (2 * (N / t) + 1) * t ∧ N / t % 2 = 0))))
theorem Told.liesI {t N L2 H2 o q : Nat} (h : Told t N L2 H2 o q) : LiesI L2 H2 o (q * t) := by
  rcases h with ⟨rfl, h, _⟩ | ⟨rfl, h, _⟩ <;> exact h
/-- where some number of units lies there, a neighbour does -/
theorem near_in (t N L2 H2 o x : Nat) (ht : 0 < t) (ho : o < 2) (hlo : L2 < 2 * N) (hhi : 2 * N < H2) (hx : LiesI L2 H2 o (x * t)) : LiesI L2 H2 o (N / t * t) ∨ LiesI L2 H2 o ((N / t + 1) * t) := by
  have hd := Nat.div_add_mod N t
  have hm := Nat.mod_lt N ht
  rw [Nat.mul_comm] at hd
  rcases Nat.lt_or_ge (N / t) x with h | h
  · right
    have : (N / t + 1) * t ≤ x * t := Nat.mul_le_mul_right t h
    unfold LiesI at *
    rw [Nat.add_mul, Nat.one_mul] at *
    omega
  · left
    have : x * t ≤ N / t * t := Nat.mul_le_mul_right t h
    unfold LiesI at *
    omega
theorem told_of (t N L2 H2 o : Nat) (h : LiesI L2 H2 o (N / t * t) ∨ LiesI L2 H2 o ((N / t + 1) * t)) : ∃ q, Told t N L2 H2 o q := by
  unfold Told
  by_cases a : LiesI L2 H2 o (N / t * t)
  · by_cases b : LiesI L2 H2 o ((N / t + 1) * t)
    · by_cases c : 2 * N < (2 * (N / t) + 1) * t ∨ (2 * N = (2 * (N / t) + 1) * t ∧ N / t % 2 = 0)
      · exact ⟨_, .inl ⟨rfl, a, fun _ => c⟩⟩
      · exact ⟨_, .inr ⟨rfl, b, fun _ => c⟩⟩
    · exact ⟨_, .inl ⟨rfl, a, fun h => absurd h b⟩⟩
  · have b := h.resolve_left a
    exact ⟨_, .inr ⟨rfl, b, fun h => absurd h a⟩⟩
theorem told_one (t N L2 H2 o p q : Nat) (h1 : Told t N L2 H2 o p) (h2 : Told t N L2 H2 o q) : p = q := by
  rcases h1 with ⟨rfl, a1, b1⟩ | ⟨rfl, a1, b1⟩ <;> rcases h2 with ⟨rfl, a2, b2⟩ | ⟨rfl, a2, b2⟩
  · rfl
  · exact absurd (b1 a2) (b2 a1)
  · exact absurd (b2 a1) (b1 a2)
  · rfl
/-- the library's digits: of ten units, if one of these lies there; else what the document tells of the unit -/
theorem shD_told (t N L2 H2 o : Nat) (h : Sp t N L2 H2 o) :
    ((shD (uN (2 * L2) t) (uN (2 * H2) t) (uN (4 * N) t) o).2 = 1 ∧ LiesI L2 H2 o ((shD (uN (2 * L2) t) (uN (2 * H2) t) (uN (4 * N) t) o).1 * (10 * t))) ∨
    ((shD (uN (2 * L2) t) (uN (2 * H2) t) (uN (4 * N) t) o).2 = 0 ∧ Told t N L2 H2 o (shD (uN (2 * L2) t) (uN (2 * H2) t) (uN (4 * N) t) o).1 ∧ ∀ x, ¬ LiesI L2 H2 o (x * (10 * t))) := by
  obtain ⟨t0, ho, hlo, hhi, hh, wide, thin⟩ := h
  have l := fun x => lo_iff L2 t o x t0 ho
  have u := fun x => hi_iff H2 t o x t0 ho (.inr (by omega))
  have hr := rnd_q N t t0
  have hd := Nat.div_add_mod N t
  have hm := Nat.mod_lt N t0
  generalize uN (2 * L2) t = ul at *
  generalize uN (2 * H2) t = uh at *
  generalize uN (4 * N) t = um at *
  have liesI : ∀ x, LiesI L2 H2 o (x * t) ↔ (ul + o + 3) / 4 ≤ x ∧ x ≤ (uh - o) / 4 := fun x => by
    unfold LiesI
    rw [l x, u x]
  unfold shD
  generalize (ul + o + 3) / 4 = dl at *
  generalize (uh - o) / 4 = dh at *
  have liesI10 : ∀ x, LiesI L2 H2 o (x * (10 * t)) ↔ dl ≤ x * 10 ∧ x * 10 ≤ dh := fun x => by
    rw [← Nat.mul_assoc]
    exact liesI (x * 10)
  have hcx : ∀ x y z, x ≤ y → y ≤ z → LiesI L2 H2 o (x * t) → LiesI L2 H2 o (z * t) → LiesI L2 H2 o (y * t) := fun x y z h1 h2 g1 g2 => by
    rw [liesI] at *
    omega
  have hex : ∃ x, LiesI L2 H2 o (x * t) := by
    by_cases hN : N % t = 0
    · refine ⟨N / t, ?_⟩
      rw [Nat.mul_comm] at hd
      unfold LiesI
      omega
    · have hw := wide.resolve_right hN
      refine ⟨L2 / (2 * t) + 1, ?_⟩
      have d1 := Nat.div_add_mod L2 (2 * t)
      have d2 := Nat.mod_lt L2 (show 0 < 2 * t by omega)
      have e : 2 * ((L2 / (2 * t) + 1) * t) = 2 * t * (L2 / (2 * t)) + 2 * t := by
        rw [Nat.add_mul, Nat.one_mul, Nat.mul_add, Nat.mul_assoc 2 t, Nat.mul_comm t]
      unfold LiesI
      rw [e]
      omega
  obtain ⟨x0, hx0⟩ := hex
  have hx1 := (liesI x0).1 hx0
  obtain ⟨q, hq⟩ := told_of t N L2 H2 o (near_in t N L2 H2 o x0 t0 ho hlo hhi hx0)
  have hqi := (liesI q).1 hq.liesI
  by_cases c1 : dl ≤ dh / 10 * 10
  · rw [if_pos c1]
    exact .inl ⟨rfl, (liesI10 _).2 ⟨c1, by omega⟩⟩
  · rw [if_neg c1]
    have hno : ∀ x, ¬ LiesI L2 H2 o (x * (10 * t)) := fun x hx => by
      have := (liesI10 x).1 hx
      omega
    right
    by_cases c2 : dl < dh
    · rw [if_pos c2]
      refine ⟨rfl, ?_, hno⟩
      show Told t N L2 H2 o (rndU um)
      have i1 : LiesI L2 H2 o (dl * t) := (liesI _).2 ⟨Nat.le_refl _, by omega⟩
      have i2 : LiesI L2 H2 o ((dl + 1) * t) := (liesI _).2 ⟨by omega, by omega⟩
      have hqr : rndU um = q := by
        rw [hr]
        rcases hq with ⟨rfl, a, b⟩ | ⟨rfl, b, a⟩
        · rw [if_pos ?_]
          by_cases hb : LiesI L2 H2 o ((N / t + 1) * t)
          · exact b hb
          · exfalso
            have n1 : dl + 1 ≤ N / t := by
              rcases Nat.lt_or_ge (N / t) (dl + 1) with h | h
              · exact absurd (hcx _ (N / t + 1) _ (by omega) h a i2) hb
              · exact h
            obtain ⟨k, hk⟩ : ∃ k, N / t = k + 1 := ⟨N / t - 1, by omega⟩
            have i3 := hcx dl k (N / t) (by omega) (by omega) i1 a
            rw [hk] at hb hd a
            unfold LiesI at i3 hb a
            have e1 : t * (k + 1) = k * t + t := by rw [Nat.mul_add, Nat.mul_comm]; omega
            have e2 : (k + 1 + 1) * t = k * t + t + t := by rw [Nat.add_mul, Nat.add_mul]; omega
            have e3 : (k + 1) * t = k * t + t := by rw [Nat.add_mul]; omega
            rw [e1] at hd
            rw [e2] at hb
            rw [e3] at a
            generalize k * t = z at *
            omega
        · rw [if_neg ?_]
          by_cases ha : LiesI L2 H2 o (N / t * t)
          · exact a ha
          · have n1 : N / t + 1 ≤ dl := by
              rcases Nat.lt_or_ge dl (N / t + 1) with h | h
              · exact absurd (hcx dl (N / t) _ (by omega) (by omega) i1 b) ha
              · exact h
            have i3 := hcx (N / t + 1) (N / t + 2) (dl + 1) (by omega) (by omega) b i2
            generalize N / t = k at *
            unfold LiesI at i3 ha b
            have e1 : t * k = k * t := Nat.mul_comm _ _
            have e2 : (k + 2) * t = k * t + t + t := by rw [Nat.add_mul]; omega
            have e3 : (k + 1) * t = k * t + t := by rw [Nat.add_mul]; omega
            have e4 : (2 * k + 1) * t = 2 * (k * t) + t := by rw [Nat.add_mul, Nat.mul_assoc]; omega
            rw [e1] at hd
            rw [e2] at i3
            rw [e3] at b
            rw [e4]
            generalize k * t = z at *
            omega
      rw [hqr]
      exact hq
    · rw [if_neg c2]
      have : dl = q := by omega
      refine ⟨rfl, ?_, hno⟩
      show Told t N L2 H2 o dl
      rw [this]
      exact hq

end Go.Proofs.YtnljpbpphdhnpaaGreatDoor
