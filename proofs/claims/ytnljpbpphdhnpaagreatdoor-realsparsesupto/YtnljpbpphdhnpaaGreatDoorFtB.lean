/- Doublings and halvings of reals of 64 bits, exact; the way from there to 32 bits. -/
import Derived.Test.YtnljpbpphdhnpaaGreatDoorRlA
import Derived.Test.YtnljpbpphdhnpaaGreatDoorShC

namespace Go.Proofs.YtnljpbpphdhnpaaGreatDoor
open Go.RowKit Go.PlainAid Go.Lib

/-- the bits of M * 2^(E - 52), M with 53 digits -/
def wD (M : Nat) (E : Int) : Nat := (E + 1022).toNat * 4503599627370496 + M

theorem dconsts : Ieee.double.binade = 4503599627370496 ∧ Ieee.double.infRung = 9218868437227405312 ∧ Ieee.double.leastPlace = -1074 ∧ Ieee.double.signWeight = 9223372036854775808 := by decide

theorem log2_eq {n k : Nat} (h1 : 2 ^ k ≤ n) (h2 : n < 2 ^ (k + 1)) : n.log2 = k := by
  have h0 : n ≠ 0 := by have := Nat.two_pow_pos k; omega
  have a1 : n.log2 < k + 1 := (Nat.log2_lt h0).2 h2
  have a2 : ¬ n.log2 < k := fun h => by have := (Nat.log2_lt h0).1 h; omega
  omega

theorem cut_exact (s : Bool) (M t L : Nat) (_hM : 0 < M) (hL : (M * 2 ^ t).log2 = L) (ht : t ≤ L + 2) : Ieee.Toward.cut .even s (M * 2 ^ t) t = M := by
  have hp : 0 < 2 ^ t := Nat.two_pow_pos t
  unfold Ieee.Toward.cut
  simp only [Nat.one_shiftLeft, hL]
  rw [Nat.min_eq_left ht, Nat.mul_div_cancel _ hp, Nat.mul_mod_left]
  have h1 : decide (2 ^ t < 2 * 0) = false := by simp
  have h2 : (2 ^ t == 2 * 0) = false := by simp
  rw [h1, h2]
  rfl

theorem nearD (M t : Nat) (E place : Int) (h1 : 4503599627370496 ≤ M) (h2 : M < 9007199254740992) (hE : place + 52 + t = E) (lo : -1022 ≤ E) (hi : E ≤ 1023) : Ieee.double.nearest false (M * 2 ^ t) place = wD M E := by
  obtain ⟨c1, c2, c3, c4⟩ := dconsts
  have hp : 0 < 2 ^ t := Nat.two_pow_pos t
  have hlog : (M * 2 ^ t).log2 = 52 + t := by
    apply log2_eq
    · rw [Nat.pow_add]; exact Nat.mul_le_mul_right _ h1
    · rw [show 52 + t + 1 = 53 + t by omega, Nat.pow_add]; exact Nat.mul_lt_mul_of_pos_right h2 hp
  have hne : M * 2 ^ t ≠ 0 := by
    have := Nat.mul_pos (show 0 < M by omega) hp
    omega
  unfold Ieee.Format.nearest
  rw [if_neg hne]
  simp only [c1, c2, c3, hlog, show Ieee.double.fractionBits = 52 from rfl]
  rw [show max (place + ((52 + t : Nat) : Int) - ((52 : Nat) : Int)) (-1074) = place + t by omega]
  rw [show (place - (place + (t : Int))).toNat = 0 by omega, show (place + (t : Int) - place).toNat = t by omega, Nat.shiftLeft_eq, Nat.pow_zero, Nat.mul_one]
  rw [cut_exact false M t (52 + t) (by omega) hlog (by omega)]
  rw [show (place + (t : Int) - -1074).toNat = (E + 1022).toNat by omega]
  unfold Ieee.Format.word wD
  simp only [Bool.false_eq_true, if_false]
  rw [Nat.min_eq_left]
  have : (E + 1022).toNat ≤ 2045 := by omega
  omega

/-- a small whole number as a real of 64 bits -/
theorem nearS (m : Nat) (h0 : 0 < m) (hm : m < 16777216) : Ieee.double.nearest false m 0 = wD (m * 2 ^ (52 - m.log2)) (m.log2 : Int) ∧ 4503599627370496 ≤ m * 2 ^ (52 - m.log2) ∧ m * 2 ^ (52 - m.log2) < 9007199254740992 ∧ m.log2 ≤ 23 := by
  obtain ⟨c1, c2, c3, c4⟩ := dconsts
  have hlo : 2 ^ m.log2 ≤ m := Nat.log2_self_le (by omega)
  have hhi : m < 2 ^ (m.log2 + 1) := Nat.lt_log2_self
  have hL : m.log2 < 24 := (Nat.log2_lt (by omega)).2 hm
  generalize hl : m.log2 = L at hlo hhi hL
  have k1 : 2 ^ L * 2 ^ (52 - L) ≤ m * 2 ^ (52 - L) := Nat.mul_le_mul_right _ hlo
  rw [← Nat.pow_add, show L + (52 - L) = 52 by omega] at k1
  have k2 : m * 2 ^ (52 - L) < 2 ^ (L + 1) * 2 ^ (52 - L) := Nat.mul_lt_mul_of_pos_right hhi (Nat.two_pow_pos _)
  rw [← Nat.pow_add, show L + 1 + (52 - L) = 53 by omega] at k2
  refine ⟨?_, k1, k2, by omega⟩
  unfold Ieee.Format.nearest
  rw [if_neg (by omega)]
  simp only [c1, c2, c3, hl, show Ieee.double.fractionBits = 52 from rfl]
  rw [show max ((0 : Int) + (L : Int) - ((52 : Nat) : Int)) (-1074) = (L : Int) - 52 by omega]
  rw [show ((0 : Int) - ((L : Int) - 52)).toNat = 52 - L by omega, show (((L : Int) - 52) - 0).toNat = 0 by omega, Nat.shiftLeft_eq]
  have hcut : Ieee.Toward.cut .even false (m * 2 ^ (52 - L)) 0 = m * 2 ^ (52 - L) := by
    unfold Ieee.Toward.cut
    simp [Nat.mod_one]
  rw [hcut, show (((L : Int) - 52) - -1074).toNat = ((L : Int) + 1022).toNat by omega]
  unfold Ieee.Format.word wD
  simp only [Bool.false_eq_true, if_false]
  rw [Nat.min_eq_left]
  have : ((L : Int) + 1022).toNat ≤ 1046 := by omega
  have k3 : m * 2 ^ (52 - L) < 9007199254740992 := k2
  omega

theorem readD (M : Nat) (E : Int) (h1 : 4503599627370496 ≤ M) (h2 : M < 9007199254740992) (lo : -1022 ≤ E) (hi : E ≤ 1023) : Ieee.double.read (wD M E) = .number false M (E - 52) := by
  obtain ⟨c1, c2, c3, c4⟩ := dconsts
  obtain ⟨q, hq⟩ : ∃ q : Nat, (E + 1022).toNat = q := ⟨_, rfl⟩
  have hq2 : q ≤ 2045 := by omega
  unfold wD
  rw [hq]
  unfold Ieee.Format.read
  simp only [c1, c2, c3, c4]
  rw [show (q * 4503599627370496 + M) % 9223372036854775808 = q * 4503599627370496 + M by omega, show (q * 4503599627370496 + M) / 9223372036854775808 % 2 = 0 by omega]
  rw [if_neg (by omega), if_pos (by omega), show (q * 4503599627370496 + M) % 4503599627370496 = M - 4503599627370496 by omega, show (q * 4503599627370496 + M) / 4503599627370496 - 1 = q by omega]
  rw [show 4503599627370496 + (M - 4503599627370496) = M by omega, show (-1074 : Int) + (q : Int) = E - 52 by omega]
  rfl

theorem read2 : Ieee.double.read 4611686018427387904 = .number false 4503599627370496 (-51) := by decide

theorem mul2 (M : Nat) (E : Int) (h1 : 4503599627370496 ≤ M) (h2 : M < 9007199254740992) (lo : -1022 ≤ E) (hi : E ≤ 1022) : Ieee.double.mul (wD M E) 4611686018427387904 = some (wD M (E + 1)) := by
  unfold Ieee.Format.mul
  rw [readD M E h1 h2 lo (by omega), read2]
  simp only [Ieee.Datum.product, Option.map_some, Ieee.Format.write]
  congr 1
  exact nearD M 52 (E + 1) _ h1 h2 (by omega) (by omega) (by omega)

theorem div2 (M : Nat) (E : Int) (h1 : 4503599627370496 ≤ M) (h2 : M < 9007199254740992) (lo : -1021 ≤ E) (hi : E ≤ 1023) : Ieee.double.div (wD M E) 4611686018427387904 = some (wD M (E - 1)) := by
  unfold Ieee.Format.div
  rw [readD M E h1 h2 (by omega) hi, read2]
  have hlM : M.log2 = 52 := log2_eq h1 h2
  have hl2 : (4503599627370496 : Nat).log2 = 52 := by decide
  simp only [Ieee.Datum.quotient, hlM, hl2, show Ieee.double.fractionBits = 52 from rfl]
  rw [if_neg (by decide)]
  simp only [Option.map_some, Ieee.Format.write, Nat.shiftLeft_eq]
  congr 1
  have e1 : M * 2 ^ (52 + 2 + 52 - 52) / 4503599627370496 = M * 4 := by
    rw [show M * 2 ^ (52 + 2 + 52 - 52) = M * 4 * 4503599627370496 by rw [Nat.mul_assoc]]
    exact Nat.mul_div_cancel _ (by omega)
  have e2 : M * 2 ^ (52 + 2 + 52 - 52) % 4503599627370496 = 0 := by
    rw [show M * 2 ^ (52 + 2 + 52 - 52) = M * 4 * 4503599627370496 by rw [Nat.mul_assoc]]
    exact Nat.mul_mod_left _ _
  rw [e1, e2]
  rw [show 2 * (M * 4) + ((0 : Nat) != 0).toNat = M * 2 ^ 3 by simp; omega]
  exact nearD M 3 (E - 1) _ h1 h2 (by omega) (by omega) (by omega)

theorem div0 : Ieee.double.div 0 4611686018427387904 = some 0 := by decide

/-- what a rung of 32 bits is worth, and the way back from 64 bits -/
def atM (n : Nat) : Nat := if n < 8388608 then n else 8388608 + n % 8388608
def atE (n : Nat) : Int := if n < 8388608 then -149 else (n / 8388608 : Nat) - 150

theorem toSingle (n : Nat) (h0 : 0 < n) (hn : n < 2139095040) : Ieee.single.nearest false (atM n * 2 ^ (52 - (atM n).log2)) (((atM n).log2 : Int) + atE n - 52) = n := by
  have e2 : Ieee.single.binade = 8388608 := by decide
  have e3 : Ieee.single.infRung = 2139095040 := by decide
  have e4 : Ieee.single.leastPlace = -149 := by decide
  have hm0 : 0 < atM n := by unfold atM; split <;> omega
  have hm1 : atM n < 16777216 := by unfold atM; split <;> omega
  obtain ⟨_, k1, k2, k3⟩ := nearS (atM n) hm0 hm1
  generalize hL : (atM n).log2 = L at k1 k2 k3
  have hlog : (atM n * 2 ^ (52 - L)).log2 = 52 := log2_eq k1 k2
  unfold Ieee.Format.nearest
  rw [if_neg (by omega)]
  simp only [e2, e3, e4, hlog, show Ieee.single.fractionBits = 23 from rfl]
  by_cases hs : n < 8388608
  · have hE : atE n = -149 := by unfold atE; rw [if_pos hs]
    have hM : atM n = n := by unfold atM; rw [if_pos hs]
    have hL22 : L ≤ 22 := by
      rw [← hL, hM]
      have := (Nat.log2_lt (show n ≠ 0 by omega)).2 (show n < 2 ^ 23 from hs)
      omega
    rw [hE]
    rw [show max ((L : Int) + -149 - 52 + ((52 : Nat) : Int) - ((23 : Nat) : Int)) (-149) = -149 by omega]
    rw [show ((L : Int) + -149 - 52 - -149).toNat = 0 by omega, show ((-149 : Int) - ((L : Int) + -149 - 52)).toNat = 52 - L by omega, Nat.shiftLeft_eq, Nat.pow_zero, Nat.mul_one]
    rw [cut_exact false (atM n) (52 - L) 52 hm0 hlog (by omega), hM]
    unfold Ieee.Format.word
    simp
    omega
  · have hE : atE n = (n / 8388608 : Nat) - 150 := by unfold atE; rw [if_neg hs]
    have hM : atM n = 8388608 + n % 8388608 := by unfold atM; rw [if_neg hs]
    have hL23 : L = 23 := by
      rw [← hL, hM]
      exact log2_eq (by omega) (by omega)
    subst hL23
    rw [hE]
    rw [show max (((23 : Nat) : Int) + (((n / 8388608 : Nat) : Int) - 150) - 52 + ((52 : Nat) : Int) - ((23 : Nat) : Int)) (-149) = ((n / 8388608 : Nat) : Int) - 150 by omega]
    rw [show (((23 : Nat) : Int) + (((n / 8388608 : Nat) : Int) - 150) - 52 - (((n / 8388608 : Nat) : Int) - 150)).toNat = 0 by omega, show ((((n / 8388608 : Nat) : Int) - 150) - (((23 : Nat) : Int) + (((n / 8388608 : Nat) : Int) - 150) - 52)).toNat = 29 by omega, Nat.shiftLeft_eq, Nat.pow_zero, Nat.mul_one]
    rw [cut_exact false (atM n) 29 52 hm0 hlog (by omega), hM]
    rw [show ((((n / 8388608 : Nat) : Int) - 150) - -149).toNat = n / 8388608 - 1 by omega]
    unfold Ieee.Format.word
    simp only [Bool.false_eq_true, if_false]
    rw [Nat.min_eq_left] <;> omega

end Go.Proofs.YtnljpbpphdhnpaaGreatDoor



/- The library's shortFloat in one, for every float32 above 0. -/
namespace Go.Proofs.YtnljpbpphdhnpaaGreatDoor
open Go.RowKit Go.PlainAid

/-- is it a power of two whose lower neighbour stands at half the distance? -/
def skw (n : Nat) : Bool := decide (n % 8388608 = 0) && decide (16777216 ≤ n)
def jF (n : Nat) : Nat := if skw n then jS (atE n) else jN (atE n)
/-- four times a worth of so many quarters, brought to the scale, cut -/
def u4 (n X : Nat) : Nat := uN (X * 2 ^ (atE n).toNat * 10 ^ (jF n - 31)) (2 ^ (-(atE n)).toNat * 10 ^ (31 - jF n))
def xlo (n : Nat) : Nat := if skw n then 4 * atM n - 1 else 4 * atM n - 2
/-- the digits as a number, and the power of ten of the last one -/
def shN (n : Nat) : Nat × Nat := shD (u4 n (xlo n)) (u4 n (4 * atM n + 2)) (u4 n (4 * atM n)) (atM n % 2)
def dF (n : Nat) : Nat := (shN n).1
def pF (n : Nat) : Int := 31 - (jF n : Int) + ((shN n).2 : Int)

def scaleOk (E : Int) (j : Nat) : Prop := 2 ^ (-E).toNat * 10 ^ (31 - j) ≤ 2 ^ E.toNat * 10 ^ (j - 31) ∧ 2 ^ E.toNat * 10 ^ (j - 31) ≤ 14 * (2 ^ (-E).toNat * 10 ^ (31 - j))
instance (E : Int) (j : Nat) : Decidable (scaleOk E j) := by unfold scaleOk; infer_instance
theorem scales_ok : ∀ n : Nat, n < 254 → scaleOk ((n : Int) - 149) (jN ((n : Int) - 149)) ∧ (1 ≤ n → scaleOk ((n : Int) - 149) (jS ((n : Int) - 149))) := by
  decide +kernel
theorem uN_bounds (a b lo hi : Nat) (hb : 0 < b) (h1 : lo * b ≤ a) (h2 : a ≤ hi * b) : lo ≤ uN a b ∧ uN a b ≤ hi + 1 := by
  have g1 : lo ≤ a / b := (Nat.le_div_iff_mul_le hb).2 h1
  have g2 : a / b ≤ hi := Nat.div_le_of_le_mul (by rw [Nat.mul_comm]; exact h2)
  unfold uN
  split <;> omega
theorem at_facts (n : Nat) (h1 : 1 ≤ n) (h2 : n < 2139095040) : -149 ≤ atE n ∧ atE n ≤ 104 ∧ 1 ≤ atM n ∧ atM n < 16777216 ∧ (8388608 ≤ n → 8388608 ≤ atM n) ∧ (n < 8388608 → atM n = n ∧ atE n = -149) ∧ (skw n = true → atM n = 8388608 ∧ -148 ≤ atE n) ∧ (skw n = false → 8388608 ≤ n → atM n = 8388608 → atE n = -149) := by
  unfold atE atM skw
  by_cases h : n < 8388608
  · simp only [if_pos h]
    refine ⟨by omega, by omega, by omega, by omega, fun h5 => absurd h5 (by omega), by simp, fun hs => ?_, fun _ h5 _ => absurd h5 (by omega)⟩
    simp at hs
    omega
  · simp only [if_neg h]
    refine ⟨by omega, by omega, by omega, by omega, fun _ => by omega, fun h6 => absurd h6 h, fun hs => ?_, fun hs _ hm => ?_⟩
    · simp at hs
      omega
    · simp at hs
      have : n % 8388608 = 0 := by omega
      have := hs this
      omega
theorem row_of (n : Nat) (h1 : 1 ≤ n) (h2 : n < 2139095040) : rowOk (atE n) (jF n) ∧ scaleOk (atE n) (jF n) := by
  obtain ⟨a1, a2, _, _, _, _, a7, _⟩ := at_facts n h1 h2
  obtain ⟨k, hk⟩ : ∃ k : Nat, atE n = (k : Int) - 149 := ⟨(atE n + 149).toNat, by omega⟩
  have hk2 : k < 254 := by omega
  unfold jF
  by_cases hs : skw n = true
  · rw [if_pos hs]
    have := (a7 hs).2
    rw [hk]
    exact ⟨(rows_ok k hk2).2 (by omega), (scales_ok k hk2).2 (by omega)⟩
  · rw [if_neg hs, hk]
    exact ⟨(rows_ok k hk2).1, (scales_ok k hk2).1⟩
theorem u4_bounds (n X : Nat) (h1 : 1 ≤ n) (h2 : n < 2139095040) : X ≤ u4 n X ∧ u4 n X ≤ 14 * X + 1 := by
  obtain ⟨_, s1, s2⟩ := row_of n h1 h2
  unfold u4
  have hb : 0 < 2 ^ (-(atE n)).toNat * 10 ^ (31 - jF n) := Nat.mul_pos (Nat.two_pow_pos _) (Nat.pow_pos (by decide))
  refine uN_bounds _ _ _ _ hb ?_ ?_
  · rw [Nat.mul_assoc X]
    exact Nat.mul_le_mul_left _ s1
  · rw [Nat.mul_assoc X, Nat.mul_comm 14 X, Nat.mul_assoc X]
    exact Nat.mul_le_mul_left _ s2
end Go.Proofs.YtnljpbpphdhnpaaGreatDoor

/- The library's shortFloat in one, for every float32 above 0: its contract. -/
namespace Go.Proofs.YtnljpbpphdhnpaaGreatDoor
open Go.RowKit Go.PlainAid

/-- the powers of ten from -31 to 45, as they are laid -/
def TabR (w : World) : Prop := ∀ j, j < 77 → w.cell? ⟨15, (317 + j) * 2, none⟩ = some (.int .u64 (hiR j : Int)) ∧ w.cell? ⟨15, (317 + j) * 2 + 1, none⟩ = some (.int .u64 (loR j : Int))
/-- how far a worth's whole number is brought up -/
def upF (n : Nat) : Nat := 63 - (atM n).log2

theorem smax_ok : ∀ n : Nat, n < 254 → 37 - ((n : Int) - 149) - lpR (jN ((n : Int) - 149)) ≤ 40 ∧ 37 - ((n : Int) - 149) - lpR (jS ((n : Int) - 149)) ≤ 40 := by
  decide +kernel
theorem smax (n : Nat) (h1 : 1 ≤ n) (h2 : n < 2139095040) : 37 - atE n - lpR (jF n) ≤ 40 := by
  obtain ⟨a1, a2, _⟩ := at_facts n h1 h2
  obtain ⟨k, hk⟩ : ∃ k : Nat, atE n = (k : Int) - 149 := ⟨(atE n + 149).toNat, by omega⟩
  have := smax_ok k (by omega)
  unfold jF
  rw [hk]
  split
  · exact this.2
  · exact this.1
theorem short_all (n : Nat) (h1 : 1 ≤ n) (h2 : n < 2139095040) (w : World) (hT : TabR w) :
    Calls Tryz.prog 138 #[.int .u64 ((atM n * 2 ^ upF n : Nat) : Int), .int .i64 (atE n - (upF n : Int))] w fun r w' => r = .returned (.tuple #[.int .u64 ((dF n : Nat) : Int), .int .i64 (pF n)]) ∧ ∃ (o : Obj) (k : Nat), w' = (w.alloc o).drewN k := by
  obtain ⟨a1, a2, a3, a4, a5, a6, a7, a8⟩ := at_facts n h1 h2
  obtain ⟨r1, r2⟩ := row_of n h1 h2
  have hj := r1.1
  obtain ⟨c0, c1⟩ := hT (jF n) hj
  have hlp := row_facts (jF n) hj
  have hsk : ∀ X t s : Nat, X < 67108867 → 38 ≤ t → X * 2 ^ t + 4 ≤ 18446744073709551616 → (s : Int) = (t : Int) - 1 - atE n - lpR (jF n) → uscN (X * 2 ^ t) (hiR (jF n)) (loR (jF n)) s = u4 n X := fun X t s hX ht hx hs => usc_any (atE n) (jF n) X s t hX ht hx hs r1
  have hb := u4_bounds n
  have hM4 : 4 * atM n + 2 < 67108867 := by omega
  have hlo : 2 ≤ xlo n ∧ xlo n ≤ 4 * atM n := by unfold xlo; split <;> omega
  have bl := hb (xlo n) h1 h2
  have bh := hb (4 * atM n + 2) h1 h2
  have bm := hb (4 * atM n) h1 h2
  have hs34 := r1.2.2.1
  by_cases hn : 8388608 ≤ n
  · -- 2 to the power 23 or more
    have hM := a5 hn
    have hlog : (atM n).log2 = 23 := by
      have g1 : (atM n).log2 < 24 := (Nat.log2_lt (by omega)).2 (by omega)
      have g2 : 23 ≤ (atM n).log2 := (Nat.le_log2 (by omega)).2 (by omega)
      omega
    have hsF : upF n = 40 := by unfold upF; omega
    rw [hsF]
    obtain ⟨s, hs⟩ : ∃ s : Nat, (s : Int) = 37 - atE n - lpR (jF n) := ⟨(37 - atE n - lpR (jF n)).toNat, by omega⟩
    have hs64 : s < 64 := by
      have := (smax n h1 h2)
      omega
    have hul := hsk (xlo n) 38 s (by omega) (by omega) (by omega) (by omega)
    have huh := hsk (4 * atM n + 2) 38 s hM4 (by omega) (by omega) (by omega)
    have hum := hsk (4 * atM n) 38 s (by omega) (by omega) (by omega) (by omega)
    have p38 : (2 : Nat) ^ 38 = 274877906944 := by decide
    have p40 : (2 : Nat) ^ 40 = 1099511627776 := by decide
    rw [p38] at hul huh hum
    rw [p40]
    have huh2 : uscN (atM n * 1099511627776 + 549755813888) (hiR (jF n)) (loR (jF n)) s = u4 n (4 * atM n + 2) := by
      rw [show atM n * 1099511627776 + 549755813888 = (4 * atM n + 2) * 274877906944 by omega]; exact huh
    have hum2 : uscN (atM n * 1099511627776) (hiR (jF n)) (loR (jF n)) s = u4 n (4 * atM n) := by
      rw [show atM n * 1099511627776 = 4 * atM n * 274877906944 by omega]; exact hum
    unfold dF pF shN
    by_cases hs1 : skw n = true
    · obtain ⟨hM2, hE2⟩ := a7 hs1
      have hx : xlo n = 4 * atM n - 1 := by unfold xlo; rw [if_pos hs1]
      have hjE : ((jF n : Nat) : Int) = 31 - (((atE n - 40 + 40) * 631305 - 261663) / 2097152) := by
        unfold jF jS; rw [if_pos hs1]; omega
      have hul2 : uscN (atM n * 1099511627776 - 274877906944) (hiR (jF n)) (loR (jF n)) s = u4 n (xlo n) := by
        rw [show atM n * 1099511627776 - 274877906944 = xlo n * 274877906944 by omega]; exact hul
      rw [show atM n % 2 = 0 by omega]
      refine (short_S0 (atM n * 1099511627776) (atM n) (atE n - 40) (jF n) s _ _ _ (by omega) (by omega) (by omega) (by omega) (by omega) ⟨by omega, by omega⟩ hjE hj (by omega) hs64 hul2 huh2 hum2 (by omega) (by omega) (by omega) w c0 c1).mono ?_
      rintro e w' ⟨he, k, hw⟩
      exact ⟨he, _, k, hw⟩
    · have hs0 : skw n = false := by simpa using hs1
      have hx : xlo n = 4 * atM n - 2 := by unfold xlo; rw [if_neg hs1]
      have hjE : ((jF n : Nat) : Int) = 31 - ((atE n - 40 + 40) * 78913 / 262144) := by
        unfold jF jN; rw [if_neg hs1]; omega
      have hul2 : uscN (atM n * 1099511627776 - 549755813888) (hiR (jF n)) (loR (jF n)) s = u4 n (xlo n) := by
        rw [show atM n * 1099511627776 - 549755813888 = xlo n * 274877906944 by omega]; exact hul
      by_cases hM3 : atM n = 8388608
      · have hE3 := a8 hs0 hn hM3
        rw [show atM n % 2 = 0 by omega]
        refine (short_L0 (atM n * 1099511627776) (atM n) (atE n - 40) (jF n) s _ _ _ (by omega) (by omega) (by omega) (by omega) (by omega) ⟨by omega, by omega⟩ hjE hj (by omega) hs64 hul2 huh2 hum2 (by omega) (by omega) (by omega) w c0 c1).mono ?_
        rintro e w' ⟨he, k, hw⟩
        exact ⟨he, _, k, hw⟩
      · by_cases ho : atM n % 2 = 0
        · rw [ho]
          refine (short_N0 (atM n * 1099511627776) (atM n) (atE n - 40) (jF n) s _ _ _ (by omega) (by omega) (by omega) (by omega) (by omega) (by omega) hjE hj (by omega) hs64 hul2 huh2 hum2 (by omega) (by omega) (by omega) w c0 c1).mono ?_
          rintro e w' ⟨he, k, hw⟩
          exact ⟨he, _, k, hw⟩
        · have ho1 : atM n % 2 = 1 := by omega
          rw [ho1]
          refine (short_N1 (atM n * 1099511627776) (atM n) (atE n - 40) (jF n) s _ _ _ (by omega) (by omega) (by omega) (by omega) (by omega) (by omega) hjE hj (by omega) hs64 hul2 huh2 hum2 (by omega) (by omega) (by omega) w c0 c1).mono ?_
          rintro e w' ⟨he, k, hw⟩
          exact ⟨he, _, k, hw⟩
  · -- below that
    obtain ⟨hMn, hEn⟩ := a6 (by omega)
    have hs0 : skw n = false := by
      unfold skw
      simp
      omega
    have hx : xlo n = 4 * atM n - 2 := by unfold xlo; rw [hs0]; rfl
    have hj76 : jF n = 76 := by
      unfold jF
      rw [hs0, hEn]
      decide
    have hl1 := Nat.log2_self_le (show atM n ≠ 0 by omega)
    have hl2 : atM n < 2 ^ ((atM n).log2 + 1) := Nat.lt_log2_self
    have hlog : (atM n).log2 < 23 := (Nat.log2_lt (by omega)).2 (by omega)
    obtain ⟨t, ht⟩ : ∃ t, t = upF n - 2 := ⟨_, rfl⟩
    have hz : upF n = t + 2 := by unfold upF at *; omega
    have hz41 : 41 ≤ upF n ∧ upF n ≤ 63 := by unfold upF; omega
    have hlt : (atM n).log2 + (t + 2) = 63 := by unfold upF at *; omega
    have e1 : 2 ^ (t + 2) = 4 * 2 ^ t := by rw [Nat.pow_add]; omega
    have e2 : 2 ^ (t + 2 - 1) = 2 * 2 ^ t := by rw [show t + 2 - 1 = t + 1 by omega, Nat.pow_succ]; omega
    have e3 : 2 ^ (atM n).log2 * 2 ^ (t + 2) = 9223372036854775808 := by
      rw [← Nat.pow_add, hlt]
    have e4 : 2 ^ ((atM n).log2 + 1) * 2 ^ (t + 2) = 18446744073709551616 := by
      rw [Nat.pow_succ, Nat.mul_right_comm, e3]
    have b1 : 9223372036854775808 ≤ atM n * 2 ^ (t + 2) := by
      rw [← e3]
      exact Nat.mul_le_mul_right _ hl1
    have b2 : (atM n + 1) * 2 ^ (t + 2) ≤ 18446744073709551616 := by
      rw [← e4]
      exact Nat.mul_le_mul_right _ hl2
    have b3 : 2 ^ 39 ≤ 2 ^ t := Nat.pow_le_pow_right (by decide) (by omega)
    have p39 : (2 : Nat) ^ 39 = 549755813888 := by decide
    rw [p39] at b3
    rw [Nat.add_mul, Nat.one_mul] at b2
    have hs : ((t - 1 : Nat) : Int) = (t : Int) - 1 - atE n - lpR (jF n) := by
      have : lpR 76 = 149 := by decide
      rw [hj76, this, hEn]
      omega
    have m1 : xlo n * 2 ^ t + 2 * 2 ^ t = atM n * 2 ^ (t + 2) := by
      rw [hx, e1, ← Nat.add_mul, show 4 * atM n - 2 + 2 = 4 * atM n by omega, Nat.mul_comm 4 (atM n), Nat.mul_assoc]
    have m2 : atM n * 2 ^ (t + 2) + 2 * 2 ^ t = (4 * atM n + 2) * 2 ^ t := by
      rw [e1, Nat.add_mul, Nat.mul_comm 4 (atM n), Nat.mul_assoc]
    have m3 : atM n * 2 ^ (t + 2) = 4 * atM n * 2 ^ t := by rw [e1, Nat.mul_comm 4 (atM n), Nat.mul_assoc]
    have hul := hsk (xlo n) t (t - 1) (by omega) (by omega) (by omega) hs
    have huh := hsk (4 * atM n + 2) t (t - 1) hM4 (by omega) (by omega) hs
    have hum := hsk (4 * atM n) t (t - 1) (by omega) (by omega) (by omega) hs
    rw [← m2] at huh
    rw [← m3] at hum
    rw [hj76] at hul huh hum c0 c1
    rw [hz]
    unfold dF pF shN
    rw [hj76]
    have hdiv : atM n * 2 ^ (t + 2) / 2 ^ (t + 2) = atM n := Nat.mul_div_cancel _ (Nat.two_pow_pos _)
    rw [hz] at hz41
    have he : atE n - ((t + 2 : Nat) : Int) = -149 - ((t + 2 : Nat) : Int) := by omega
    rw [he]
    have hpost : (31 : Int) - ((76 : Nat) : Int) = -45 := by decide
    rw [hpost]
    by_cases ho : atM n % 2 = 0
    · rw [ho]
      by_cases hm : atM n * 2 ^ (t + 2) = 9223372036854775808
      · refine (short_V0 (atM n * 2 ^ (t + 2)) (atM n) (t + 2) (xlo n * 2 ^ t) (atM n * 2 ^ (t + 2) + 2 * 2 ^ t) (-149 - ((t + 2 : Nat) : Int)) (t - 1) _ _ _ hz41 rfl hm (by omega) (by omega) (by omega) hdiv ho (by omega) (by omega) (by omega) hul huh hum (by omega) (by omega) (by omega) w c0 c1).mono ?_
        rintro e w' ⟨he, k, hw⟩
        exact ⟨he, _, k, hw⟩
      · refine (short_U0 (atM n * 2 ^ (t + 2)) (atM n) (t + 2) (xlo n * 2 ^ t) (atM n * 2 ^ (t + 2) + 2 * 2 ^ t) (-149 - ((t + 2 : Nat) : Int)) (t - 1) _ _ _ hz41 rfl hm (by omega) (by omega) (by omega) hdiv ho (by omega) (by omega) (by omega) hul huh hum (by omega) (by omega) (by omega) w c0 c1).mono ?_
        rintro e w' ⟨he, k, hw⟩
        exact ⟨he, _, k, hw⟩
    · have ho1 : atM n % 2 = 1 := by omega
      rw [ho1]
      by_cases hm : atM n * 2 ^ (t + 2) = 9223372036854775808
      · refine (short_V1 (atM n * 2 ^ (t + 2)) (atM n) (t + 2) (xlo n * 2 ^ t) (atM n * 2 ^ (t + 2) + 2 * 2 ^ t) (-149 - ((t + 2 : Nat) : Int)) (t - 1) _ _ _ hz41 rfl hm (by omega) (by omega) (by omega) hdiv ho1 (by omega) (by omega) (by omega) hul huh hum (by omega) (by omega) (by omega) w c0 c1).mono ?_
        rintro e w' ⟨he, k, hw⟩
        exact ⟨he, _, k, hw⟩
      · refine (short_U1 (atM n * 2 ^ (t + 2)) (atM n) (t + 2) (xlo n * 2 ^ t) (atM n * 2 ^ (t + 2) + 2 * 2 ^ t) (-149 - ((t + 2 : Nat) : Int)) (t - 1) _ _ _ hz41 rfl hm (by omega) (by omega) (by omega) hdiv ho1 (by omega) (by omega) (by omega) hul huh hum (by omega) (by omega) (by omega) w c0 c1).mono ?_
        rintro e w' ⟨he, k, hw⟩
        exact ⟨he, _, k, hw⟩
end Go.Proofs.YtnljpbpphdhnpaaGreatDoor
