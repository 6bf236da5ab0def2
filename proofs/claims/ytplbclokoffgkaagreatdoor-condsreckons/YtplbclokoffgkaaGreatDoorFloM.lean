/- How two reals of 32 bits stand to one another, told by their bits. -/
import Derived.Test.YtplbclokoffgkaaGreatDoorNumW
namespace Go.Proofs.YtplbclokoffgkaaGreatDoor
open Go.RowKit Go.PlainAid Go.Lib

theorem cmp_congr {a b c d : Int} (h1 : a < b ↔ c < d) (h2 : a = b ↔ c = d) : compare a b = compare c d := by
  show compareOfLessAndEq a b = compareOfLessAndEq c d
  unfold compareOfLessAndEq
  simp only [h1, h2]

/-- the rung of the bits, and with its sign -/
def rungN (x : Nat) : Nat := x % 2147483648
def srungZ (x : Nat) : Int := if x / 2147483648 % 2 = 1 then -(rungN x : Int) else (rungN x : Int)

/-- the worth of a rung that is finite, in units of 2^-149 -/
def valN (r : Nat) : Nat := if r < 8388608 then r else (8388608 + r % 8388608) * 2 ^ (r / 8388608 - 1)

theorem valN_lt {r s : Nat} (h : r < s) : valN r < valN s := by
  unfold valN
  have hp : ∀ k : Nat, 0 < 2 ^ k := fun k => Nat.two_pow_pos k
  by_cases hr : r < 8388608
  · rw [if_pos hr]
    by_cases hs : s < 8388608
    · rw [if_pos hs]; exact h
    · rw [if_neg hs]
      have h1 := hp (s / 8388608 - 1)
      have h2 : (8388608 + s % 8388608) * 1 ≤ (8388608 + s % 8388608) * 2 ^ (s / 8388608 - 1) := Nat.mul_le_mul_left _ h1
      omega
  · rw [if_neg hr, if_neg (by omega)]
    by_cases hq : r / 8388608 = s / 8388608
    · rw [hq]
      exact Nat.mul_lt_mul_of_pos_right (by omega) (hp _)
    · have hq1 : r / 8388608 + 1 ≤ s / 8388608 := by omega
      have h1 : (8388608 + r % 8388608) * 2 ^ (r / 8388608 - 1) < 16777216 * 2 ^ (r / 8388608 - 1) := Nat.mul_lt_mul_of_pos_right (by omega) (hp _)
      have h2 : 16777216 * 2 ^ (r / 8388608 - 1) = 8388608 * 2 ^ (r / 8388608) := by
        have : r / 8388608 = r / 8388608 - 1 + 1 := by omega
        conv => rhs; rw [this, Nat.pow_succ]
        omega
      have h3 : 2 ^ (r / 8388608) ≤ 2 ^ (s / 8388608 - 1) := Nat.pow_le_pow_right (by omega) (by omega)
      have h4 : 8388608 * 2 ^ (r / 8388608) ≤ 8388608 * 2 ^ (s / 8388608 - 1) := Nat.mul_le_mul_left _ h3
      have h5 : 8388608 * 2 ^ (s / 8388608 - 1) ≤ (8388608 + s % 8388608) * 2 ^ (s / 8388608 - 1) := Nat.mul_le_mul_right _ (by omega)
      omega
theorem valN_inj {r s : Nat} : valN r = valN s ↔ r = s := by
  constructor
  · intro h
    rcases Nat.lt_trichotomy r s with h1 | h1 | h1
    · have := valN_lt h1; omega
    · exact h1
    · have := valN_lt h1; omega
  · intro h; rw [h]
theorem valN_iff {r s : Nat} : valN r < valN s ↔ r < s := by
  constructor
  · intro h
    rcases Nat.lt_trichotomy r s with h1 | h1 | h1
    · exact h1
    · rw [h1] at h; omega
    · have := valN_lt h1; omega
  · exact valN_lt
theorem valN_zero : valN 0 = 0 := rfl
theorem valN_pos {r : Nat} (h : 0 < r) : 0 < valN r := by have := valN_lt h; rw [valN_zero] at this; omega

/-- the worth with its sign -/
def svalZ (x : Nat) : Int := if x / 2147483648 % 2 = 1 then -(valN (rungN x) : Int) else (valN (rungN x) : Int)

/-- the bits as a datum: a number, whose worth is told by 'valN' -/
theorem read_num (x : Nat) (h : rungN x < 2139095040) : ∃ m : Nat, ∃ up : Nat, Ieee.single.read x = .number (x / 2147483648 % 2 == 1) m (-149 + (up : Int)) ∧ m * 2 ^ up = valN (rungN x) := by
  have e1 : Ieee.single.signWeight = 2147483648 := by decide
  have e2 : Ieee.single.binade = 8388608 := by decide
  have e3 : Ieee.single.infRung = 2139095040 := by decide
  have e4 : Ieee.single.leastPlace = -149 := by decide
  unfold rungN at h ⊢
  unfold Ieee.Format.read valN
  simp only [e1, e2, e3, e4]
  by_cases hb : x % 2147483648 < 8388608
  · rw [if_pos hb, if_pos hb]
    exact ⟨x % 2147483648, 0, by simp, by simp⟩
  · rw [if_neg hb, if_pos h, if_neg hb]
    exact ⟨_, _, rfl, rfl⟩
theorem read_inf (x : Nat) (h : rungN x = 2139095040) : Ieee.single.read x = .infinity (x / 2147483648 % 2 == 1) := by
  have e1 : Ieee.single.signWeight = 2147483648 := by decide
  have e2 : Ieee.single.binade = 8388608 := by decide
  have e3 : Ieee.single.infRung = 2139095040 := by decide
  unfold rungN at h
  unfold Ieee.Format.read
  simp only [e1, e2, e3, h]
  rfl
theorem read_nan (x : Nat) (h : 2139095040 < rungN x) : ∃ f, Ieee.single.read x = .nan (x / 2147483648 % 2 == 1) f := by
  have e1 : Ieee.single.signWeight = 2147483648 := by decide
  have e2 : Ieee.single.binade = 8388608 := by decide
  have e3 : Ieee.single.infRung = 2139095040 := by decide
  unfold rungN at h
  unfold Ieee.Format.read
  simp only [e1, e2, e3]
  rw [if_neg (by omega), if_neg (by omega), if_neg (by omega)]
  exact ⟨_, rfl⟩

theorem signed_mul (s : Bool) (m up k : Nat) : Ieee.signed s m up * (2 ^ k : Nat) = if s then -((m * 2 ^ (up + k) : Nat) : Int) else ((m * 2 ^ (up + k) : Nat) : Int) := by
  unfold Ieee.signed
  rw [Nat.shiftLeft_eq]
  cases s
  · simp only [Bool.false_eq_true, if_false]
    rw [Nat.pow_add, ← Nat.mul_assoc]
    simp
  · simp only [if_true]
    rw [Nat.pow_add, ← Nat.mul_assoc]
    simp [Int.neg_mul]

theorem scale_lt (a b : Int) (k : Nat) : a < b ↔ a * (2 ^ k : Nat) < b * (2 ^ k : Nat) := by
  have h : (0 : Int) < ((2 ^ k : Nat) : Int) := by exact_mod_cast Nat.two_pow_pos k
  constructor
  · exact fun hl => Int.mul_lt_mul_of_pos_right hl h
  · exact fun hl => Int.lt_of_mul_lt_mul_right hl (Int.le_of_lt h)
theorem scale_eq (a b : Int) (k : Nat) : a = b ↔ a * (2 ^ k : Nat) = b * (2 ^ k : Nat) := by
  have h : ((2 ^ k : Nat) : Int) ≠ 0 := by have := Nat.two_pow_pos k; omega
  constructor
  · intro e; rw [e]
  · exact fun e => Int.eq_of_mul_eq_mul_right h e

theorem order_num (x y : Nat) (hx : rungN x < 2139095040) (hy : rungN y < 2139095040) : Ieee.single.order x y = some (compare (svalZ x) (svalZ y)) := by
  obtain ⟨m, i, rx, vx⟩ := read_num x hx
  obtain ⟨n, j, ry, vy⟩ := read_num y hy
  unfold Ieee.Format.order
  rw [rx, ry]
  simp only [Ieee.Datum.order]
  congr 1
  have hmin : min (-149 + (i : Int)) (-149 + (j : Int)) = -149 + ((min i j : Nat) : Int) := by omega
  rw [hmin]
  have e1 : (-149 + (i : Int) - (-149 + ((min i j : Nat) : Int))).toNat = i - min i j := by omega
  have e2 : (-149 + (j : Int) - (-149 + ((min i j : Nat) : Int))).toNat = j - min i j := by omega
  rw [e1, e2]
  have f1 := signed_mul (x / 2147483648 % 2 == 1) m (i - min i j) (min i j)
  have f2 := signed_mul (y / 2147483648 % 2 == 1) n (j - min i j) (min i j)
  rw [show i - min i j + min i j = i by omega, vx] at f1
  rw [show j - min i j + min i j = j by omega, vy] at f2
  have g1 : (if (x / 2147483648 % 2 == 1) = true then -((valN (rungN x) : Nat) : Int) else ((valN (rungN x) : Nat) : Int)) = svalZ x := by
    unfold svalZ; simp
  have g2 : (if (y / 2147483648 % 2 == 1) = true then -((valN (rungN y) : Nat) : Int) else ((valN (rungN y) : Nat) : Int)) = svalZ y := by
    unfold svalZ; simp
  rw [g1] at f1
  rw [g2] at f2
  apply cmp_congr
  · rw [scale_lt _ _ (min i j), f1, f2]
  · rw [scale_eq _ _ (min i j), f1, f2]

theorem sval_srung (x y : Nat) : (svalZ x < svalZ y ↔ srungZ x < srungZ y) ∧ (svalZ x = svalZ y ↔ srungZ x = srungZ y) := by
  unfold svalZ srungZ
  generalize rungN x = r
  generalize rungN y = s
  have h1 := @valN_iff r s
  have h2 := @valN_inj r s
  have h3 := @valN_iff s r
  have p1 : 0 < r → 0 < valN r := fun h => valN_pos h
  have p2 : 0 < s → 0 < valN s := fun h => valN_pos h
  have z1 : r = 0 → valN r = 0 := fun h => by rw [h]; rfl
  have z2 : s = 0 → valN s = 0 := fun h => by rw [h]; rfl
  generalize valN r = a at *
  generalize valN s = b at *
  constructor <;> split <;> split <;> omega

/-- how two reals stand: by their rungs with their signs; nan stands nowhere -/
theorem order_any (x y : Nat) : Ieee.single.order x y = if 2139095040 < rungN x ∨ 2139095040 < rungN y then none else some (compare (srungZ x) (srungZ y)) := by
  by_cases hx : 2139095040 < rungN x
  · rw [if_pos (.inl hx)]
    obtain ⟨f, rx⟩ := read_nan x hx
    unfold Ieee.Format.order
    rw [rx]
    rfl
  by_cases hy : 2139095040 < rungN y
  · rw [if_pos (.inr hy)]
    obtain ⟨f, ry⟩ := read_nan y hy
    unfold Ieee.Format.order
    rw [ry]
    cases Ieee.single.read x <;> rfl
  rw [if_neg (by omega)]
  by_cases hx2 : rungN x = 2139095040
  · have rx := read_inf x hx2
    by_cases hy2 : rungN y = 2139095040
    · have ry := read_inf y hy2
      unfold Ieee.Format.order srungZ
      rw [rx, ry, hx2, hy2]
      simp only [Ieee.Datum.order]
      have hb : ∀ z : Nat, (if z / 2147483648 % 2 = 1 then -((2139095040 : Nat) : Int) else ((2139095040 : Nat) : Int)) = if (z / 2147483648 % 2 == 1) = true then -2139095040 else 2139095040 := by intro z; simp
      rw [hb, hb]
      generalize (x / 2147483648 % 2 == 1) = p
      generalize (y / 2147483648 % 2 == 1) = q
      cases p <;> cases q <;> decide
    · obtain ⟨n, j, ry, vy⟩ := read_num y (by omega)
      unfold Ieee.Format.order srungZ
      rw [rx, ry, hx2]
      simp only [Ieee.Datum.order]
      congr 1
      by_cases h1 : x / 2147483648 % 2 = 1
      · simp only [h1, beq_self_eq_true, if_true]
        symm
        show compareOfLessAndEq _ _ = _
        unfold compareOfLessAndEq
        rw [if_pos (by split <;> omega)]
      · have h1' : (x / 2147483648 % 2 == 1) = false := by simpa using h1
        simp only [h1, h1', if_false, Bool.false_eq_true]
        symm
        show compareOfLessAndEq _ _ = _
        unfold compareOfLessAndEq
        rw [if_neg (by split <;> omega), if_neg (by split <;> omega)]
  · obtain ⟨m, i, rx, vx⟩ := read_num x (by omega)
    by_cases hy2 : rungN y = 2139095040
    · have ry := read_inf y hy2
      unfold Ieee.Format.order srungZ
      rw [rx, ry, hy2]
      simp only [Ieee.Datum.order]
      congr 1
      by_cases h1 : y / 2147483648 % 2 = 1
      · simp only [h1, beq_self_eq_true, if_true]
        symm
        show compareOfLessAndEq _ _ = _
        unfold compareOfLessAndEq
        rw [if_neg (by split <;> omega), if_neg (by split <;> omega)]
      · have h1' : (y / 2147483648 % 2 == 1) = false := by simpa using h1
        simp only [h1, h1', if_false, Bool.false_eq_true]
        symm
        show compareOfLessAndEq _ _ = _
        unfold compareOfLessAndEq
        rw [if_pos (by split <;> omega)]
    · rw [order_num x y (by omega) (by omega)]
      congr 1
      exact cmp_congr (sval_srung x y).1 (sval_srung x y).2

end Go.Proofs.YtplbclokoffgkaaGreatDoor



