/- The bits of a real of 32 bits: nan, the key, the sign. -/
import Derived.Test.YtnljpbpphdhnpaaGreatDoorProg
import Derived.WalkKit
import Derived.WalkSpells
import Derived.WalkLawsBesides
import Derived.PlainAid
import Derived.ProofKit
import Derived.Laws.BitsAllLaws
import Derived.Laws.FloatArith
import Derived.Deep.RegionWith
import Derived.Deep.RegionHeld3

namespace Go.Proofs.YtnljpbpphdhnpaaGreatDoor
open Go.RowKit Go.PlainAid

set_option maxRecDepth 1000000 in
theorem run_f32bits (x : Nat) (w : World) : (callFunc 36 #[.float .f32 x]).run Tryz.prog w = .ok (.value (.int .u32 (x : Int))) w :=
  (run_callFunc_extern (e := Extern.MathFloatBits.float32bits) Tryz.func36 (by kernel_rfl) (by kernel_rfl) (by kernel_rfl) (by kernel_rfl) _ w).trans rfl
set_option maxRecDepth 1000000 in
theorem run_f32from (x : Nat) (w : World) : (callFunc 49 #[.int .u32 (x : Int)]).run Tryz.prog w = .ok (.value (.float .f32 x)) w :=
  (run_callFunc_extern (e := Extern.MathFloatBits.float32frombits) Tryz.func49 (by kernel_rfl) (by kernel_rfl) (by kernel_rfl) (by kernel_rfl) _ w).trans rfl

def nanB (x : Nat) : Bool := decide (2139095040 < x % 2147483648)
def keyN (x : Nat) : Nat := if nanB x = true then 4290772992 else if 2147483648 ≤ x then 4294967295 - x else x + 2147483648
def bitsK (k : Nat) : Nat := if 2147483648 ≤ k then k - 2147483648 else 4294967295 - k
def unkeyN (k : Nat) : Nat := if k = 4290772992 then 2143289344 else if nanB (bitsK k) = true then 0 else bitsK k
def keyB (k : Nat) : Bool := k == 4290772992 || !nanB (bitsK k)

set_option maxRecDepth 1000000 in
theorem keyN_lt (x : Nat) (h : x < 4294967296) : keyN x < 4294967296 := by unfold keyN; split; omega; split <;> omega

set_option maxRecDepth 1000000 in
theorem order_self (x : Nat) : (Ieee.single.order x x = some .eq) ↔ nanB x = false := by
  unfold Ieee.Format.order Ieee.Format.read nanB
  have e1 : Ieee.single.signWeight = 2147483648 := by decide
  have e2 : Ieee.single.infRung = 2139095040 := by decide
  have e3 : Ieee.single.binade = 8388608 := by decide
  rw [e1, e2, e3]
  simp only [decide_eq_false_iff_not, Nat.not_lt]
  split
  · simp [Ieee.Datum.order]; omega
  · split
    · simp [Ieee.Datum.order]; omega
    · split
      · simp [Ieee.Datum.order]; omega
      · simp [Ieee.Datum.order]; omega

set_option maxRecDepth 1000000 in
theorem neq_self (x : Nat) : (FloatKind.f32.format.order x x != some Ordering.eq) = nanB x := by
  have h := order_self x
  show (Ieee.single.order x x != some Ordering.eq) = nanB x
  cases hn : nanB x
  · rw [h.2 hn]; rfl
  · rw [hn] at h
    simpa using h

set_option maxRecDepth 1000000 in
theorem and31 (x : Nat) (h : x < 4294967296) : bits .and .u32 (x : Int) 2147483648 = if 2147483648 ≤ x then 2147483648 else 0 := by
  have h1 := u32_and_nat x 2147483648 h (by decide)
  have e : ((2147483648 : Nat) : Int) = 2147483648 := rfl
  rw [e] at h1
  rw [h1]
  have h2 : x &&& 2 ^ 31 = if 2147483648 ≤ x then 2 ^ 31 else 0 := by
    apply Nat.eq_of_testBit_eq
    intro i
    rw [Nat.testBit_and, Nat.testBit_two_pow]
    by_cases hi : 31 = i
    · subst hi
      split
      · rw [Nat.testBit_two_pow_self, Nat.testBit_eq_decide_div_mod_eq]
        simp
        omega
      · rw [Nat.testBit_lt_two_pow (by omega)]
        simp
    · split
      · rw [Nat.testBit_two_pow]; simp [hi]
      · simp [hi]
  rw [show (2147483648 : Nat) = 2 ^ 31 by decide] at h1 ⊢
  rw [h2]
  split <;> rfl
set_option maxRecDepth 1000000 in
theorem andNot31 (x : Nat) (h : x < 4294967296) (h1 : 2147483648 ≤ x) : bits .andNot .u32 (x : Int) 2147483648 = ((x - 2147483648 : Nat) : Int) := by
  have h2 := u32_andNot_nat x 2147483648 h (by decide)
  have e : ((2147483648 : Nat) : Int) = 2147483648 := rfl
  rw [e] at h2
  rw [h2]
  have h3 : x &&& 2147483647 = x % 2 ^ 31 := Nat.and_two_pow_sub_one_eq_mod x 31
  rw [show 4294967295 - 2147483648 = 2147483647 from rfl, h3]
  omega
set_option maxRecDepth 1000000 in
theorem or31 (x : Nat) (h : x < 2147483648) : bits .or .u32 (x : Int) 2147483648 = ((x + 2147483648 : Nat) : Int) := by
  have h1 := u32_or_nat x 2147483648 (by omega) (by decide)
  have e : ((2147483648 : Nat) : Int) = 2147483648 := rfl
  rw [e] at h1
  rw [h1]
  have h2 := Nat.two_pow_add_eq_or_of_lt (i := 31) (b := x) (by simpa using h) 1
  simp at h2
  rw [Nat.or_comm, ← h2]
  congr 1
  omega
set_option maxRecDepth 1000000 in
theorem xor_ones32 (b : Nat) (hb : b < 2 ^ 32) : (2 ^ 32 - 1) ^^^ b = 2 ^ 32 - 1 - b := by
  apply Nat.eq_of_testBit_eq
  intro i
  rw [Nat.testBit_xor, Nat.testBit_two_pow_sub_one, show 2 ^ 32 - 1 - b = 2 ^ 32 - (b + 1) by omega, Nat.testBit_two_pow_sub_succ hb]
  by_cases hi : i < 32
  · simp [hi]
  · have : b.testBit i = false := Nat.testBit_lt_two_pow (Nat.lt_of_lt_of_le hb (Nat.pow_le_pow_right (by decide) (by omega)))
    simp [hi, this]
set_option maxRecDepth 1000000 in
theorem not32 (x : Nat) (h : x < 4294967296) : bits .xor .u32 IntKind.u32.max (x : Int) = ((4294967295 - x : Nat) : Int) := by
  have h1 := u32_xor_nat 4294967295 x (by decide) h
  have e : IntKind.u32.max = ((4294967295 : Nat) : Int) := by decide
  rw [e, h1]
  have h2 := xor_ones32 x (by simpa using h)
  rw [show (4294967295 : Nat) = 2 ^ 32 - 1 by decide, h2]

end Go.Proofs.YtnljpbpphdhnpaaGreatDoor



/- How two reals of 32 bits stand to one another, told by their bits. -/
namespace Go.Proofs.YtnljpbpphdhnpaaGreatDoor
open Go.RowKit Go.PlainAid

theorem cmp_congr {a b c d : Int} (h1 : a < b ↔ c < d) (h2 : a = b ↔ c = d) : compare a b = compare c d := by
  show compareOfLessAndEq a b = compareOfLessAndEq c d
  unfold compareOfLessAndEq
  simp only [h1, h2]

/-- the rung of the bits, and with its sign -/
def rungN (x : Nat) : Nat := x % 2147483648
def srungZ (x : Nat) : Int := if x / 2147483648 % 2 = 1 then -(rungN x : Int) else (rungN x : Int)

/-- the worth of a rung that is finite, in units of 2^-149 -/
def valN (r : Nat) : Nat := if r < 8388608 then r else (8388608 + r % 8388608) * 2 ^ (r / 8388608 - 1)

theorem valN_lt {r s : Nat} (h : r < s) : valN r < valN s := by
  unfold valN
  have hp : ∀ k : Nat, 0 < 2 ^ k := fun k => Nat.two_pow_pos k
  by_cases hr : r < 8388608
  · rw [if_pos hr]
    by_cases hs : s < 8388608
    · rw [if_pos hs]; exact h
    · rw [if_neg hs]
      have h1 := hp (s / 8388608 - 1)
      have h2 : (8388608 + s % 8388608) * 1 ≤ (8388608 + s % 8388608) * 2 ^ (s / 8388608 - 1) := Nat.mul_le_mul_left _ h1
      omega
  · rw [if_neg hr, if_neg (by omega)]
    by_cases hq : r / 8388608 = s / 8388608
    · rw [hq]
      exact Nat.mul_lt_mul_of_pos_right (by omega) (hp _)
    · have hq1 : r / 8388608 + 1 ≤ s / 8388608 := by omega
      have h1 : (8388608 + r % 8388608) * 2 ^ (r / 8388608 - 1) < 16777216 * 2 ^ (r / 8388608 - 1) := Nat.mul_lt_mul_of_pos_right (by omega) (hp _)
      have h2 : 16777216 * 2 ^ (r / 8388608 - 1) = 8388608 * 2 ^ (r / 8388608) := by
        have : r / 8388608 = r / 8388608 - 1 + 1 := by omega
        conv => rhs; rw [this, Nat.pow_succ]
        omega
      have h3 : 2 ^ (r / 8388608) ≤ 2 ^ (s / 8388608 - 1) := Nat.pow_le_pow_right (by omega) (by omega)
      have h4 : 8388608 * 2 ^ (r / 8388608) ≤ 8388608 * 2 ^ (s / 8388608 - 1) := Nat.mul_le_mul_left _ h3
      have h5 : 8388608 * 2 ^ (s / 8388608 - 1) ≤ (8388608 + s % 8388608) * 2 ^ (s / 8388608 - 1) := Nat.mul_le_mul_right _ (by omega)
      omega
theorem valN_inj {r s : Nat} : valN r = valN s ↔ r = s := by
  constructor
  · intro h
    rcases Nat.lt_trichotomy r s with h1 | h1 | h1
    · have := valN_lt h1; omega
    · exact h1
    · have := valN_lt h1; omega
  · intro h; rw [h]
theorem valN_iff {r s : Nat} : valN r < valN s ↔ r < s := by
  constructor
  · intro h
    rcases Nat.lt_trichotomy r s with h1 | h1 | h1
    · exact h1
    · rw [h1] at h; omega
    · have := valN_lt h1; omega
  · exact valN_lt
theorem valN_zero : valN 0 = 0 := rfl
theorem valN_pos {r : Nat} (h : 0 < r) : 0 < valN r := by have := valN_lt h; rw [valN_zero] at this; omega

/-- the worth with its sign -/
def svalZ (x : Nat) : Int := if x / 2147483648 % 2 = 1 then -(valN (rungN x) : Int) else (valN (rungN x) : Int)

/-- the bits as a datum: a number, whose worth is told by 'valN' -/
theorem read_num (x : Nat) (h : rungN x < 2139095040) : ∃ m : Nat, ∃ up : Nat, Ieee.single.read x = .number (x / 2147483648 % 2 == 1) m (-149 + (up : Int)) ∧ m * 2 ^ up = valN (rungN x) := by
  have e1 : Ieee.single.signWeight = 2147483648 := by decide
  have e2 : Ieee.single.binade = 8388608 := by decide
  have e3 : Ieee.single.infRung = 2139095040 := by decide
  have e4 : Ieee.single.leastPlace = -149 := by decide
  unfold rungN at h ⊢
  unfold Ieee.Format.read valN
  simp only [e1, e2, e3, e4]
  by_cases hb : x % 2147483648 < 8388608
  · rw [if_pos hb, if_pos hb]
    exact ⟨x % 2147483648, 0, by simp, by simp⟩
  · rw [if_neg hb, if_pos h, if_neg hb]
    exact ⟨_, _, rfl, rfl⟩
theorem read_inf (x : Nat) (h : rungN x = 2139095040) : Ieee.single.read x = .infinity (x / 2147483648 % 2 == 1) := by
  have e1 : Ieee.single.signWeight = 2147483648 := by decide
  have e2 : Ieee.single.binade = 8388608 := by decide
  have e3 : Ieee.single.infRung = 2139095040 := by decide
  unfold rungN at h
  unfold Ieee.Format.read
  simp only [e1, e2, e3, h]
  rfl
theorem read_nan (x : Nat) (h : 2139095040 < rungN x) : ∃ f, Ieee.single.read x = .nan (x / 2147483648 % 2 == 1) f := by
  have e1 : Ieee.single.signWeight = 2147483648 := by decide
  have e2 : Ieee.single.binade = 8388608 := by decide
  have e3 : Ieee.single.infRung = 2139095040 := by decide
  unfold rungN at h
  unfold Ieee.Format.read
  simp only [e1, e2, e3]
  rw [if_neg (by omega), if_neg (by omega), if_neg (by omega)]
  exact ⟨_, rfl⟩

theorem signed_mul (s : Bool) (m up k : Nat) : Ieee.signed s m up * (2 ^ k : Nat) = if s then -((m * 2 ^ (up + k) : Nat) : Int) else ((m * 2 ^ (up + k) : Nat) : Int) := by
  unfold Ieee.signed
  rw [Nat.shiftLeft_eq]
  cases s
  · simp only [Bool.false_eq_true, if_false]
    rw [Nat.pow_add, ← Nat.mul_assoc]
    simp
  · simp only [if_true]
    rw [Nat.pow_add, ← Nat.mul_assoc]
    simp [Int.neg_mul]

theorem scale_lt (a b : Int) (k : Nat) : a < b ↔ a * (2 ^ k : Nat) < b * (2 ^ k : Nat) := by
  have h : (0 : Int) < ((2 ^ k : Nat) : Int) := by exact_mod_cast Nat.two_pow_pos k
  constructor
  · exact fun hl => Int.mul_lt_mul_of_pos_right hl h
  · exact fun hl => Int.lt_of_mul_lt_mul_right hl (Int.le_of_lt h)
theorem scale_eq (a b : Int) (k : Nat) : a = b ↔ a * (2 ^ k : Nat) = b * (2 ^ k : Nat) := by
  have h : ((2 ^ k : Nat) : Int) ≠ 0 := by have := Nat.two_pow_pos k; omega
  constructor
  · intro e; rw [e]
  · exact fun e => Int.eq_of_mul_eq_mul_right h e

theorem order_num (x y : Nat) (hx : rungN x < 2139095040) (hy : rungN y < 2139095040) : Ieee.single.order x y = some (compare (svalZ x) (svalZ y)) := by
  obtain ⟨m, i, rx, vx⟩ := read_num x hx
  obtain ⟨n, j, ry, vy⟩ := read_num y hy
  unfold Ieee.Format.order
  rw [rx, ry]
  simp only [Ieee.Datum.order]
  congr 1
  have hmin : min (-149 + (i : Int)) (-149 + (j : Int)) = -149 + ((min i j : Nat) : Int) := by omega
  rw [hmin]
  have e1 : (-149 + (i : Int) - (-149 + ((min i j : Nat) : Int))).toNat = i - min i j := by omega
  have e2 : (-149 + (j : Int) - (-149 + ((min i j : Nat) : Int))).toNat = j - min i j := by omega
  rw [e1, e2]
  have f1 := signed_mul (x / 2147483648 % 2 == 1) m (i - min i j) (min i j)
  have f2 := signed_mul (y / 2147483648 % 2 == 1) n (j - min i j) (min i j)
  rw [show i - min i j + min i j = i by omega, vx] at f1
  rw [show j - min i j + min i j = j by omega, vy] at f2
  have g1 : (if (x / 2147483648 % 2 == 1) = true then -((valN (rungN x) : Nat) : Int) else ((valN (rungN x) : Nat) : Int)) = svalZ x := by
    unfold svalZ; simp
  have g2 : (if (y / 2147483648 % 2 == 1) = true then -((valN (rungN y) : Nat) : Int) else ((valN (rungN y) : Nat) : Int)) = svalZ y := by
    unfold svalZ; simp
  rw [g1] at f1
  rw [g2] at f2
  apply cmp_congr
  · rw [scale_lt _ _ (min i j), f1, f2]
  · rw [scale_eq _ _ (min i j), f1, f2]

theorem sval_srung (x y : Nat) : (svalZ x < svalZ y ↔ srungZ x < srungZ y) ∧ (svalZ x = svalZ y ↔ srungZ x = srungZ y) := by
  unfold svalZ srungZ
  generalize rungN x = r
  generalize rungN y = s
  have h1 := @valN_iff r s
  have h2 := @valN_inj r s
  have h3 := @valN_iff s r
  have p1 : 0 < r → 0 < valN r := fun h => valN_pos h
  have p2 : 0 < s → 0 < valN s := fun h => valN_pos h
  have z1 : r = 0 → valN r = 0 := fun h => by rw [h]; rfl
  have z2 : s = 0 → valN s = 0 := fun h => by rw [h]; rfl
  generalize valN r = a at *
  generalize valN s = b at *
  constructor <;> split <;> split <;> omega

/-- how two reals stand: by their rungs with their signs; nan stands nowhere -/
theorem order_any (x y : Nat) : Ieee.single.order x y = if 2139095040 < rungN x ∨ 2139095040 < rungN y then none else some (compare (srungZ x) (srungZ y)) := by
  by_cases hx : 2139095040 < rungN x
  · rw [if_pos (.inl hx)]
    obtain ⟨f, rx⟩ := read_nan x hx
    unfold Ieee.Format.order
    rw [rx]
    rfl
  by_cases hy : 2139095040 < rungN y
  · rw [if_pos (.inr hy)]
    obtain ⟨f, ry⟩ := read_nan y hy
    unfold Ieee.Format.order
    rw [ry]
    cases Ieee.single.read x <;> rfl
  rw [if_neg (by omega)]
  by_cases hx2 : rungN x = 2139095040
  · have rx := read_inf x hx2
    by_cases hy2 : rungN y = 2139095040
    · have ry := read_inf y hy2
      unfold Ieee.Format.order srungZ
      rw [rx, ry, hx2, hy2]
      simp only [Ieee.Datum.order]
      have hb : ∀ z : Nat, (if z / 2147483648 % 2 = 1 then -((2139095040 : Nat) : Int) else ((2139095040 : Nat) : Int)) = if (z / 2147483648 % 2 == 1) = true then -2139095040 else 2139095040 := by intro z; simp
      rw [hb, hb]
      generalize (x / 2147483648 % 2 == 1) = p
      generalize (y / 2147483648 % 2 == 1) = q
      cases p <;> cases q <;> decide
    · obtain ⟨n, j, ry, vy⟩ := read_num y (by omega)
      unfold Ieee.Format.order srungZ
      rw [rx, ry, hx2]
      simp only [Ieee.Datum.order]
      congr 1
      by_cases h1 : x / 2147483648 % 2 = 1
      · simp only [h1, beq_self_eq_true, if_true]
        symm
        show compareOfLessAndEq _ _ = _
        unfold compareOfLessAndEq
        rw [if_pos (by split <;> omega)]
      · have h1' : (x / 2147483648 % 2 == 1) = false := by simpa using h1
        simp only [h1, h1', if_false, Bool.false_eq_true]
        symm
        show compareOfLessAndEq _ _ = _
        unfold compareOfLessAndEq
        rw [if_neg (by split <;> omega), if_neg (by split <;> omega)]
  · obtain ⟨m, i, rx, vx⟩ := read_num x (by omega)
    by_cases hy2 : rungN y = 2139095040
    · have ry := read_inf y hy2
      unfold Ieee.Format.order srungZ
      rw [rx, ry, hy2]
      simp only [Ieee.Datum.order]
      congr 1
      by_cases h1 : y / 2147483648 % 2 = 1
      · simp only [h1, beq_self_eq_true, if_true]
        symm
        show compareOfLessAndEq _ _ = _
        unfold compareOfLessAndEq
        rw [if_neg (by split <;> omega), if_neg (by split <;> omega)]
      · have h1' : (y / 2147483648 % 2 == 1) = false := by simpa using h1
        simp only [h1, h1', if_false, Bool.false_eq_true]
        symm
        show compareOfLessAndEq _ _ = _
        unfold compareOfLessAndEq
        rw [if_pos (by split <;> omega)]
    · rw [order_num x y (by omega) (by omega)]
      congr 1
      exact cmp_congr (sval_srung x y).1 (sval_srung x y).2

end Go.Proofs.YtnljpbpphdhnpaaGreatDoor



/- A real of 32 bits cut to a whole number, a whole number as a real: told by their worth. -/
namespace Go.Proofs.YtnljpbpphdhnpaaGreatDoor
open Go.RowKit Go.PlainAid

/-- how two reals stand, by their worth (that of an infinite one is beyond all others') -/
theorem order_val (x y : Nat) (hx : rungN x ≤ 2139095040) (hy : rungN y ≤ 2139095040) : Ieee.single.order x y = some (compare (svalZ x) (svalZ y)) := by
  rw [order_any, if_neg (by omega)]
  congr 1
  exact (cmp_congr (sval_srung x y).1 (sval_srung x y).2).symm

theorem cut_zero (s : Bool) (n d : Nat) : Ieee.Toward.cut .zero s n d = n / 2 ^ d := by
  unfold Ieee.Toward.cut
  simp only [Bool.toNat_false, Nat.add_zero, Nat.one_shiftLeft]
  by_cases h : d ≤ n.log2 + 2
  · rw [Nat.min_eq_left h]
  · rw [Nat.min_eq_right (by omega)]
    have hn : n < 2 ^ (n.log2 + 1) := Nat.lt_log2_self
    have h1 : n < 2 ^ (n.log2 + 2) := Nat.lt_of_lt_of_le hn (Nat.pow_le_pow_right (by omega) (by omega))
    have h2 : n < 2 ^ d := Nat.lt_of_lt_of_le hn (Nat.pow_le_pow_right (by omega) (by omega))
    rw [Nat.div_eq_of_lt h1, Nat.div_eq_of_lt h2]

/-- the whole part of a real -/
def wholeZ (x : Nat) : Int := if x / 2147483648 % 2 = 1 then -((valN (rungN x) / 2 ^ 149 : Nat) : Int) else ((valN (rungN x) / 2 ^ 149 : Nat) : Int)

theorem toInt_whole (x : Nat) (h : rungN x < 2139095040) : (Ieee.single.read x).toInt .zero = some (wholeZ x) := by
  obtain ⟨m, up, rx, vx⟩ := read_num x h
  have hcut : Ieee.Toward.cut .zero (x / 2147483648 % 2 == 1) (m <<< (-149 + (up : Int)).toNat) (-(-149 + (up : Int))).toNat = valN (rungN x) / 2 ^ 149 := by
    rw [cut_zero, Nat.shiftLeft_eq, ← vx]
    by_cases hu : 149 ≤ up
    · rw [show (-149 + (up : Int)).toNat = up - 149 by omega, show (-(-149 + (up : Int))).toNat = 0 by omega, Nat.pow_zero, Nat.div_one]
      rw [show m * 2 ^ up = m * 2 ^ (up - 149) * 2 ^ 149 by rw [Nat.mul_assoc, ← Nat.pow_add]; congr 2; omega]
      rw [Nat.mul_div_cancel _ (Nat.two_pow_pos _)]
    · rw [show (-149 + (up : Int)).toNat = 0 by omega, show (-(-149 + (up : Int))).toNat = 149 - up by omega, Nat.pow_zero, Nat.mul_one]
      rw [show (2 : Nat) ^ 149 = 2 ^ (149 - up) * 2 ^ up by rw [← Nat.pow_add]; congr 1; omega]
      rw [Nat.mul_div_mul_right _ _ (Nat.two_pow_pos _)]
  rw [rx]
  unfold Ieee.Datum.toInt
  simp only [Ieee.Datum.integral]
  rw [hcut]
  unfold wholeZ Ieee.signed
  simp

/-- the worth of a rung below that of 2^63 -/
theorem val_big : valN 1593835520 = 2 ^ 63 * 2 ^ 149 := by decide

/-- a whole number that a real can hold is held -/
theorem nearest_val (neg : Bool) (mag : Nat) (hpos : 0 < mag) (hfit : mag.log2 ≤ 23 ∨ mag % 2 ^ (mag.log2 - 23) = 0) (hbig : mag < 2 ^ 64) :
    ∃ r, r < 2139095040 ∧ Ieee.single.nearest neg mag 0 = Ieee.single.word neg r ∧ valN r = mag * 2 ^ 149 := by
  have e2 : Ieee.single.binade = 8388608 := by decide
  have e3 : Ieee.single.infRung = 2139095040 := by decide
  have e4 : Ieee.single.leastPlace = -149 := by decide
  have e5 : Ieee.single.fractionBits = 23 := rfl
  have hlo : 2 ^ mag.log2 ≤ mag := Nat.log2_self_le (by omega)
  have hhi : mag < 2 ^ (mag.log2 + 1) := Nat.lt_log2_self
  have hL : mag.log2 < 64 := by
    rw [Nat.log2_lt (by omega)]
    exact hbig
  generalize hl : mag.log2 = L at hlo hhi hL hfit
  -- what is kept
  have key : ∃ kept, Ieee.Toward.cut .even neg (mag <<< ((0 : Int) - ((L : Int) - 23)).toNat) (((L : Int) - 23) - 0).toNat = kept ∧ 8388608 ≤ kept ∧ kept < 16777216 ∧ kept * 2 ^ (126 + L) = mag * 2 ^ 149 := by
    by_cases h23 : L ≤ 23
    · refine ⟨mag * 2 ^ (23 - L), ?_, ?_, ?_, ?_⟩
      · rw [show ((0 : Int) - ((L : Int) - 23)).toNat = 23 - L by omega, show (((L : Int) - 23) - 0).toNat = 0 by omega, Nat.shiftLeft_eq]
        unfold Ieee.Toward.cut
        simp [Nat.mod_one]
      · have h1 : 2 ^ L * 2 ^ (23 - L) ≤ mag * 2 ^ (23 - L) := Nat.mul_le_mul_right _ hlo
        rw [← Nat.pow_add, show L + (23 - L) = 23 by omega] at h1
        exact h1
      · have h1 : mag * 2 ^ (23 - L) < 2 ^ (L + 1) * 2 ^ (23 - L) := Nat.mul_lt_mul_of_pos_right hhi (Nat.two_pow_pos _)
        rw [← Nat.pow_add, show L + 1 + (23 - L) = 24 by omega] at h1
        exact h1
      · rw [Nat.mul_assoc, ← Nat.pow_add]
        congr 2
        omega
    · have hd : mag % 2 ^ (L - 23) = 0 := by omega
      have hmul : mag / 2 ^ (L - 23) * 2 ^ (L - 23) = mag := by
        have := Nat.div_add_mod mag (2 ^ (L - 23))
        rw [hd, Nat.mul_comm] at this
        omega
      refine ⟨mag / 2 ^ (L - 23), ?_, ?_, ?_, ?_⟩
      · rw [show ((0 : Int) - ((L : Int) - 23)).toNat = 0 by omega, show (((L : Int) - 23) - 0).toNat = L - 23 by omega, Nat.shiftLeft_eq, Nat.pow_zero, Nat.mul_one]
        unfold Ieee.Toward.cut
        simp only [hl, Nat.one_shiftLeft]
        rw [Nat.min_eq_left (by omega), hd]
        have hp : 0 < 2 ^ (L - 23) := Nat.two_pow_pos _
        have h1 : decide (2 ^ (L - 23) < 2 * 0) = false := by simp
        have h2 : (2 ^ (L - 23) == 2 * 0) = false := by simp
        rw [h1, h2]
        rfl
      · have h1 : 2 ^ L / 2 ^ (L - 23) ≤ mag / 2 ^ (L - 23) := Nat.div_le_div_right hlo
        rw [Nat.pow_div (by omega) (by omega), show L - (L - 23) = 23 by omega] at h1
        exact h1
      · rw [Nat.div_lt_iff_lt_mul (Nat.two_pow_pos _), show (16777216 : Nat) = 2 ^ 24 by decide, ← Nat.pow_add, show 24 + (L - 23) = L + 1 by omega]
        exact hhi
      · rw [show 126 + L = (L - 23) + 149 by omega, Nat.pow_add, ← Nat.mul_assoc, hmul]
  obtain ⟨kept, hk, k1, k2, k3⟩ := key
  refine ⟨(126 + L) * 8388608 + kept, by omega, ?_, ?_⟩
  · unfold Ieee.Format.nearest
    rw [if_neg (by omega)]
    simp only [e2, e3, e4, e5, hl]
    rw [show max ((0 : Int) + (L : Int) - ((23 : Nat) : Int)) (-149) = (L : Int) - 23 by omega, hk]
    rw [show (((L : Int) - 23) - -149).toNat = 126 + L by omega, Nat.min_eq_left (by omega)]
  · unfold valN
    rw [if_neg (by omega), show ((126 + L) * 8388608 + kept) % 8388608 = kept - 8388608 by omega, show ((126 + L) * 8388608 + kept) / 8388608 - 1 = 126 + L by omega, show 8388608 + (kept - 8388608) = kept by omega, k3]

/-- the whole part of a real is a number that a real can hold -/
theorem whole_fits (r : Nat) (t : Nat) (ht : t = valN r / 2 ^ 149) (hp : 0 < t) : t.log2 ≤ 23 ∨ t % 2 ^ (t.log2 - 23) = 0 := by
  by_cases h23 : t.log2 ≤ 23
  · exact .inl h23
  refine .inr ?_
  unfold valN at ht
  by_cases hr : r < 8388608
  · rw [if_pos hr, Nat.div_eq_of_lt (Nat.lt_of_lt_of_le hr (by decide))] at ht
    omega
  · rw [if_neg hr] at ht
    generalize hm : 8388608 + r % 8388608 = m at ht
    have hm2 : m < 2 ^ 24 := by omega
    generalize r / 8388608 - 1 = up at ht
    by_cases hu : 149 ≤ up
    · rw [show m * 2 ^ up = m * 2 ^ (up - 149) * 2 ^ 149 by rw [Nat.mul_assoc, ← Nat.pow_add]; congr 2; omega, Nat.mul_div_cancel _ (Nat.two_pow_pos _)] at ht
      have hlt : t < 2 ^ (24 + (up - 149)) := by
        rw [ht, Nat.pow_add]
        exact Nat.mul_lt_mul_of_pos_right hm2 (Nat.two_pow_pos _)
      have hl : t.log2 < 24 + (up - 149) := (Nat.log2_lt (by omega)).2 hlt
      have hd : 2 ^ (t.log2 - 23) ∣ t := by
        conv => rhs; rw [ht]
        exact Nat.dvd_trans (Nat.pow_dvd_pow 2 (by omega)) (Nat.dvd_mul_left _ _)
      exact Nat.mod_eq_zero_of_dvd hd
    · exfalso
      have hlt : t < 2 ^ 24 := by
        rw [ht]
        apply Nat.div_lt_of_lt_mul
        have h1 : m * 2 ^ up < 2 ^ 24 * 2 ^ 149 := Nat.lt_of_lt_of_le (Nat.mul_lt_mul_of_pos_right hm2 (Nat.two_pow_pos _)) (Nat.mul_le_mul_left _ (Nat.pow_le_pow_right (by omega) (by omega)))
        rw [Nat.mul_comm (2 ^ 149)]
        exact h1
      have hl : t.log2 < 24 := (Nat.log2_lt (by omega)).2 hlt
      omega

theorem word_rung (neg : Bool) (r : Nat) (h : r < 2147483648) : rungN (Ieee.single.word neg r) = r ∧ svalZ (Ieee.single.word neg r) = (if neg then -(valN r : Int) else (valN r : Int)) ∧ Ieee.single.word neg r < 4294967296 := by
  have e1 : Ieee.single.signWeight = 2147483648 := by decide
  have hr : rungN (Ieee.single.word neg r) = r := by
    unfold rungN Ieee.Format.word
    rw [e1]
    split <;> omega
  refine ⟨hr, ?_, ?_⟩
  · unfold svalZ
    rw [hr]
    cases neg
    · have : Ieee.single.word false r / 2147483648 % 2 = 0 := by
        unfold Ieee.Format.word
        simp
        omega
      rw [this]
      rfl
    · have : Ieee.single.word true r / 2147483648 % 2 = 1 := by
        unfold Ieee.Format.word
        rw [e1]
        simp
        omega
      rw [this]
      rfl
  · unfold Ieee.Format.word
    rw [e1]
    split <;> omega

theorem whole_back (x : Nat) (hb : (wholeZ x).natAbs < 2 ^ 64) : svalZ (floatOfInt .f32 (wholeZ x)) = wholeZ x * 2 ^ 149 ∧ rungN (floatOfInt .f32 (wholeZ x)) < 2139095040 := by
  obtain ⟨t, ht⟩ : ∃ t, t = valN (rungN x) / 2 ^ 149 := ⟨_, rfl⟩
  have hw : wholeZ x = (if x / 2147483648 % 2 = 1 then -(t : Int) else (t : Int)) := by unfold wholeZ; rw [ht]
  have habs : (wholeZ x).natAbs = t := by rw [hw]; split <;> omega
  have hf : floatOfInt .f32 (wholeZ x) = Ieee.single.nearest (decide (wholeZ x < 0)) t 0 := by rw [← habs]; rfl
  rw [habs] at hb
  by_cases h0 : t = 0
  · have hz : wholeZ x = 0 := by rw [hw, h0]; split <;> rfl
    rw [hz]
    decide
  · obtain ⟨r, hr, hn, hv⟩ := nearest_val (decide (wholeZ x < 0)) t (by omega) (whole_fits _ t ht (by omega)) hb
    rw [hf, hn]
    obtain ⟨g1, g2, _⟩ := word_rung (decide (wholeZ x < 0)) r (by omega)
    refine ⟨?_, by omega⟩
    rw [g2, hv, hw]
    by_cases hs : x / 2147483648 % 2 = 1
    · rw [if_pos hs, show decide (-(t : Int) < 0) = true by simp; omega]
      simp [Int.neg_mul]
    · rw [if_neg hs, show decide ((t : Int) < 0) = false by simp]
      simp

def cmpI (a b : Int) : Int := if a < b then -1 else if b < a then 1 else 0

/-- a real beside a whole number: by what is cut off only where the whole ones are equal -/
theorem cmp_whole (x : Nat) (n : Int) : wholeZ x ≠ n → cmpI (wholeZ x) n = cmpI (svalZ x) (n * 2 ^ 149) := by
  intro hne
  have hP : (0 : Int) < 2 ^ 149 := by decide
  have hd := Nat.div_add_mod (valN (rungN x)) (2 ^ 149)
  have hm := Nat.mod_lt (valN (rungN x)) (Nat.two_pow_pos 149)
  unfold wholeZ at hne ⊢
  unfold svalZ
  generalize valN (rungN x) = v at *
  generalize v / 2 ^ 149 = t at *
  generalize v % 2 ^ 149 = rm at *
  have hv : (v : Int) = 2 ^ 149 * (t : Int) + (rm : Int) := by rw [← hd]; simp
  have hrm : (rm : Int) < 2 ^ 149 := by exact_mod_cast hm
  have hrm0 : (0 : Int) ≤ (rm : Int) := by omega
  generalize (2 : Int) ^ 149 = P at *
  clear hd hm
  have key : ∀ (a b : Int), a < b → P * a + P ≤ P * b := by
    intro a b hab
    have h1 : P * (a + 1) ≤ P * b := Int.mul_le_mul_of_nonneg_left (by omega) (by omega)
    rw [Int.mul_add, Int.mul_one] at h1
    exact h1
  have hcomm : n * P = P * n := Int.mul_comm _ _
  rw [hcomm]
  unfold cmpI
  by_cases hs : x / 2147483648 % 2 = 1
  · simp only [hs, if_true] at hne ⊢
    have hneg : P * -(t : Int) = -(P * (t : Int)) := Int.mul_neg _ _
    rcases Int.lt_trichotomy (-(t : Int)) n with h | h | h
    · have := key _ _ h
      rw [if_pos h, if_pos (by omega)]
    · exact absurd h hne
    · have := key _ _ h
      rw [if_neg (by omega), if_pos h, if_neg (by omega), if_pos (by omega)]
  · simp only [hs, if_false] at hne ⊢
    rcases Int.lt_trichotomy (t : Int) n with h | h | h
    · have := key _ _ h
      rw [if_pos h, if_pos (by omega)]
    · exact absurd h hne
    · have := key _ _ h
      rw [if_neg (by omega), if_pos h, if_neg (by omega), if_pos (by omega)]

end Go.Proofs.YtnljpbpphdhnpaaGreatDoor



/- What is rounded to a real of 32 bits, told in units of the least real: it hangs on the worth alone, and never falls. -/
namespace Go.Proofs.YtnljpbpphdhnpaaGreatDoor
open Go.RowKit Go.PlainAid

/-- to the nearest whole number, between two to the even one -/
def rneB (v d : Nat) : Bool := decide (2 ^ d < 2 * (v % 2 ^ d)) || (2 ^ d == 2 * (v % 2 ^ d) && v / 2 ^ d % 2 == 1)
def rne (v d : Nat) : Nat := v / 2 ^ d + (rneB v d).toNat

theorem cut_even (s : Bool) (n d : Nat) : Ieee.Toward.cut .even s n d = rne n d := by
  unfold Ieee.Toward.cut rne rneB
  simp only [Nat.one_shiftLeft]
  by_cases h : d ≤ n.log2 + 2
  · rw [Nat.min_eq_left h]
  · rw [Nat.min_eq_right (by omega)]
    have hn : n < 2 ^ (n.log2 + 1) := Nat.lt_log2_self
    have e1 : (2 : Nat) ^ (n.log2 + 2) = 2 * 2 ^ (n.log2 + 1) := by rw [Nat.pow_succ]; omega
    have h2 : 2 ^ (n.log2 + 2) ≤ 2 ^ d := Nat.pow_le_pow_right (by omega) (by omega)
    have h3 : n < 2 ^ (n.log2 + 2) := by omega
    have h4 : n < 2 ^ d := by omega
    rw [Nat.div_eq_of_lt h3, Nat.div_eq_of_lt h4, Nat.mod_eq_of_lt h3, Nat.mod_eq_of_lt h4]
    have a1 : decide (2 ^ (n.log2 + 2) < 2 * n) = false := by simp; omega
    have a2 : decide (2 ^ d < 2 * n) = false := by simp; omega
    have a3 : (2 ^ (n.log2 + 2) == 2 * n) = false := by simp; omega
    have a4 : (2 ^ d == 2 * n) = false := by simp; omega
    rw [a1, a2, a3, a4]
theorem rne_scale (v k d : Nat) : rne (v * 2 ^ k) (d + k) = rne v d := by
  have hp : 0 < 2 ^ k := Nat.two_pow_pos k
  have e0 : (2 : Nat) ^ (d + k) = 2 ^ d * 2 ^ k := Nat.pow_add ..
  have e1 : v * 2 ^ k / 2 ^ (d + k) = v / 2 ^ d := by rw [e0, Nat.mul_div_mul_right _ _ hp]
  have e2 : v * 2 ^ k % 2 ^ (d + k) = v % 2 ^ d * 2 ^ k := by rw [e0, Nat.mul_mod_mul_right]
  unfold rne rneB
  rw [e1, e2, e0]
  have e3 : 2 * (v % 2 ^ d * 2 ^ k) = 2 * (v % 2 ^ d) * 2 ^ k := by rw [Nat.mul_assoc]
  rw [e3]
  have e4 : decide (2 ^ d * 2 ^ k < 2 * (v % 2 ^ d) * 2 ^ k) = decide (2 ^ d < 2 * (v % 2 ^ d)) := by
    apply decide_eq_decide.2; exact Nat.mul_lt_mul_right hp
  have e5 : (2 ^ d * 2 ^ k == 2 * (v % 2 ^ d) * 2 ^ k) = (2 ^ d == 2 * (v % 2 ^ d)) := by
    rw [Bool.eq_iff_iff]; simp only [beq_iff_eq]
    exact ⟨fun h => Nat.eq_of_mul_eq_mul_right hp h, fun h => congrArg (· * 2 ^ k) h⟩
  rw [e4, e5]
theorem rne_zero (v : Nat) : rne v 0 = v := by
  unfold rne rneB
  simp [Nat.mod_one]
theorem rne_mono {v u : Nat} (h : v ≤ u) (d : Nat) : rne v d ≤ rne u d := by
  unfold rne
  have hq : v / 2 ^ d ≤ u / 2 ^ d := Nat.div_le_div_right h
  have b1 : (rneB v d).toNat ≤ 1 := Bool.toNat_le _
  by_cases hl : v / 2 ^ d < u / 2 ^ d
  · omega
  · have he : v / 2 ^ d = u / 2 ^ d := by omega
    have hr : v % 2 ^ d ≤ u % 2 ^ d := by
      have h1 := Nat.div_add_mod v (2 ^ d)
      have h2 := Nat.div_add_mod u (2 ^ d)
      rw [he] at h1
      omega
    have hb : rneB v d = true → rneB u d = true := by
      unfold rneB
      rw [he]
      simp only [Bool.or_eq_true, decide_eq_true_eq, Bool.and_eq_true, beq_iff_eq]
      intro h5
      rcases h5 with h5 | ⟨h5, h6⟩
      · left; omega
      · by_cases h7 : 2 ^ d < 2 * (u % 2 ^ d)
        · exact .inl h7
        · right; exact ⟨by omega, h6⟩
    rw [he]
    cases hv : rneB v d
    · simp
    · rw [hb hv]; exact Nat.le_refl _
theorem rne_le {v d : Nat} : rne v d ≤ v / 2 ^ d + 1 := by
  unfold rne
  have b1 : (rneB v d).toNat ≤ 1 := Bool.toNat_le _
  omega
theorem rne_ge {v d : Nat} : v / 2 ^ d ≤ rne v d := by
  unfold rne; omega

/-- the rung nearest to a worth -/
def rndR (v : Nat) : Nat := min ((v.log2 - 23) * 8388608 + rne v (v.log2 - 23)) 2139095040

theorem rndR_zero : rndR 0 = 0 := by decide
theorem log2_scale (m k : Nat) (h : 0 < m) : (m * 2 ^ k).log2 = m.log2 + k := by
  have h1 : 2 ^ m.log2 ≤ m := Nat.log2_self_le (by omega)
  have h2 : m < 2 ^ (m.log2 + 1) := Nat.lt_log2_self
  have hp : 0 < 2 ^ k := Nat.two_pow_pos k
  have hm : 0 < m * 2 ^ k := Nat.mul_pos h hp
  have a1 : 2 ^ (m.log2 + k) ≤ m * 2 ^ k := by rw [Nat.pow_add]; exact Nat.mul_le_mul_right _ h1
  have a2 : m * 2 ^ k < 2 ^ (m.log2 + k + 1) := by
    rw [show m.log2 + k + 1 = (m.log2 + 1) + k by omega, Nat.pow_add]; exact Nat.mul_lt_mul_of_pos_right h2 hp
  have b1 : (m * 2 ^ k).log2 < m.log2 + k + 1 := (Nat.log2_lt (by omega)).2 a2
  have b2 : ¬ (m * 2 ^ k).log2 < m.log2 + k := by
    rw [Nat.log2_lt (by omega)]; omega
  omega

theorem nearest_rnd (neg : Bool) (mag : Nat) (up : Nat) : Ieee.single.nearest neg mag (-149 + (up : Int)) = Ieee.single.word neg (rndR (mag * 2 ^ up)) := by
  have e2 : Ieee.single.binade = 8388608 := by decide
  have e3 : Ieee.single.infRung = 2139095040 := by decide
  have e4 : Ieee.single.leastPlace = -149 := by decide
  have e5 : Ieee.single.fractionBits = 23 := rfl
  unfold Ieee.Format.nearest
  by_cases h0 : mag = 0
  · rw [if_pos h0, h0, Nat.zero_mul, rndR_zero]
  rw [if_neg h0]
  simp only [e2, e3, e4, e5, cut_even]
  unfold rndR
  rw [log2_scale mag up (by omega)]
  generalize hL : mag.log2 = L
  by_cases hb : L + up ≤ 23
  · rw [show max (-149 + (up : Int) + (L : Int) - ((23 : Nat) : Int)) (-149) = -149 by omega]
    rw [show (-149 + (up : Int) - -149).toNat = up by omega, show (-149 - (-149 + (up : Int))).toNat = 0 by omega, show ((-149 : Int) - -149).toNat = 0 by decide, show L + up - 23 = 0 by omega]
    rw [rne_zero, rne_zero, Nat.shiftLeft_eq]
  · rw [show max (-149 + (up : Int) + (L : Int) - ((23 : Nat) : Int)) (-149) = -149 + ((L + up - 23 : Nat) : Int) by omega]
    rw [show (-149 + ((L + up - 23 : Nat) : Int) - -149).toNat = L + up - 23 by omega]
    congr 3
    by_cases hc : L ≤ 23
    · rw [show (-149 + (up : Int) - (-149 + ((L + up - 23 : Nat) : Int))).toNat = 23 - L by omega, show (-149 + ((L + up - 23 : Nat) : Int) - (-149 + (up : Int))).toNat = 0 by omega]
      rw [rne_zero, Nat.shiftLeft_eq]
      have := rne_scale (mag * 2 ^ (23 - L)) (L + up - 23) 0
      rw [rne_zero, Nat.mul_assoc, ← Nat.pow_add, Nat.zero_add, show 23 - L + (L + up - 23) = up by omega] at this
      exact this.symm
    · rw [show (-149 + (up : Int) - (-149 + ((L + up - 23 : Nat) : Int))).toNat = 0 by omega, show (-149 + ((L + up - 23 : Nat) : Int) - (-149 + (up : Int))).toNat = L - 23 by omega]
      rw [Nat.shiftLeft_eq, Nat.pow_zero, Nat.mul_one]
      have := rne_scale mag up (L - 23)
      rw [show L - 23 + up = L + up - 23 by omega] at this
      exact this.symm

theorem log2_mono {v u : Nat} (h : v ≤ u) (hv : 0 < v) : v.log2 ≤ u.log2 := by
  have h2 : v < 2 ^ (u.log2 + 1) := Nat.lt_of_le_of_lt h Nat.lt_log2_self
  have := (Nat.log2_lt (by omega : v ≠ 0)).2 h2
  omega

theorem rnd_top {v : Nat} : rne v (v.log2 - 23) ≤ 16777216 := by
  have hv : v < 2 ^ (v.log2 + 1) := Nat.lt_log2_self
  by_cases h : v.log2 ≤ 23
  · rw [show v.log2 - 23 = 0 by omega, rne_zero]
    have : (2 : Nat) ^ (v.log2 + 1) ≤ 2 ^ 24 := Nat.pow_le_pow_right (by omega) (by omega)
    omega
  · have : v / 2 ^ (v.log2 - 23) < 2 ^ 24 := by
      rw [Nat.div_lt_iff_lt_mul (Nat.two_pow_pos _), ← Nat.pow_add, show 24 + (v.log2 - 23) = v.log2 + 1 by omega]
      exact hv
    have := @rne_le v (v.log2 - 23)
    omega
theorem rnd_low {v : Nat} (h : 23 ≤ v.log2) : 8388608 ≤ rne v (v.log2 - 23) := by
  have hne : v ≠ 0 := by intro h0; rw [h0] at h; simp at h
  have hv : 2 ^ v.log2 ≤ v := Nat.log2_self_le hne
  have : 2 ^ 23 ≤ v / 2 ^ (v.log2 - 23) := by
    rw [Nat.le_div_iff_mul_le (Nat.two_pow_pos _), ← Nat.pow_add, show 23 + (v.log2 - 23) = v.log2 by omega]
    exact hv
  have := @rne_ge v (v.log2 - 23)
  omega

theorem rndR_mono {v u : Nat} (h : v ≤ u) : rndR v ≤ rndR u := by
  by_cases hv : v = 0
  · rw [hv, rndR_zero]; omega
  have hl := log2_mono h (by omega)
  unfold rndR
  have key : (v.log2 - 23) * 8388608 + rne v (v.log2 - 23) ≤ (u.log2 - 23) * 8388608 + rne u (u.log2 - 23) := by
    by_cases he : v.log2 - 23 = u.log2 - 23
    · rw [he]
      have := rne_mono h (u.log2 - 23)
      omega
    · have h1 := @rnd_top v
      have h2 := @rnd_low u (by omega)
      omega
  omega
theorem rndR_pos {v : Nat} (h : 0 < v) : 0 < rndR v := by
  have h1 : rndR 1 = 1 := by decide
  have := rndR_mono (show 1 ≤ v by omega)
  omega
theorem rndR_le (v : Nat) : rndR v ≤ 2139095040 := by unfold rndR; omega

/-- a worth with its sign, rounded: the rung with its sign -/
def rndZ (z : Int) : Int := if z < 0 then -(rndR z.natAbs : Int) else (rndR z.natAbs : Int)
theorem rndZ_mono {a b : Int} (h : a ≤ b) : rndZ a ≤ rndZ b := by
  unfold rndZ
  by_cases ha : a < 0
  · rw [if_pos ha]
    by_cases hb : b < 0
    · rw [if_pos hb]
      have := rndR_mono (show b.natAbs ≤ a.natAbs by omega)
      omega
    · rw [if_neg hb]; omega
  · rw [if_neg ha, if_neg (by omega)]
    have := rndR_mono (show a.natAbs ≤ b.natAbs by omega)
    omega

end Go.Proofs.YtnljpbpphdhnpaaGreatDoor



/- Sums and products of reals of 32 bits, told by their worths: they do not hang on the order, and a sum never falls. -/
namespace Go.Proofs.YtnljpbpphdhnpaaGreatDoor
open Go.RowKit Go.PlainAid

theorem sum_comm (x y : Ieee.Datum) : x.sum y = y.sum x := by
  cases x <;> cases y <;> simp only [Ieee.Datum.sum]
  · rename_i s m i t n j
    rw [Int.min_comm i j, Int.add_comm (Ieee.signed s m _), Bool.and_comm s t]
  · rename_i s t
    by_cases h : s = t
    · rw [if_pos h, if_pos h.symm, h]
    · rw [if_neg h, if_neg (fun e => h e.symm)]
theorem product_comm (x y : Ieee.Datum) : x.product y = y.product x := by
  cases x <;> cases y <;> simp only [Ieee.Datum.product]
  · rename_i s m i t n j
    rw [Bool.xor_comm s t, Nat.mul_comm m n, Int.add_comm i j]
  · rename_i s t
    rw [Bool.xor_comm s t]
theorem add_comm' (a b : Nat) : Ieee.single.add a b = Ieee.single.add b a := by unfold Ieee.Format.add; rw [sum_comm]
theorem mul_comm' (a b : Nat) : Ieee.single.mul a b = Ieee.single.mul b a := by unfold Ieee.Format.mul; rw [product_comm]
theorem opposite_twice (d : Ieee.Datum) : d.opposite.opposite = d := by cases d <;> simp [Ieee.Datum.opposite]

/-- the bits with the other sign -/
def negN (c : Nat) : Nat := if 2147483648 ≤ c then c - 2147483648 else c + 2147483648
theorem read_neg (c : Nat) (h : c < 4294967296) : Ieee.single.read (negN c) = (Ieee.single.read c).opposite := by
  have e1 : Ieee.single.signWeight = 2147483648 := by decide
  have hr : negN c % 2147483648 = c % 2147483648 := by unfold negN; split <;> omega
  have hs : (negN c / 2147483648 % 2 == 1) = !(c / 2147483648 % 2 == 1) := by
    unfold negN
    by_cases hc : 2147483648 ≤ c
    · rw [if_pos hc, show (c - 2147483648) / 2147483648 = 0 by omega, show c / 2147483648 = 1 by omega]; rfl
    · rw [if_neg hc, show (c + 2147483648) / 2147483648 = 1 by omega, show c / 2147483648 = 0 by omega]; rfl
  unfold Ieee.Format.read
  simp only [e1, hr, hs]
  split
  · rfl
  · split
    · rfl
    · split <;> rfl
theorem sub_neg (a c : Nat) (h : c < 4294967296) : Ieee.single.sub a (negN c) = Ieee.single.add a c := by
  unfold Ieee.Format.sub Ieee.Format.add
  rw [read_neg c h, opposite_twice]

theorem signed_units (x : Nat) (m up : Nat) (h : m * 2 ^ up = valN (rungN x)) (b : Nat) (hb : b ≤ up) : Ieee.signed (x / 2147483648 % 2 == 1) m (up - b) * (2 ^ b : Nat) = svalZ x := by
  rw [signed_mul, show up - b + b = up by omega, h]
  unfold svalZ
  simp

/-- a sum of two finite reals: the sum of their worths, rounded -/
theorem add_num (a c : Nat) (ha : rungN a < 2139095040) (hc : rungN c < 2139095040) :
    Ieee.single.add a c = some (Ieee.single.word (if svalZ a + svalZ c = 0 then (a / 2147483648 % 2 == 1) && (c / 2147483648 % 2 == 1) else decide (svalZ a + svalZ c < 0)) (rndR (svalZ a + svalZ c).natAbs)) := by
  obtain ⟨m, i, ra, va⟩ := read_num a ha
  obtain ⟨n, j, rc, vc⟩ := read_num c hc
  unfold Ieee.Format.add
  rw [ra, rc]
  simp only [Ieee.Datum.sum, Option.map_some, Ieee.Format.write]
  have hmin : min (-149 + (i : Int)) (-149 + (j : Int)) = -149 + ((min i j : Nat) : Int) := by omega
  rw [hmin]
  rw [show (-149 + (i : Int) - (-149 + ((min i j : Nat) : Int))).toNat = i - min i j by omega, show (-149 + (j : Int) - (-149 + ((min i j : Nat) : Int))).toNat = j - min i j by omega]
  have f1 := signed_units a m i va (min i j) (by omega)
  have f2 := signed_units c n j vc (min i j) (by omega)
  generalize Ieee.signed (a / 2147483648 % 2 == 1) m (i - min i j) = p at *
  generalize Ieee.signed (c / 2147483648 % 2 == 1) n (j - min i j) = q at *
  generalize min i j = b at *
  have hP : 0 < 2 ^ b := Nat.two_pow_pos b
  have f3 : (p + q) * ((2 ^ b : Nat) : Int) = svalZ a + svalZ c := by rw [Int.add_mul, f1, f2]
  rw [nearest_rnd]
  have f4 : (p + q).natAbs * 2 ^ b = (svalZ a + svalZ c).natAbs := by
    rw [← f3, Int.natAbs_mul]; simp
  rw [f4, ← f3]
  have hPi : (0 : Int) < ((2 ^ b : Nat) : Int) := by exact_mod_cast hP
  have g1 : (p + q) * ((2 ^ b : Nat) : Int) = 0 ↔ p + q = 0 := by
    rw [Int.mul_eq_zero]; constructor
    · rintro (h | h)
      · exact h
      · omega
    · exact fun h => .inl h
  have g2 : (p + q) * ((2 ^ b : Nat) : Int) < 0 ↔ p + q < 0 := by
    constructor
    · intro h
      by_cases hn : p + q < 0
      · exact hn
      · have := Int.mul_nonneg (show 0 ≤ p + q by omega) (Int.le_of_lt hPi); omega
    · intro h
      have := Int.mul_lt_mul_of_pos_right h hPi
      rw [Int.zero_mul] at this; exact this
  simp only [g1, g2]

theorem word_facts (s : Bool) (r : Nat) (h : r < 2147483648) : Ieee.single.word s r < 4294967296 ∧ rungN (Ieee.single.word s r) = r ∧ (Ieee.single.word s r / 2147483648 % 2 == 1) = s ∧ (2147483648 ≤ Ieee.single.word s r ↔ s = true) := by
  have e1 : Ieee.single.signWeight = 2147483648 := by decide
  unfold Ieee.Format.word rungN
  rw [e1]
  cases s
  · simp only [Bool.false_eq_true, if_false]
    refine ⟨by omega, by omega, ?_, ⟨fun h => by omega, fun h => by cases h⟩⟩
    rw [show r / 2147483648 = 0 by omega]; rfl
  · simp only [if_true]
    refine ⟨by omega, by omega, ?_, by simp⟩
    rw [show (2147483648 + r) / 2147483648 = 1 by omega]; rfl

/-- a finite real to which one that is infinite is added -/
theorem add_inf (a c : Nat) (ha : rungN a = 2139095040) (hc : rungN c < 2139095040) : Ieee.single.add a c = some (Ieee.single.word (a / 2147483648 % 2 == 1) 2139095040) := by
  obtain ⟨n, j, rc, vc⟩ := read_num c hc
  unfold Ieee.Format.add
  rw [read_inf a ha, rc]
  rfl
theorem add_nan (a c : Nat) (h : 2139095040 < rungN a ∨ 2139095040 < rungN c) : Ieee.single.add a c = none := by
  unfold Ieee.Format.add
  rcases h with h | h
  · obtain ⟨f, r⟩ := read_nan a h
    rw [r]; rfl
  · obtain ⟨f, r⟩ := read_nan c h
    rw [r]; cases Ieee.single.read a <;> rfl

/-- the place of a real in the order that tells the noughts apart -/
def ordK (x : Nat) : Int := if 2147483648 ≤ x then -(rungN x : Int) - 1 else (rungN x : Int)

/-- a greater real makes no lesser sum -/
theorem add_grows (a b c s t : Nat) (ha : a < 4294967296) (hb : b < 4294967296) (hra : rungN a ≤ 2139095040) (hrb : rungN b ≤ 2139095040) (hc : rungN c < 2139095040)
    (hab : svalZ a < svalZ b) (hs : Ieee.single.add a c = some s) (ht : Ieee.single.add b c = some t) :
    ordK s ≤ ordK t ∧ s < 4294967296 ∧ t < 4294967296 ∧ rungN s ≤ 2139095040 ∧ rungN t ≤ 2139095040 := by
  have key : ∀ x z, x < 4294967296 → rungN x ≤ 2139095040 → Ieee.single.add x c = some z → z < 4294967296 ∧ rungN z ≤ 2139095040 ∧
      ((rungN x = 2139095040 ∧ ordK z = if 2147483648 ≤ x then -2139095041 else 2139095040) ∨ (rungN x < 2139095040 ∧ ∃ sg : Bool, (svalZ x + svalZ c ≠ 0 → sg = decide (svalZ x + svalZ c < 0)) ∧ (svalZ x + svalZ c = 0 → sg = true → svalZ x = 0 ∧ 2147483648 ≤ x) ∧ ordK z = if sg then -(rndR (svalZ x + svalZ c).natAbs : Int) - 1 else (rndR (svalZ x + svalZ c).natAbs : Int))) := by
    intro x z hx hr hz
    by_cases hi : rungN x = 2139095040
    · rw [add_inf x c hi hc] at hz
      obtain rfl := Option.some.inj hz
      obtain ⟨w1, w2, w3, w4⟩ := word_facts (x / 2147483648 % 2 == 1) 2139095040 (by decide)
      refine ⟨w1, by omega, .inl ⟨hi, ?_⟩⟩
      unfold ordK
      rw [w2]
      by_cases hb : 2147483648 ≤ x
      · have : (x / 2147483648 % 2 == 1) = true := by rw [show x / 2147483648 = 1 by omega]; rfl
        rw [if_pos (w4.2 this), if_pos hb]; rfl
      · have : (x / 2147483648 % 2 == 1) = false := by rw [show x / 2147483648 = 0 by omega]; rfl
        rw [if_neg (fun e => by rw [w4.1 e] at this; cases this), if_neg hb]; rfl
    · rw [add_num x c (by omega) hc] at hz
      obtain rfl := Option.some.inj hz
      have hR := rndR_le (svalZ x + svalZ c).natAbs
      generalize hsg : (if svalZ x + svalZ c = 0 then (x / 2147483648 % 2 == 1) && (c / 2147483648 % 2 == 1) else decide (svalZ x + svalZ c < 0)) = sg
      obtain ⟨w1, w2, w3, w4⟩ := word_facts sg (rndR (svalZ x + svalZ c).natAbs) (by omega)
      refine ⟨w1, by omega, .inr ⟨by omega, sg, ?_, ?_, ?_⟩⟩
      · intro hne; rw [← hsg, if_neg hne]
      · intro h0 hsT
        rw [if_pos h0, hsT] at hsg
        simp only [Bool.and_eq_true, beq_iff_eq] at hsg
        obtain ⟨q1, q2⟩ := hsg
        refine ⟨?_, by omega⟩
        unfold svalZ at h0 ⊢
        rw [if_pos q1, if_pos q2] at h0
        rw [if_pos q1]
        omega
      · unfold ordK
        rw [w2]
        cases sg
        · rw [if_neg (fun e => by cases w4.1 e), if_neg (by decide)]
        · rw [if_pos (w4.2 rfl), if_pos rfl]
  obtain ⟨s1, s2, sK⟩ := key a s ha hra hs
  obtain ⟨t1, t2, tK⟩ := key b t hb hrb ht
  refine ⟨?_, s1, t1, s2, t2⟩
  have hinf : ∀ x, x < 4294967296 → rungN x = 2139095040 → svalZ x = if 2147483648 ≤ x then -(valN 2139095040 : Int) else (valN 2139095040 : Int) := by
    intro x hx hr
    unfold svalZ
    rw [hr]
    by_cases hb : 2147483648 ≤ x
    · rw [if_pos hb, if_pos (by omega)]
    · rw [if_neg hb, if_neg (by omega)]
  have hfin : ∀ x, rungN x ≤ 2139095040 → -(valN 2139095040 : Int) ≤ svalZ x ∧ svalZ x ≤ (valN 2139095040 : Int) := by
    intro x hr
    have : valN (rungN x) ≤ valN 2139095040 := by
      rcases Nat.lt_or_ge (rungN x) 2139095040 with h | h
      · exact Nat.le_of_lt (valN_lt h)
      · rw [show rungN x = 2139095040 by omega]; exact Nat.le_refl _
    unfold svalZ
    split <;> omega
  have fa := hfin a hra
  have fb := hfin b hrb
  have hV : 0 < valN 2139095040 := valN_pos (by decide)
  rcases sK with ⟨ia, ka⟩ | ⟨ia, sg, h1, h2, ka⟩
  · have va := hinf a ha ia
    have hlow : 2147483648 ≤ a := by
      by_cases h : 2147483648 ≤ a
      · exact h
      · rw [if_neg h] at va; omega
    rw [if_pos hlow] at ka
    rw [ka]
    unfold ordK
    split <;> omega
  · rcases tK with ⟨ib, kb⟩ | ⟨ib, sh, g1, g2, kb⟩
    · have vb := hinf b hb ib
      have hlow : ¬ 2147483648 ≤ b := by
        intro h
        rw [if_pos h] at vb; omega
      rw [if_neg hlow] at kb
      rw [kb]
      unfold ordK
      split <;> omega
    · rw [ka, kb]
      generalize hA : svalZ a + svalZ c = A at *
      generalize hB : svalZ b + svalZ c = B at *
      have hAB : A < B := by omega
      have mono : ∀ {u v : Nat}, u ≤ v → rndR u ≤ rndR v := fun h => rndR_mono h
      cases sg
      · -- A is not below 0 (or 0)
        have hA0 : 0 ≤ A := by
          by_cases h : A = 0
          · omega
          · have := h1 h; simp at this; omega
        have hsh : sh = false := by
          have := g1 (by omega)
          rw [this]; simp; omega
        rw [hsh]
        simp only [Bool.false_eq_true, if_false]
        have := mono (show A.natAbs ≤ B.natAbs by omega)
        omega
      · simp only [if_true]
        cases sh
        · simp only [Bool.false_eq_true, if_false]
          omega
        · simp only [if_true]
          -- B below 0, or 0 with both noughts below 0
          have hB0 : B ≤ 0 := by
            by_cases h : B = 0
            · omega
            · have := g1 h; simp at this; omega
          have := mono (show B.natAbs ≤ A.natAbs by omega)
          omega

end Go.Proofs.YtnljpbpphdhnpaaGreatDoor



/- Numbers held against one another: by their worth. -/
namespace Go.Proofs.YtnljpbpphdhnpaaGreatDoor
open Go.RowKit Go.PlainAid

theorem isNaN_f32 (x : Nat) (w : World) : Calls Tryz.prog 69 #[.float .f32 x] w fun e w' => e = .returned (.bool (nanB x)) ∧ w' = w := by
  have hn := neq_self x
  cases hb : nanB x <;> rw [hb] at hn
  all_goals
    go_enter Tryz.func69, Tryz.ntmps69
    go_wp2
    go_ret
    exact ⟨rfl, rfl⟩
theorem isNan_any (x : Nat) (w : World) : Calls Tryz.prog 14 #[.float .f32 x] w fun e w' => e = .returned (.bool (nanB x)) ∧ w' = w := by
  have hn := neq_self x
  cases hb : nanB x <;> rw [hb] at hn
  all_goals
    go_enter Tryz.func14, Tryz.ntmps14
    go_wp2
    go_ret
    exact ⟨rfl, rfl⟩
theorem isNaN_i64 (x : Int) (w : World) : Calls Tryz.prog 68 #[.int .i64 x] w fun e w' => e = .returned (.bool false) ∧ w' = w := by
  go_enter Tryz.func68, Tryz.ntmps68
  go_wp2
  go_ret
  exact ⟨rfl, rfl⟩

theorem cmp_i64 (a b : Int) (w : World) : Calls Tryz.prog 46 #[.int .i64 a, .int .i64 b] w fun e w' => e = .returned (.int .i64 (cmpI a b)) ∧ w' = w := by
  have hq : cmpI a b = if a < b then -1 else if b < a then 1 else 0 := rfl
  by_cases h1 : a < b
  · rw [if_pos h1] at hq
    rw [hq]; clear hq
    go_enter Tryz.func46, Tryz.ntmps46
    go_wp2_with (go_at_call 68; refine (isNaN_i64 _ _).mono ?_; rintro e9 w9 ⟨rfl, hw9⟩; obtain rfl := hw9.symm)
    go_ret
    exact ⟨rfl, rfl⟩
  · rw [if_neg h1] at hq
    by_cases h2 : b < a
    · rw [if_pos h2] at hq
      rw [hq]; clear hq
      go_enter Tryz.func46, Tryz.ntmps46
      go_wp2_with (go_at_call 68; refine (isNaN_i64 _ _).mono ?_; rintro e9 w9 ⟨rfl, hw9⟩; obtain rfl := hw9.symm)
      go_ret
      exact ⟨rfl, rfl⟩
    · rw [if_neg h2] at hq
      rw [hq]; clear hq
      go_enter Tryz.func46, Tryz.ntmps46
      go_wp2_with (go_at_call 68; refine (isNaN_i64 _ _).mono ?_; rintro e9 w9 ⟨rfl, hw9⟩; obtain rfl := hw9.symm)
      go_ret
      exact ⟨rfl, rfl⟩

theorem ord_facts (a b : Nat) (ha : nanB a = false) (hb : nanB b = false) :
    (FloatKind.f32.format.order a b == some Ordering.lt) = decide (svalZ a < svalZ b) ∧ (FloatKind.f32.format.order a b == some Ordering.gt) = decide (svalZ b < svalZ a) ∧ (FloatKind.f32.format.order a b == some Ordering.eq) = decide (svalZ a = svalZ b) := by
  have ha' : rungN a ≤ 2139095040 := by simpa [nanB, rungN] using ha
  have hb' : rungN b ≤ 2139095040 := by simpa [nanB, rungN] using hb
  show (Ieee.single.order a b == some Ordering.lt) = _ ∧ (Ieee.single.order a b == some Ordering.gt) = _ ∧ (Ieee.single.order a b == some Ordering.eq) = _
  rw [order_val a b ha' hb']
  have hc : compare (svalZ a) (svalZ b) = if svalZ a < svalZ b then .lt else if svalZ a = svalZ b then .eq else .gt := rfl
  rw [hc]
  generalize svalZ a = p
  generalize svalZ b = q
  rcases Int.lt_trichotomy p q with h | h | h
  · rw [if_pos h]
    have h1 : ¬ q < p := by omega
    have h2 : ¬ p = q := by omega
    simp [h, h1, h2]
  · subst h
    simp
  · have h1 : ¬ p < q := by omega
    have h2 : ¬ p = q := by omega
    rw [if_neg h1, if_neg h2]
    simp [h, h1, h2]

theorem cmp_f32 (a b : Nat) (ha : nanB a = false) (hb : nanB b = false) (w : World) : Calls Tryz.prog 47 #[.float .f32 a, .float .f32 b] w fun e w' => e = .returned (.int .i64 (cmpI (svalZ a) (svalZ b))) ∧ w' = w := by
  have hA := isNaN_f32 a
  have hB := isNaN_f32 b
  rw [ha] at hA
  rw [hb] at hB
  obtain ⟨f1, f2, _⟩ := ord_facts a b ha hb
  have hq : cmpI (svalZ a) (svalZ b) = if svalZ a < svalZ b then -1 else if svalZ b < svalZ a then 1 else 0 := rfl
  by_cases h1 : svalZ a < svalZ b
  · rw [if_pos h1] at hq
    rw [show decide (svalZ a < svalZ b) = true by simpa using h1] at f1
    rw [hq]
    clear hq f2 h1
    go_enter Tryz.func47, Tryz.ntmps47
    go_wp2_with (first | (go_at_call_of 69 a; refine (hA _).mono ?_; rintro e9 w9 ⟨rfl, hw9⟩; obtain rfl := hw9.symm) | (go_at_call 69; refine (hB _).mono ?_; rintro e9 w9 ⟨rfl, hw9⟩; obtain rfl := hw9.symm))
    go_ret
    exact ⟨rfl, rfl⟩
  · rw [if_neg h1] at hq
    rw [show decide (svalZ a < svalZ b) = false by simpa using h1] at f1
    by_cases h2 : svalZ b < svalZ a
    · rw [if_pos h2] at hq
      rw [show decide (svalZ b < svalZ a) = true by simpa using h2] at f2
      rw [hq]
      clear hq h1 h2
      go_enter Tryz.func47, Tryz.ntmps47
      go_wp2_with (first | (go_at_call_of 69 a; refine (hA _).mono ?_; rintro e9 w9 ⟨rfl, hw9⟩; obtain rfl := hw9.symm) | (go_at_call 69; refine (hB _).mono ?_; rintro e9 w9 ⟨rfl, hw9⟩; obtain rfl := hw9.symm))
      go_ret
      exact ⟨rfl, rfl⟩
    · rw [if_neg h2] at hq
      rw [show decide (svalZ b < svalZ a) = false by simpa using h2] at f2
      rw [hq]
      clear hq h1 h2
      go_enter Tryz.func47, Tryz.ntmps47
      go_wp2_with (first | (go_at_call_of 69 a; refine (hA _).mono ?_; rintro e9 w9 ⟨rfl, hw9⟩; obtain rfl := hw9.symm) | (go_at_call 69; refine (hB _).mono ?_; rintro e9 w9 ⟨rfl, hw9⟩; obtain rfl := hw9.symm))
      go_ret
      exact ⟨rfl, rfl⟩

theorem sval_low : svalZ 3741319168 = -(2 ^ 63) * 2 ^ 149 := by decide
theorem sval_high : svalZ 1593835520 = 2 ^ 63 * 2 ^ 149 := by decide
theorem nan_low : nanB 3741319168 = false := by decide
theorem nan_high : nanB 1593835520 = false := by decide

/-- between -2^63 and 2^63: the whole part is a number of 64 bits -/
theorem whole_range (x : Nat) (h1 : ¬ svalZ x < svalZ 3741319168) (h2 : ¬ svalZ 1593835520 ≤ svalZ x) : -9223372036854775808 ≤ wholeZ x ∧ wholeZ x ≤ 9223372036854775807 ∧ rungN x < 2139095040 := by
  rw [sval_low] at h1
  rw [sval_high] at h2
  have hv : valN (rungN x) ≤ 2 ^ 63 * 2 ^ 149 ∧ (¬ x / 2147483648 % 2 = 1 → valN (rungN x) < 2 ^ 63 * 2 ^ 149) := by
    unfold svalZ at h1 h2
    by_cases hs : x / 2147483648 % 2 = 1
    · simp only [hs, if_true] at h1 h2
      have : (valN (rungN x) : Int) ≤ 2 ^ 63 * 2 ^ 149 := by rw [Int.neg_mul] at h1; omega
      exact ⟨by exact_mod_cast this, fun h => absurd hs h⟩
    · simp only [hs, if_false] at h1 h2
      have : (valN (rungN x) : Int) < 2 ^ 63 * 2 ^ 149 := by omega
      have h3 : valN (rungN x) < 2 ^ 63 * 2 ^ 149 := by exact_mod_cast this
      exact ⟨by omega, fun _ => h3⟩
  have hr : rungN x < 2139095040 := by
    apply Nat.lt_of_not_le
    intro h
    have h3 : valN 1593835520 < valN (rungN x) := valN_lt (by omega)
    rw [val_big] at h3
    omega
  refine ⟨?_, ?_, hr⟩
  · unfold wholeZ
    have h3 : valN (rungN x) / 2 ^ 149 ≤ 2 ^ 63 := by
      rw [Nat.div_le_iff_le_mul_add_pred (Nat.two_pow_pos _)]
      omega
    split <;> omega
  · unfold wholeZ
    by_cases hs : x / 2147483648 % 2 = 1
    · rw [if_pos hs]
      omega
    · rw [if_neg hs]
      have h3 : valN (rungN x) / 2 ^ 149 < 2 ^ 63 := by
        rw [Nat.div_lt_iff_lt_mul (Nat.two_pow_pos _)]
        exact hv.2 hs
      omega

theorem wp_f2i (x : Nat) (t : Int) (h : floatToIntVal .f32 x .i64 = some t) (w : World) : (convert 22 2 (.float .f32 x)).run Tryz.prog w = .ok (.int .i64 t) w :=
  run_convert_float_int w 22 2 .f32 .i64 x t (by kernel_rfl) Tryz.underlying2 h

def cmpXN (x : Nat) (n : Int) : Int × Bool := if nanB x = true then (0, false) else (cmpI (svalZ x) (n * 2 ^ 149), true)

set_option maxHeartbeats 1600000 in
theorem compareInt_any (x : Nat) (n : Int) (hn0 : -9223372036854775808 ≤ n) (hn1 : n ≤ 9223372036854775807) (w : World) :
    Calls Tryz.prog 23 #[.float .f32 x, .int .i64 n] w fun e w' => e = .returned (.tuple #[.int .i64 (cmpXN x n).1, .bool (cmpXN x n).2]) ∧ w' = w := by
  have hN := isNan_any x
  have hq : cmpXN x n = if nanB x = true then (0, false) else (cmpI (svalZ x) (n * 2 ^ 149), true) := rfl
  cases hx : nanB x
  · rw [hx] at hN hq
    rw [if_neg (by decide)] at hq
    obtain ⟨f1, _, _⟩ := ord_facts x 3741319168 hx nan_low
    obtain ⟨g1, g2, g3⟩ := ord_facts x 1593835520 hx nan_high
    rw [hq]
    by_cases h1 : svalZ x < svalZ 3741319168
    · rw [show decide (svalZ x < svalZ 3741319168) = true by simpa using h1] at f1
      have hc : cmpI (svalZ x) (n * 2 ^ 149) = -1 := by
        unfold cmpI
        rw [if_pos]
        rw [sval_low] at h1
        have : -(2 : Int) ^ 63 * 2 ^ 149 ≤ n * 2 ^ 149 := Int.mul_le_mul_of_nonneg_right (by omega) (by decide)
        omega
      rw [hc]
      clear hc hq g1 g2 g3 h1
      go_enter Tryz.func23, Tryz.ntmps23
      go_wp2_with (first | (go_at_call 14; refine (hN _).mono ?_; rintro e9 w9 ⟨rfl, hw9⟩; obtain rfl := hw9.symm))
      go_ret2
      exact ⟨rfl, rfl⟩
    · rw [show decide (svalZ x < svalZ 3741319168) = false by simpa using h1] at f1
      by_cases h2 : svalZ 1593835520 ≤ svalZ x
      · have hc : cmpI (svalZ x) (n * 2 ^ 149) = 1 := by
          unfold cmpI
          rw [sval_high] at h2
          have : n * 2 ^ 149 < 2 ^ 63 * 2 ^ 149 := Int.mul_lt_mul_of_pos_right (by omega) (by decide)
          rw [if_neg (by omega), if_pos (by omega)]
        rw [hc]
        clear hc hq
        rw [show decide (svalZ x < svalZ 1593835520) = false by simp; omega] at g1
        by_cases h3 : svalZ x = svalZ 1593835520
        · rw [show decide (svalZ 1593835520 < svalZ x) = false by simp; omega] at g2
          rw [show decide (svalZ x = svalZ 1593835520) = true by simpa using h3] at g3
          clear h2 h3 h1
          go_enter Tryz.func23, Tryz.ntmps23
          go_wp2_with (first | (go_at_call 14; refine (hN _).mono ?_; rintro e9 w9 ⟨rfl, hw9⟩; obtain rfl := hw9.symm))
          go_ret2
          exact ⟨rfl, rfl⟩
        · rw [show decide (svalZ 1593835520 < svalZ x) = true by simp; omega] at g2
          rw [show decide (svalZ x = svalZ 1593835520) = false by simpa using h3] at g3
          clear h2 h3 h1
          go_enter Tryz.func23, Tryz.ntmps23
          go_wp2_with (first | (go_at_call 14; refine (hN _).mono ?_; rintro e9 w9 ⟨rfl, hw9⟩; obtain rfl := hw9.symm))
          go_ret2
          exact ⟨rfl, rfl⟩
      · rw [show decide (svalZ x < svalZ 1593835520) = true by simp; omega] at g1
        rw [show decide (svalZ 1593835520 < svalZ x) = false by simp; omega] at g2
        rw [show decide (svalZ x = svalZ 1593835520) = false by simp; omega] at g3
        obtain ⟨r1, r2, r3⟩ := whole_range x h1 h2
        have hcv : ∀ w, (convert 22 2 (.float .f32 x)).run Tryz.prog w = .ok (.int .i64 (wholeZ x)) w := fun w => wp_f2i x _ (by
          unfold floatToIntVal
          show (match (Ieee.single.read x).toInt .zero with | some n => if IntKind.i64.min ≤ n ∧ n ≤ IntKind.i64.max then some n else none | none => none) = _
          rw [toInt_whole x r3]
          exact if_pos ⟨r1, r2⟩) w
        by_cases hne : wholeZ x = n
        · obtain ⟨b1, b2⟩ := whole_back x (by omega)
          have hcv2 : ∀ w, (convert 2 22 (.int .i64 (wholeZ x))).run Tryz.prog w = .ok (.float .f32 (floatOfInt .f32 (wholeZ x))) w := fun w => run_convert_int_float w 2 22 .i64 .f32 (wholeZ x) (by kernel_rfl) Tryz.underlying22
          have hC := cmp_f32 x (floatOfInt .f32 (wholeZ x)) hx (by unfold nanB; simp; unfold rungN at b2; omega)
          rw [b1, hne] at hC
          rw [hne] at hcv hcv2
          clear b1 b2 r1 r2 r3 hq h1 h2
          generalize cmpI (svalZ x) (n * 2 ^ 149) = cc at hC ⊢
          generalize floatOfInt .f32 n = fl at hcv2 hC
          go_enter Tryz.func23, Tryz.ntmps23
          go_wp2_with (first | (go_at_call 14; refine (hN _).mono ?_; rintro e9 w9 ⟨rfl, hw9⟩; obtain rfl := hw9.symm) | (go_at_call 47; refine (hC _).mono ?_; rintro e9 w9 ⟨rfl, hw9⟩; obtain rfl := hw9.symm))
          go_ret2
          exact ⟨rfl, rfl⟩
        · have hC := cmp_i64 (wholeZ x) n
          rw [cmp_whole x n hne] at hC
          have hne2 : (wholeZ x != n) = true := by simpa using hne
          clear r3 hq h1 h2 hne
          generalize cmpI (svalZ x) (n * 2 ^ 149) = cc at hC ⊢
          generalize wholeZ x = wz at *
          go_enter Tryz.func23, Tryz.ntmps23
          go_wp2_with (first | (go_at_call 14; refine (hN _).mono ?_; rintro e9 w9 ⟨rfl, hw9⟩; obtain rfl := hw9.symm) | (go_at_call 46; refine (hC _).mono ?_; rintro e9 w9 ⟨rfl, hw9⟩; obtain rfl := hw9.symm))
          go_ret2
          exact ⟨rfl, rfl⟩
  · rw [hx] at hN hq
    rw [if_pos rfl] at hq
    rw [hq]
    clear hq
    go_enter Tryz.func23, Tryz.ntmps23
    go_wp2_with (first | (go_at_call 14; refine (hN _).mono ?_; rintro e9 w9 ⟨rfl, hw9⟩; obtain rfl := hw9.symm))
    go_ret2
    exact ⟨rfl, rfl⟩

end Go.Proofs.YtnljpbpphdhnpaaGreatDoor



/- Are two reals one: the program's Same. -/
namespace Go.Proofs.YtnljpbpphdhnpaaGreatDoor
open Go.RowKit Go.PlainAid

def belowB (x : Nat) : Bool := !nanB x && decide (2147483648 ≤ x)

theorem drewN_drewN (w : World) (a b : Nat) : (w.drewN a).drewN b = w.drewN (a + b) := by
  simp [World.drewN]
  omega

set_option maxRecDepth 100000 in
theorem below0_any (x : Nat) (h : x < 4294967296) (w : World) : Calls Tryz.prog 15 #[.float .f32 x] w fun e w' => e = .returned (.bool (belowB x)) ∧ w' = w := by
  have hN := isNan_any x
  have hfb := run_f32bits x w
  have h31 := and31 x h
  unfold belowB
  cases hx : nanB x <;> rw [hx] at hN
  · by_cases hb : 2147483648 ≤ x
    · rw [if_pos hb] at h31
      have ht : (bits .and .u32 (x : Int) 2147483648 != 0) = true := by rw [h31]; rfl
      rw [show decide (2147483648 ≤ x) = true by simpa using hb]
      clear h31 hb
      go_enter Tryz.func15, Tryz.ntmps15
      go_wp2_with (first | (go_at_call 14; refine (hN _).mono ?_; rintro e9 w9 ⟨rfl, hw9⟩; obtain rfl := hw9.symm))
      go_ret
      exact ⟨rfl, rfl⟩
    · rw [if_neg hb] at h31
      have ht : (bits .and .u32 (x : Int) 2147483648 != 0) = false := by rw [h31]; rfl
      rw [show decide (2147483648 ≤ x) = false by simpa using hb]
      clear h31 hb
      go_enter Tryz.func15, Tryz.ntmps15
      go_wp2_with (first | (go_at_call 14; refine (hN _).mono ?_; rintro e9 w9 ⟨rfl, hw9⟩; obtain rfl := hw9.symm))
      go_ret
      exact ⟨rfl, rfl⟩
  · clear hfb h31
    go_enter Tryz.func15, Tryz.ntmps15
    go_wp2_with (first | (go_at_call 14; refine (hN _).mono ?_; rintro e9 w9 ⟨rfl, hw9⟩; obtain rfl := hw9.symm))
    go_ret
    exact ⟨rfl, rfl⟩

/-- equal as numbers; nan equals none -/
def eqB (a b : Nat) : Bool := !nanB a && !nanB b && decide (svalZ a = svalZ b)
theorem eq_any (a b : Nat) : (FloatKind.f32.format.order a b == some Ordering.eq) = eqB a b := by
  unfold eqB
  cases ha : nanB a
  · cases hb : nanB b
    · rw [(ord_facts a b ha hb).2.2]; rfl
    · show (Ieee.single.order a b == some Ordering.eq) = _
      rw [order_any, if_pos (.inr (by simpa [nanB, rungN] using hb))]
      rfl
  · show (Ieee.single.order a b == some Ordering.eq) = _
    rw [order_any, if_pos (.inl (by simpa [nanB, rungN] using ha))]
    rfl

def sameR (a b : Nat) : Bool := nanB a && nanB b || eqB a b && (belowB a == belowB b)

set_option maxRecDepth 100000 in
set_option maxHeartbeats 1600000 in
theorem realSame_any (a b : Nat) (ha : a < 4294967296) (hb : b < 4294967296) (w : World) : Calls Tryz.prog 12 #[.float .f32 a, .float .f32 b] w fun e w' => e = .returned (.bool (sameR a b)) ∧ w' = w := by
  have hA := isNan_any a
  have hB := isNan_any b
  have hC := below0_any a ha
  have hD := below0_any b hb
  have hE := eq_any a b
  unfold sameR
  generalize belowB a = p at hC ⊢
  generalize belowB b = q at hD ⊢
  generalize eqB a b = r at hE ⊢
  cases h1 : nanB a <;> rw [h1] at hA
  · cases r
    · go_enter Tryz.func12, Tryz.ntmps12
      go_wp2_with (first | (go_at_call_of 14 a; refine (hA _).mono ?_; rintro e9 w9 ⟨rfl, hw9⟩; obtain rfl := hw9.symm))
      go_ret
      exact ⟨rfl, rfl⟩
    · cases p <;> cases q
      all_goals
        go_enter Tryz.func12, Tryz.ntmps12
        go_wp2_with (first | (go_at_call 14; refine (hA _).mono ?_; rintro e9 w9 ⟨rfl, hw9⟩; obtain rfl := hw9.symm) | (go_at_call_of 15 a; refine (hC _).mono ?_; rintro e9 w9 ⟨rfl, hw9⟩; obtain rfl := hw9.symm) | (go_at_call 15; refine (hD _).mono ?_; rintro e9 w9 ⟨rfl, hw9⟩; obtain rfl := hw9.symm))
        go_ret
        exact ⟨rfl, rfl⟩
  · cases h2 : nanB b <;> rw [h2] at hB
    · cases r
      · go_enter Tryz.func12, Tryz.ntmps12
        go_wp2_with (first | (go_at_call_of 14 a; refine (hA _).mono ?_; rintro e9 w9 ⟨rfl, hw9⟩; obtain rfl := hw9.symm) | (go_at_call 14; refine (hB _).mono ?_; rintro e9 w9 ⟨rfl, hw9⟩; obtain rfl := hw9.symm))
        go_ret
        exact ⟨rfl, rfl⟩
      · cases p <;> cases q
        all_goals
          go_enter Tryz.func12, Tryz.ntmps12
          go_wp2_with (first | (go_at_call_of 14 a; refine (hA _).mono ?_; rintro e9 w9 ⟨rfl, hw9⟩; obtain rfl := hw9.symm) | (go_at_call 14; refine (hB _).mono ?_; rintro e9 w9 ⟨rfl, hw9⟩; obtain rfl := hw9.symm) | (go_at_call_of 15 a; refine (hC _).mono ?_; rintro e9 w9 ⟨rfl, hw9⟩; obtain rfl := hw9.symm) | (go_at_call 15; refine (hD _).mono ?_; rintro e9 w9 ⟨rfl, hw9⟩; obtain rfl := hw9.symm))
          go_ret
          exact ⟨rfl, rfl⟩
    · go_enter Tryz.func12, Tryz.ntmps12
      go_wp2_with (first | (go_at_call_of 14 a; refine (hA _).mono ?_; rintro e9 w9 ⟨rfl, hw9⟩; obtain rfl := hw9.symm) | (go_at_call 14; refine (hB _).mono ?_; rintro e9 w9 ⟨rfl, hw9⟩; obtain rfl := hw9.symm))
      go_ret
      exact ⟨rfl, rfl⟩


end Go.Proofs.YtnljpbpphdhnpaaGreatDoor



/- The program's order of reals, their keys, the next one: for every input. -/
namespace Go.Proofs.YtnljpbpphdhnpaaGreatDoor
open Go.RowKit Go.PlainAid

def ltB (a b : Nat) : Bool := !nanB a && !nanB b && decide (svalZ a < svalZ b)
theorem lt_any (a b : Nat) : (FloatKind.f32.format.order a b == some Ordering.lt) = ltB a b := by
  unfold ltB
  cases ha : nanB a
  · cases hb : nanB b
    · rw [(ord_facts a b ha hb).1]; rfl
    · show (Ieee.single.order a b == some Ordering.lt) = _
      rw [order_any, if_pos (.inr (by simpa [nanB, rungN] using hb))]
      rfl
  · show (Ieee.single.order a b == some Ordering.lt) = _
    rw [order_any, if_pos (.inl (by simpa [nanB, rungN] using ha))]
    rfl
theorem gt_any (a b : Nat) : (FloatKind.f32.format.order a b == some Ordering.gt) = ltB b a := by
  unfold ltB
  cases ha : nanB a
  · cases hb : nanB b
    · rw [(ord_facts a b ha hb).2.1]; rfl
    · show (Ieee.single.order a b == some Ordering.gt) = _
      rw [order_any, if_pos (.inr (by simpa [nanB, rungN] using hb))]
      rfl
  · show (Ieee.single.order a b == some Ordering.gt) = _
    rw [order_any, if_pos (.inl (by simpa [nanB, rungN] using ha))]
    cases nanB b <;> rfl

/-- where a real stands, by its key -/
theorem stand (a b : Nat) (ha : a < 4294967296) (hb : b < 4294967296) (na : nanB a = false) (nb : nanB b = false) :
    (svalZ a < svalZ b ↔ (keyN a < keyN b ∧ ¬ (a = 2147483648 ∧ b = 0))) ∧ (svalZ a = svalZ b ↔ (keyN a = keyN b ∨ (a = 2147483648 ∧ b = 0) ∨ (a = 0 ∧ b = 2147483648))) := by
  obtain ⟨s1, s2⟩ := sval_srung a b
  have ra : rungN a ≤ 2139095040 := by simpa [nanB, rungN] using na
  have rb : rungN b ≤ 2139095040 := by simpa [nanB, rungN] using nb
  rw [s1, s2]
  unfold keyN srungZ
  rw [na, nb]
  unfold rungN at ra rb ⊢
  simp only [Bool.false_eq_true, if_false]
  constructor <;> split <;> split <;> split <;> split <;> omega
theorem key_low (a : Nat) (na : nanB a = false) (ha : a < 4294967296) : 8388607 ≤ keyN a ∧ keyN a ≤ 4286578688 := by
  have ra : rungN a ≤ 2139095040 := by simpa [nanB, rungN] using na
  unfold keyN
  rw [na]
  unfold rungN at ra
  simp only [Bool.false_eq_true, if_false]
  split <;> omega
theorem key_nan (a : Nat) (na : nanB a = true) : keyN a = 4290772992 := by
  unfold keyN; rw [na]; rfl
theorem same_key (a b : Nat) (ha : a < 4294967296) (hb : b < 4294967296) : sameR a b = decide (keyN a = keyN b) := by
  unfold sameR eqB belowB
  cases na : nanB a
  · have ka := key_low a na ha
    cases nb : nanB b
    · obtain ⟨_, s2⟩ := stand a b ha hb na nb
      simp only [Bool.false_and, Bool.false_or, Bool.not_false, Bool.true_and]
      rw [Bool.eq_iff_iff]
      simp only [Bool.and_eq_true, decide_eq_true_eq, beq_iff_eq, decide_eq_decide]
      rw [s2]
      have ra : rungN a ≤ 2139095040 := by simpa [nanB, rungN] using na
      have rb : rungN b ≤ 2139095040 := by simpa [nanB, rungN] using nb
      unfold rungN at ra rb
      unfold keyN
      rw [na, nb]
      simp only [Bool.false_eq_true, if_false]
      split <;> split <;> omega
    · have kb := key_nan b nb
      simp
      omega
  · have ka := key_nan a na
    cases nb : nanB b
    · have kb := key_low b nb hb
      simp
      omega
    · have kb := key_nan b nb
      simp
      omega
theorem cmp_key (a b : Nat) (ha : a < 4294967296) (hb : b < 4294967296) :
    cmpI (keyN a) (keyN b) = if sameR a b = true then 0 else if (nanB b || ltB a b) = true then -1 else if (nanB a || ltB b a) = true then 1 else if belowB a = true then -1 else 1 := by
  rw [same_key a b ha hb]
  unfold ltB belowB cmpI
  simp only [decide_eq_true_eq]
  by_cases he : keyN a = keyN b
  · rw [if_pos he, if_neg (by omega), if_neg (by omega)]
  rw [if_neg he]
  cases na : nanB a
  · have ka := key_low a na ha
    cases nb : nanB b
    · obtain ⟨s1, _⟩ := stand a b ha hb na nb
      obtain ⟨s3, _⟩ := stand b a hb ha nb na
      simp only [Bool.not_false, Bool.true_and, Bool.false_or, decide_eq_true_eq]
      simp only [s1, s3]
      have ra : rungN a ≤ 2139095040 := by simpa [nanB, rungN] using na
      have rb : rungN b ≤ 2139095040 := by simpa [nanB, rungN] using nb
      unfold rungN at ra rb
      have k0 : keyN 0 = 2147483648 := by decide
      have k1 : keyN 2147483648 = 2147483647 := by decide
      by_cases h1 : keyN a < keyN b
      · rw [if_pos (by omega)]
        by_cases h2 : a = 2147483648 ∧ b = 0
        · obtain ⟨rfl, rfl⟩ := h2
          decide
        · rw [if_pos ⟨h1, h2⟩]
      · rw [if_neg (by omega), if_pos (by omega), if_neg (fun h => h1 h.1)]
        by_cases h2 : b = 2147483648 ∧ a = 0
        · obtain ⟨rfl, rfl⟩ := h2
          decide
        · rw [if_pos ⟨by omega, h2⟩]
    · have kb := key_nan b nb
      rw [if_pos (by omega)]
      rfl
  · have ka := key_nan a na
    cases nb : nanB b
    · have kb := key_low b nb hb
      rw [if_neg (by omega), if_pos (by omega)]
      rfl
    · have kb := key_nan b nb
      omega


def fromN (k : Nat) : Nat := if nanB (bitsK k) = true then 2143289344 else bitsK k
def nextN (x : Nat) (up : Bool) : Nat := if up then fromN (keyN x + 1) else if keyN x = 4290772992 then 2139095040 else if keyN x = 8388607 then x else fromN (keyN x - 1)

theorem bitsK_lt (k : Nat) (h : k < 4294967296) : bitsK k < 4294967296 := by unfold bitsK; split <;> omega
theorem fromN_lt (k : Nat) (h : k < 4294967296) : fromN k < 4294967296 := by
  unfold fromN; split
  · omega
  · exact bitsK_lt k h
/-- the key of what a key says -/
theorem key_from (k : Nat) (h : k < 4294967296) : keyN (fromN k) = if 8388607 ≤ k ∧ k ≤ 4286578688 then k else 4290772992 := by
  unfold fromN
  by_cases hr : 8388607 ≤ k ∧ k ≤ 4286578688
  · have hn : nanB (bitsK k) = false := by
      unfold nanB bitsK
      simp only [decide_eq_false_iff_not]
      split <;> omega
    rw [if_pos hr, hn, if_neg (by decide)]
    unfold keyN
    rw [hn, if_neg (by decide)]
    unfold bitsK
    split <;> split <;> omega
  · have hn : nanB (bitsK k) = true := by
      unfold nanB bitsK
      simp only [decide_eq_true_eq]
      split <;> omega
    rw [if_neg hr, hn, if_pos rfl]
    decide

theorem nan_any (w : World) : Calls Tryz.prog 26 #[] w fun e w' => e = .returned (.float .f32 2143289344) ∧ w' = w := by
  have hfb := run_f32from 2143289344
  have e : ((2143289344 : Nat) : Int) = 2143289344 := rfl
  rw [e] at hfb; clear e
  go_enter Tryz.func26, Tryz.ntmps26
  go_wp2
  go_ret
  exact ⟨rfl, rfl⟩
set_option maxRecDepth 1000000 in
theorem signed_any (x : Nat) (h : x < 2147483648) (neg : Bool) (w : World) : Calls Tryz.prog 30 #[.float .f32 x, .bool neg] w fun e w' => e = .returned (.float .f32 (if neg then x + 2147483648 else x)) ∧ w' = w := by
  have hfb := run_f32bits x
  have hfr := run_f32from (x + 2147483648)
  have hor := or31 x h
  cases neg
  · go_enter Tryz.func30, Tryz.ntmps30
    go_wp2
    go_ret
    exact ⟨rfl, rfl⟩
  · simp only [if_true]
    generalize x + 2147483648 = y at *
    go_enter Tryz.func30, Tryz.ntmps30
    go_wp2
    go_ret
    exact ⟨rfl, rfl⟩
theorem infinite_any (neg : Bool) (w : World) : Calls Tryz.prog 27 #[.bool neg] w fun e w' => e = .returned (.float .f32 (if neg then 4286578688 else 2139095040)) ∧ w' = w := by
  have hfb := run_f32from 2139095040
  have e : ((2139095040 : Nat) : Int) = 2139095040 := rfl
  rw [e] at hfb; clear e
  have hS := signed_any 2139095040 (by decide) neg
  go_enter Tryz.func27, Tryz.ntmps27
  go_wp2_with (first | (go_at_call 30; refine (hS _).mono ?_; rintro e9 w9 ⟨rfl, hw9⟩; obtain rfl := hw9.symm))
  all_goals go_ret
  all_goals simp_all

theorem key_bot (x : Nat) (h : x < 4294967296) : 8388607 ≤ keyN x := by
  cases hn : nanB x
  · have := key_low x hn h; omega
  · rw [key_nan x hn]; omega
theorem key_top (x : Nat) (h : x < 4294967296) : keyN x ≤ 4290772992 := by
  cases hn : nanB x
  · have := key_low x hn h; omega
  · rw [key_nan x hn]; omega
end Go.Proofs.YtnljpbpphdhnpaaGreatDoor


