/- The bits of a real of 32 bits: nan, the key, the sign. -/
import Derived.Test.YtfpcpociejefaaaGreatDoorProg
import Derived.WalkKit
import Derived.WalkSpells
import Derived.WalkLawsBesides
import Derived.PlainAid
import Derived.ProofKit
import Derived.Laws.BitsAllLaws
import Derived.Laws.FloatArith
import Derived.Deep.RegionWith
import Derived.Deep.RegionHeld3
import Derived.Shelf.Strings.Trim
import Derived.Shelf.Small.Wraps
import Derived.Shelf.Strconv.Atoi
import Derived.Shelf.Strconv.Itoa0
import Derived.Shelf.Strconv.Itoa1
import Derived.Shelf.Strconv.Itoa2
import Derived.Shelf.Strconv.Itoa3
import Derived.Shelf.Strconv.Itoa4
import Derived.Shelf.Strings.Search1
import Derived.Shelf.Strings.Replace
import Derived.Shelf.Strings.Repeat
import Derived.Shelf.Bits.Mul64
import Derived.Shelf.Strings.Builder1
import Derived.Shelf.Strings.Builder2
import Derived.Shelf.LaysM
import Derived.Handy
import Derived.WalkMore
import Derived.Deep.QuietTactic
import GoSem.PinnedTables
import Derived.BigQuiet

namespace Go.Proofs.YtfpcpociejefaaaGreatDoor
open Go.RowKit Go.PlainAid
set_option maxRecDepth 1000000 in
theorem run_f32bits (x : Nat) (w : World) : (callFunc 104 #[.float .f32 x]).run Tryz.prog w = .ok (.value (.int .u32 (x : Int))) w :=
 (run_callFunc_extern (e := Extern.MathFloatBits.float32bits) Tryz.func104 (by kernel_rfl) (by kernel_rfl) (by kernel_rfl) (by kernel_rfl) _ w).trans rfl
set_option maxRecDepth 1000000 in
theorem run_f32from (x : Nat) (w : World) : (callFunc 140 #[.int .u32 (x : Int)]).run Tryz.prog w = .ok (.value (.float .f32 x)) w :=
 (run_callFunc_extern (e := Extern.MathFloatBits.float32frombits) Tryz.func140 (by kernel_rfl) (by kernel_rfl) (by kernel_rfl) (by kernel_rfl) _ w).trans rfl
def nanB (x : Nat) : Bool := decide (2139095040 < x % 2147483648)
def keyN (x : Nat) : Nat := if nanB x = true then 4290772992 else if 2147483648 ≤ x then 4294967295 - x else x + 2147483648
set_option maxRecDepth 1000000 in
theorem keyN_lt (x : Nat) (h : x < 4294967296) : keyN x < 4294967296 := by unfold keyN; split; omega; split <;> omega
set_option maxRecDepth 1000000 in
theorem order_self (x : Nat) : (Ieee.single.order x x = some .eq) ↔ nanB x = false := by
 unfold Ieee.Format.order Ieee.Format.read nanB
 have e1 : Ieee.single.signWeight = 2147483648 := by decide
 have e2 : Ieee.single.infRung = 2139095040 := by decide
 have e3 : Ieee.single.binade = 8388608 := by decide
 rw [e1, e2, e3]
 simp only [decide_eq_false_iff_not, Nat.not_lt]
 split
 ·simp [Ieee.Datum.order]; omega
 ·split
  ·simp [Ieee.Datum.order]; omega
  ·split
   ·simp [Ieee.Datum.order]; omega
   ·simp [Ieee.Datum.order]; omega
set_option maxRecDepth 1000000 in
theorem neq_self (x : Nat) : (FloatKind.f32.format.order x x != some Ordering.eq) = nanB x := by
 have h := order_self x
 show (Ieee.single.order x x != some Ordering.eq) = nanB x
 cases hn : nanB x
 ·rw [h.2 hn]; rfl
 ·rw [hn] at h
  simpa using h
set_option maxRecDepth 1000000 in
theorem and31 (x : Nat) (h : x < 4294967296) : bits .and .u32 (x : Int) 2147483648 = if 2147483648 ≤ x then 2147483648 else 0 := by
 have h1 := u32_and_nat x 2147483648 h (by decide)
 have e : ((2147483648 : Nat) : Int) = 2147483648 := rfl
 rw [e] at h1
 rw [h1]
 have h2 : x &&& 2 ^ 31 = if 2147483648 ≤ x then 2 ^ 31 else 0 := by
  apply Nat.eq_of_testBit_eq
  intro i
  rw [Nat.testBit_and, Nat.testBit_two_pow]
  by_cases hi : 31 = i
  ·subst hi
   split
   ·rw [Nat.testBit_two_pow_self, Nat.testBit_eq_decide_div_mod_eq]
    simp
    omega
   ·rw [Nat.testBit_lt_two_pow (by omega)]
    simp
  ·split
   ·rw [Nat.testBit_two_pow]; simp [hi]
   ·simp [hi]
 rw [show (2147483648 : Nat) = 2 ^ 31 by decide] at h1 ⊢
 rw [h2]
 split <;> rfl
set_option maxRecDepth 1000000 in
theorem or31 (x : Nat) (h : x < 2147483648) : bits .or .u32 (x : Int) 2147483648 = ((x + 2147483648 : Nat) : Int) := by
 have h1 := u32_or_nat x 2147483648 (by omega) (by decide)
 have e : ((2147483648 : Nat) : Int) = 2147483648 := rfl
 rw [e] at h1
 rw [h1]
 have h2 := Nat.two_pow_add_eq_or_of_lt (i := 31) (b := x) (by simpa using h) 1
 simp at h2
 rw [Nat.or_comm, ← h2]
 congr 1
 omega
set_option maxRecDepth 1000000 in
theorem xor_ones32 (b : Nat) (hb : b < 2 ^ 32) : (2 ^ 32 - 1) ^^^ b = 2 ^ 32 - 1 - b := by
 apply Nat.eq_of_testBit_eq
 intro i
 rw [Nat.testBit_xor, Nat.testBit_two_pow_sub_one, show 2 ^ 32 - 1 - b = 2 ^ 32 - (b + 1) by omega, Nat.testBit_two_pow_sub_succ hb]
 by_cases hi : i < 32
 ·simp [hi]
 ·have : b.testBit i = false := Nat.testBit_lt_two_pow (Nat.lt_of_lt_of_le hb (Nat.pow_le_pow_right (by decide) (by omega)))
  simp [hi, this]
set_option maxRecDepth 1000000 in
theorem not32 (x : Nat) (h : x < 4294967296) : bits .xor .u32 IntKind.u32.max (x : Int) = ((4294967295 - x : Nat) : Int) := by
 have h1 := u32_xor_nat 4294967295 x (by decide) h
 have e : IntKind.u32.max = ((4294967295 : Nat) : Int) := by decide
 rw [e, h1]
 have h2 := xor_ones32 x (by simpa using h)
 rw [show (4294967295 : Nat) = 2 ^ 32 - 1 by decide, h2]
end Go.Proofs.YtfpcpociejefaaaGreatDoor

/- How two reals of 32 bits stand to one another, told by their bits. -/
namespace Go.Proofs.YtfpcpociejefaaaGreatDoor
open Go.RowKit Go.PlainAid
theorem cmp_congr {a b c d : Int} (h1 : a < b ↔ c < d) (h2 : a = b ↔ c = d) : compare a b = compare c d := by
 show compareOfLessAndEq a b = compareOfLessAndEq c d
 unfold compareOfLessAndEq
 simp only [h1, h2]
/-- the rung of the bits, and with its sign -/
def rungN (x : Nat) : Nat := x % 2147483648
def srungZ (x : Nat) : Int := if x / 2147483648 % 2 = 1 then -(rungN x : Int) else (rungN x : Int)
/-- the worth of a rung that is finite, in units of 2^-149 -/
def valN (r : Nat) : Nat := if r < 8388608 then r else (8388608 + r % 8388608) * 2 ^ (r / 8388608 - 1)
theorem valN_lt {r s : Nat} (h : r < s) : valN r < valN s := by
 unfold valN
 have hp : ∀ k : Nat, 0 < 2 ^ k := fun k => Nat.two_pow_pos k
 by_cases hr : r < 8388608
 ·rw [if_pos hr]
  by_cases hs : s < 8388608
  ·rw [if_pos hs]; exact h
  ·rw [if_neg hs]
   have h1 := hp (s / 8388608 - 1)
   have h2 : (8388608 + s % 8388608) * 1 ≤ (8388608 + s % 8388608) * 2 ^ (s / 8388608 - 1) := Nat.mul_le_mul_left _ h1
   omega
 ·rw [if_neg hr, if_neg (by omega)]
  by_cases hq : r / 8388608 = s / 8388608
  ·rw [hq]
   exact Nat.mul_lt_mul_of_pos_right (by omega) (hp _)
  ·have hq1 : r / 8388608 + 1 ≤ s / 8388608 := by omega
   have h1 : (8388608 + r % 8388608) * 2 ^ (r / 8388608 - 1) < 16777216 * 2 ^ (r / 8388608 - 1) := Nat.mul_lt_mul_of_pos_right (by omega) (hp _)
   have h2 : 16777216 * 2 ^ (r / 8388608 - 1) = 8388608 * 2 ^ (r / 8388608) := by
    have : r / 8388608 = r / 8388608 - 1 + 1 := by omega
    conv => rhs; rw [this, Nat.pow_succ]
    omega
   have h3 : 2 ^ (r / 8388608) ≤ 2 ^ (s / 8388608 - 1) := Nat.pow_le_pow_right (by omega) (by omega)
   have h4 : 8388608 * 2 ^ (r / 8388608) ≤ 8388608 * 2 ^ (s / 8388608 - 1) := Nat.mul_le_mul_left _ h3
   have h5 : 8388608 * 2 ^ (s / 8388608 - 1) ≤ (8388608 + s % 8388608) * 2 ^ (s / 8388608 - 1) := Nat.mul_le_mul_right _ (by omega)
   omega
theorem valN_inj {r s : Nat} : valN r = valN s ↔ r = s := by
 constructor
 ·intro h
  rcases Nat.lt_trichotomy r s with h1 | h1 | h1
  ·have := valN_lt h1; omega
  ·exact h1
  ·have := valN_lt h1; omega
 ·intro h; rw [h]
theorem valN_iff {r s : Nat} : valN r < valN s ↔ r < s := by
 constructor
 ·intro h
  rcases Nat.lt_trichotomy r s with h1 | h1 | h1
  ·exact h1
  ·rw [h1] at h; omega
  ·have := valN_lt h1; omega
 ·exact valN_lt
theorem valN_zero : valN 0 = 0 := rfl
theorem valN_pos {r : Nat} (h : 0 < r) : 0 < valN r := by have := valN_lt h; rw [valN_zero] at this; omega
/-- the worth with its sign -/
def svalZ (x : Nat) : Int := if x / 2147483648 % 2 = 1 then -(valN (rungN x) : Int) else (valN (rungN x) : Int)
/-- the bits as a datum: a number, whose worth is told by 'valN' -/
theorem read_num (x : Nat) (h : rungN x < 2139095040) : ∃ m : Nat, ∃ up : Nat, Ieee.single.read x = .number (x / 2147483648 % 2 == 1) m (-149 + (up : Int)) ∧ m * 2 ^ up = valN (rungN x) := by
 have e1 : Ieee.single.signWeight = 2147483648 := by decide
 have e2 : Ieee.single.binade = 8388608 := by decide
 have e3 : Ieee.single.infRung = 2139095040 := by decide
 have e4 : Ieee.single.leastPlace = -149 := by decide
 unfold rungN at h ⊢
 unfold Ieee.Format.read valN
 simp only [e1, e2, e3, e4]
 by_cases hb : x % 2147483648 < 8388608
 ·rw [if_pos hb, if_pos hb]
  exact ⟨x % 2147483648, 0, by simp, by simp⟩
 ·rw [if_neg hb, if_pos h, if_neg hb]
  exact ⟨_, _, rfl, rfl⟩
theorem read_inf (x : Nat) (h : rungN x = 2139095040) : Ieee.single.read x = .infinity (x / 2147483648 % 2 == 1) := by
 have e1 : Ieee.single.signWeight = 2147483648 := by decide
 have e2 : Ieee.single.binade = 8388608 := by decide
 have e3 : Ieee.single.infRung = 2139095040 := by decide
 unfold rungN at h
 unfold Ieee.Format.read
 simp only [e1, e2, e3, h]
 rfl
theorem read_nan (x : Nat) (h : 2139095040 < rungN x) : ∃ f, Ieee.single.read x = .nan (x / 2147483648 % 2 == 1) f := by
 have e1 : Ieee.single.signWeight = 2147483648 := by decide
 have e2 : Ieee.single.binade = 8388608 := by decide
 have e3 : Ieee.single.infRung = 2139095040 := by decide
 unfold rungN at h
 unfold Ieee.Format.read
 simp only [e1, e2, e3]
 rw [if_neg (by omega), if_neg (by omega), if_neg (by omega)]
 exact ⟨_, rfl⟩
theorem signed_mul (s : Bool) (m up k : Nat) : Ieee.signed s m up * (2 ^ k : Nat) = if s then -((m * 2 ^ (up + k) : Nat) : Int) else ((m * 2 ^ (up + k) : Nat) : Int) := by
 unfold Ieee.signed
 rw [Nat.shiftLeft_eq]
 cases s
 ·simp only [Bool.false_eq_true, if_false]
  rw [Nat.pow_add, ← Nat.mul_assoc]
  simp
 ·simp only [if_true]
  rw [Nat.pow_add, ← Nat.mul_assoc]
  simp [Int.neg_mul]
theorem scale_lt (a b : Int) (k : Nat) : a < b ↔ a * (2 ^ k : Nat) < b * (2 ^ k : Nat) := by
 have h : (0 : Int) < ((2 ^ k : Nat) : Int) := by exact_mod_cast Nat.two_pow_pos k
 constructor
 ·exact fun hl => Int.mul_lt_mul_of_pos_right hl h
 ·exact fun hl => Int.lt_of_mul_lt_mul_right hl (Int.le_of_lt h)
theorem scale_eq (a b : Int) (k : Nat) : a = b ↔ a * (2 ^ k : Nat) = b * (2 ^ k : Nat) := by
 have h : ((2 ^ k : Nat) : Int) ≠ 0 := by have := Nat.two_pow_pos k; omega
 constructor
 ·intro e; rw [e]
 ·exact fun e => Int.eq_of_mul_eq_mul_right h e
theorem order_num (x y : Nat) (hx : rungN x < 2139095040) (hy : rungN y < 2139095040) : Ieee.single.order x y = some (compare (svalZ x) (svalZ y)) := by
 obtain ⟨m, i, rx, vx⟩ := read_num x hx
 obtain ⟨n, j, ry, vy⟩ := read_num y hy
 unfold Ieee.Format.order
 rw [rx, ry]
 simp only [Ieee.Datum.order]
 congr 1
 have hmin : min (-149 + (i : Int)) (-149 + (j : Int)) = -149 + ((min i j : Nat) : Int) := by omega
 rw [hmin]
 have e1 : (-149 + (i : Int) - (-149 + ((min i j : Nat) : Int))).toNat = i - min i j := by omega
 have e2 : (-149 + (j : Int) - (-149 + ((min i j : Nat) : Int))).toNat = j - min i j := by omega
 rw [e1, e2]
 have f1 := signed_mul (x / 2147483648 % 2 == 1) m (i - min i j) (min i j)
 have f2 := signed_mul (y / 2147483648 % 2 == 1) n (j - min i j) (min i j)
 rw [show i - min i j + min i j = i by omega, vx] at f1
 rw [show j - min i j + min i j = j by omega, vy] at f2
 have g1 : (if (x / 2147483648 % 2 == 1) = true then -((valN (rungN x) : Nat) : Int) else ((valN (rungN x) : Nat) : Int)) = svalZ x := by
  unfold svalZ; simp
 have g2 : (if (y / 2147483648 % 2 == 1) = true then -((valN (rungN y) : Nat) : Int) else ((valN (rungN y) : Nat) : Int)) = svalZ y := by
  unfold svalZ; simp
 rw [g1] at f1
 rw [g2] at f2
 apply cmp_congr
 ·rw [scale_lt _ _ (min i j), f1, f2]
 ·rw [scale_eq _ _ (min i j), f1, f2]
theorem sval_srung (x y : Nat) : (svalZ x < svalZ y ↔ srungZ x < srungZ y) ∧ (svalZ x = svalZ y ↔ srungZ x = srungZ y) := by
 unfold svalZ srungZ
 generalize rungN x = r
 generalize rungN y = s
 have h1 := @valN_iff r s
 have h2 := @valN_inj r s
 have h3 := @valN_iff s r
 have p1 : 0 < r → 0 < valN r := fun h => valN_pos h
 have p2 : 0 < s → 0 < valN s := fun h => valN_pos h
 have z1 : r = 0 → valN r = 0 := fun h => by rw [h]; rfl
 have z2 : s = 0 → valN s = 0 := fun h => by rw [h]; rfl
 generalize valN r = a at *
 generalize valN s = b at *
 constructor <;> split <;> split <;> omega
/-- how two reals stand: by their rungs with their signs; nan stands nowhere -/
theorem order_any (x y : Nat) : Ieee.single.order x y = if 2139095040 < rungN x ∨ 2139095040 < rungN y then none else some (compare (srungZ x) (srungZ y)) := by
 by_cases hx : 2139095040 < rungN x
 ·rw [if_pos (.inl hx)]
  obtain ⟨f, rx⟩ := read_nan x hx
  unfold Ieee.Format.order
  rw [rx]
  rfl
 by_cases hy : 2139095040 < rungN y
 ·rw [if_pos (.inr hy)]
  obtain ⟨f, ry⟩ := read_nan y hy
  unfold Ieee.Format.order
  rw [ry]
  cases Ieee.single.read x <;> rfl
 rw [if_neg (by omega)]
 by_cases hx2 : rungN x = 2139095040
 ·have rx := read_inf x hx2
  by_cases hy2 : rungN y = 2139095040
  ·have ry := read_inf y hy2
   unfold Ieee.Format.order srungZ
   rw [rx, ry, hx2, hy2]
   simp only [Ieee.Datum.order]
   have hb : ∀ z : Nat, (if z / 2147483648 % 2 = 1 then -((2139095040 : Nat) : Int) else ((2139095040 : Nat) : Int)) = if (z / 2147483648 % 2 == 1) = true then -2139095040 else 2139095040 := by intro z; simp
   rw [hb, hb]
   generalize (x / 2147483648 % 2 == 1) = p
   generalize (y / 2147483648 % 2 == 1) = q
   cases p <;> cases q <;> decide
  ·obtain ⟨n, j, ry, vy⟩ := read_num y (by omega)
   unfold Ieee.Format.order srungZ
   rw [rx, ry, hx2]
   simp only [Ieee.Datum.order]
   congr 1
   by_cases h1 : x / 2147483648 % 2 = 1
   ·simp only [h1, beq_self_eq_true, if_true]
    symm
    show compareOfLessAndEq _ _ = _
    unfold compareOfLessAndEq
    rw [if_pos (by split <;> omega)]
   ·have h1' : (x / 2147483648 % 2 == 1) = false := by simpa using h1
    simp only [h1, h1', if_false, Bool.false_eq_true]
    symm
    show compareOfLessAndEq _ _ = _
    unfold compareOfLessAndEq
    rw [if_neg (by split <;> omega), if_neg (by split <;> omega)]
 ·obtain ⟨m, i, rx, vx⟩ := read_num x (by omega)
  by_cases hy2 : rungN y = 2139095040
  ·have ry := read_inf y hy2
   unfold Ieee.Format.order srungZ
   rw [rx, ry, hy2]
   simp only [Ieee.Datum.order]
   congr 1
   by_cases h1 : y / 2147483648 % 2 = 1
   ·simp only [h1, beq_self_eq_true, if_true]
    symm
    show compareOfLessAndEq _ _ = _
    unfold compareOfLessAndEq
    rw [if_neg (by split <;> omega), if_neg (by split <;> omega)]
   ·have h1' : (y / 2147483648 % 2 == 1) = false := by simpa using h1
    simp only [h1, h1', if_false, Bool.false_eq_true]
    symm
    show compareOfLessAndEq _ _ = _
    unfold compareOfLessAndEq
    rw [if_pos (by split <;> omega)]
  ·rw [order_num x y (by omega) (by omega)]
   congr 1
   exact cmp_congr (sval_srung x y).1 (sval_srung x y).2
end Go.Proofs.YtfpcpociejefaaaGreatDoor

/- A real of 32 bits cut to a whole number, a whole number as a real: told by their worth. -/
namespace Go.Proofs.YtfpcpociejefaaaGreatDoor
open Go.RowKit Go.PlainAid
def cmpI (a b : Int) : Int := if a < b then -1 else if b < a then 1 else 0
end Go.Proofs.YtfpcpociejefaaaGreatDoor

/- Numbers held against one another: by their worth. -/
namespace Go.Proofs.YtfpcpociejefaaaGreatDoor
open Go.RowKit Go.PlainAid
theorem isNan_any (x : Nat) (w : World) : Calls Tryz.prog 105 #[.float .f32 x] w fun e w' => e = .returned (.bool (nanB x)) ∧ w' = w := by
 have hn := neq_self x
 cases hb : nanB x <;> rw [hb] at hn
 all_goals
  go_enter Tryz.func105, Tryz.ntmps105
  go_wp2
  go_ret
  exact ⟨rfl, rfl⟩
end Go.Proofs.YtfpcpociejefaaaGreatDoor

/- Are two reals one: the program's Same. -/
namespace Go.Proofs.YtfpcpociejefaaaGreatDoor
open Go.RowKit Go.PlainAid
def belowB (x : Nat) : Bool := !nanB x && decide (2147483648 ≤ x)
theorem drewN_drewN (w : World) (a b : Nat) : (w.drewN a).drewN b = w.drewN (a + b) := by
 simp [World.drewN]
 omega
set_option maxRecDepth 100000 in
theorem below0_any (x : Nat) (h : x < 4294967296) (w : World) : Calls Tryz.prog 106 #[.float .f32 x] w fun e w' => e = .returned (.bool (belowB x)) ∧ w' = w := by
 have hN := isNan_any x
 have hfb := run_f32bits x w
 have h31 := and31 x h
 unfold belowB
 cases hx : nanB x <;> rw [hx] at hN
 ·by_cases hb : 2147483648 ≤ x
  ·rw [if_pos hb] at h31
   have ht : (bits .and .u32 (x : Int) 2147483648 != 0) = true := by rw [h31]; rfl
   rw [show decide (2147483648 ≤ x) = true by simpa using hb]
   clear h31 hb
   go_enter Tryz.func106, Tryz.ntmps106
   go_wp2_with (first | (go_at_call 105; refine (hN _).mono ?_; rintro e9 w9 ⟨rfl, hw9⟩; obtain rfl := hw9.symm))
   go_ret
   exact ⟨rfl, rfl⟩
  ·rw [if_neg hb] at h31
   have ht : (bits .and .u32 (x : Int) 2147483648 != 0) = false := by rw [h31]; rfl
   rw [show decide (2147483648 ≤ x) = false by simpa using hb]
   clear h31 hb
   go_enter Tryz.func106, Tryz.ntmps106
   go_wp2_with (first | (go_at_call 105; refine (hN _).mono ?_; rintro e9 w9 ⟨rfl, hw9⟩; obtain rfl := hw9.symm))
   go_ret
   exact ⟨rfl, rfl⟩
 ·clear hfb h31
  go_enter Tryz.func106, Tryz.ntmps106
  go_wp2_with (first | (go_at_call 105; refine (hN _).mono ?_; rintro e9 w9 ⟨rfl, hw9⟩; obtain rfl := hw9.symm))
  go_ret
  exact ⟨rfl, rfl⟩
/-- equal as numbers; nan equals none -/
def eqB (a b : Nat) : Bool := !nanB a && !nanB b && decide (svalZ a = svalZ b)
def sameR (a b : Nat) : Bool := nanB a && nanB b || eqB a b && (belowB a == belowB b)
end Go.Proofs.YtfpcpociejefaaaGreatDoor

/- The program's order of reals, their keys, the next one: for every input. -/
namespace Go.Proofs.YtfpcpociejefaaaGreatDoor
open Go.RowKit Go.PlainAid
/-- where a real stands, by its key -/
theorem stand (a b : Nat) (ha : a < 4294967296) (hb : b < 4294967296) (na : nanB a = false) (nb : nanB b = false) :
  (svalZ a < svalZ b ↔ (keyN a < keyN b ∧ ¬ (a = 2147483648 ∧ b = 0))) ∧ (svalZ a = svalZ b ↔ (keyN a = keyN b ∨ (a = 2147483648 ∧ b = 0) ∨ (a = 0 ∧ b = 2147483648))) := by
 obtain ⟨s1, s2⟩ := sval_srung a b
 have ra : rungN a ≤ 2139095040 := by simpa [nanB, rungN] using na
 have rb : rungN b ≤ 2139095040 := by simpa [nanB, rungN] using nb
 rw [s1, s2]
 unfold keyN srungZ
 rw [na, nb]
 unfold rungN at ra rb ⊢
 simp only [Bool.false_eq_true, if_false]
 constructor <;> split <;> split <;> split <;> split <;> omega
set_option maxRecDepth 1000000 in
theorem signed_any (x : Nat) (h : x < 2147483648) (neg : Bool) (w : World) : Calls Tryz.prog 139 #[.float .f32 x, .bool neg] w fun e w' => e = .returned (.float .f32 (if neg then x + 2147483648 else x)) ∧ w' = w := by
 have hfb := run_f32bits x
 have hfr := run_f32from (x + 2147483648)
 have hor := or31 x h
 cases neg
 ·go_enter Tryz.func139, Tryz.ntmps139
  go_wp2
  go_ret
  exact ⟨rfl, rfl⟩
 ·simp only [if_true]
  generalize x + 2147483648 = y at *
  go_enter Tryz.func139, Tryz.ntmps139
  go_wp2
  go_ret
  exact ⟨rfl, rfl⟩
theorem infinite_any (neg : Bool) (w : World) : Calls Tryz.prog 123 #[.bool neg] w fun e w' => e = .returned (.float .f32 (if neg then 4286578688 else 2139095040)) ∧ w' = w := by
 have hfb := run_f32from 2139095040
 have e : ((2139095040 : Nat) : Int) = 2139095040 := rfl
 rw [e] at hfb; clear e
 have hS := signed_any 2139095040 (by decide) neg
 go_enter Tryz.func123, Tryz.ntmps123
 go_wp2_with (first | (go_at_call 139; refine (hS _).mono ?_; rintro e9 w9 ⟨rfl, hw9⟩; obtain rfl := hw9.symm))
 all_goals go_ret
 all_goals simp_all
end Go.Proofs.YtfpcpociejefaaaGreatDoor

/- What the library's functions answer, laid at this program. -/
namespace Go.Proofs
open Go.Shelf
def Tryz.lays172_ren : Go.Shelf.Ren := ⟨fun | 172 => 143 | 244 => 154 | 245 => 155 | 247 => 166 | 279 => 167 | 280 => 168 | 281 => 169 | 282 => 170 | 287 => 193 | 316 => 194 | 171 => 126 | 205 => 195 | 321 => 200 | 322 => 217 | 243 => 145 | 246 => 96 | 283 => 111 | 284 => 112 | 285 => 113 | 286 => 114 | 129 => 130 | 317 => 129 | 318 => 131 | 319 => 132 | 320 => 133 | 337 => 148 | 338 => 149 | n => n, fun | 9 => 9 | 3 => 3 | 75 => 44 | 76 => 45 | 4 => 4 | 5 => 5 | 167 => 176 | 37 => 33 | 0 => 0 | 85 => 177 | 2 => 2 | 168 => 179 | 53 => 57 | 175 => 200 | 46 => 87 | 210 => 203 | 127 => 77 | 145 => 227 | 143 => 225 | 21 => 21 | 171 => 122 | 173 => 125 | 212 => 145 | 51 => 105 | 20 => 20 | 213 => 146 | 232 => 172 | 233 => 173 | 80 => 49 | n => n, fun | 15 => 7 | 16 => 8 | 17 => 2 | 18 => 3 | 19 => 4 | n => n⟩
theorem Tryz.lays172 : Go.Proofs.Lays.n172 Tryz.prog Tryz.lays172_ren := {
 mixed := by kernel_rfl
 f129 := Tryz.func130.trans (congrArg some (by kernel_rfl))
 f171 := Tryz.func126.trans (congrArg some (by kernel_rfl))
 f172 := Tryz.func143.trans (congrArg some (by kernel_rfl))
 f205 := Tryz.func195.trans (congrArg some (by kernel_rfl))
 f243 := Tryz.func145.trans (congrArg some (by kernel_rfl))
 f244 := Tryz.func154.trans (congrArg some (by kernel_rfl))
 f245 := Tryz.func155.trans (congrArg some (by kernel_rfl))
 f246 := Tryz.func96.trans (congrArg some (by kernel_rfl))
 f247 := Tryz.func166.trans (congrArg some (by kernel_rfl))
 f279 := Tryz.func167.trans (congrArg some (by kernel_rfl))
 f280 := Tryz.func168.trans (congrArg some (by kernel_rfl))
 f281 := Tryz.func169.trans (congrArg some (by kernel_rfl))
 f282 := Tryz.func170.trans (congrArg some (by kernel_rfl))
 f283 := Tryz.func111.trans (congrArg some (by kernel_rfl))
 f284 := Tryz.func112.trans (congrArg some (by kernel_rfl))
 f285 := Tryz.func113.trans (congrArg some (by kernel_rfl))
 f286 := Tryz.func114.trans (congrArg some (by kernel_rfl))
 f287 := Tryz.func193.trans (congrArg some (by kernel_rfl))
 f316 := Tryz.func194.trans (congrArg some (by kernel_rfl))
 f317 := Tryz.func129.trans (congrArg some (by kernel_rfl))
 f318 := Tryz.func131.trans (congrArg some (by kernel_rfl))
 f319 := Tryz.func132.trans (congrArg some (by kernel_rfl))
 f320 := Tryz.func133.trans (congrArg some (by kernel_rfl))
 f321 := Tryz.func200.trans (congrArg some (by kernel_rfl))
 f322 := Tryz.func217.trans (congrArg some (by kernel_rfl))
 f337 := Tryz.func148.trans (congrArg some (by kernel_rfl))
 f338 := Tryz.func149.trans (congrArg some (by kernel_rfl))
 t0 := Tryz.underlying0
 a0 := Tryz.isAgg0
 z0 := Tryz.sizeOf0
 v0 := Tryz.zeroValue0
 t2 := Tryz.underlying2
 a2 := Tryz.isAgg2
 z2 := Tryz.sizeOf2
 v2 := Tryz.zeroValue2
 t3 := Tryz.underlying3
 a3 := Tryz.isAgg3
 z3 := Tryz.sizeOf3
 v3 := Tryz.zeroValue3
 t4 := Tryz.underlying4
 a4 := Tryz.isAgg4
 z4 := Tryz.sizeOf4
 v4 := Tryz.zeroValue4
 t5 := Tryz.underlying5
 a5 := Tryz.isAgg5
 z5 := Tryz.sizeOf5
 v5 := Tryz.zeroValue5
 t9 := Tryz.underlying9
 a9 := Tryz.isAgg9
 z9 := Tryz.sizeOf9
 v9 := Tryz.zeroValue9
 t20 := Tryz.underlying20
 a20 := Tryz.isAgg20
 z20 := Tryz.sizeOf20
 v20 := Tryz.zeroValue20
 t21 := Tryz.underlying21
 a21 := Tryz.isAgg21
 z21 := Tryz.sizeOf21
 v21 := Tryz.zeroValue21
 t37 := Tryz.underlying33
 a37 := Tryz.isAgg33
 z37 := Tryz.sizeOf33
 v37 := Tryz.zeroValue33
 t46 := Tryz.underlying87
 a46 := Tryz.isAgg87
 z46 := Tryz.sizeOf87
 v46 := Tryz.zeroValue87
 t51 := Tryz.underlying105
 a51 := Tryz.isAgg105
 z51 := Tryz.sizeOf105
 v51 := Tryz.zeroValue105
 t53 := Tryz.underlying57
 a53 := Tryz.isAgg57
 z53 := Tryz.sizeOf57
 v53 := Tryz.zeroValue57
 t75 := Tryz.underlying44
 a75 := Tryz.isAgg44
 z75 := Tryz.sizeOf44
 v75 := Tryz.zeroValue44
 t76 := Tryz.underlying45
 a76 := Tryz.isAgg45
 z76 := Tryz.sizeOf45
 v76 := Tryz.zeroValue45
 t85 := Tryz.underlying177
 a85 := Tryz.isAgg177
 z85 := Tryz.sizeOf177
 v85 := Tryz.zeroValue177
 t127 := Tryz.underlying77
 a127 := Tryz.isAgg77
 z127 := Tryz.sizeOf77
 v127 := Tryz.zeroValue77
 t143 := Tryz.underlying225
 a143 := Tryz.isAgg225
 z143 := Tryz.sizeOf225
 v143 := Tryz.zeroValue225
 t145 := Tryz.underlying227
 a145 := Tryz.isAgg227
 z145 := Tryz.sizeOf227
 v145 := Tryz.zeroValue227
 t167 := Tryz.underlying176
 a167 := Tryz.isAgg176
 z167 := Tryz.sizeOf176
 v167 := Tryz.zeroValue176
 t168 := Tryz.underlying179
 a168 := Tryz.isAgg179
 z168 := Tryz.sizeOf179
 v168 := Tryz.zeroValue179
 t171 := Tryz.underlying122
 a171 := Tryz.isAgg122
 z171 := Tryz.sizeOf122
 v171 := Tryz.zeroValue122
 t173 := Tryz.underlying125
 a173 := Tryz.isAgg125
 z173 := Tryz.sizeOf125
 v173 := Tryz.zeroValue125
 t175 := Tryz.underlying200
 a175 := Tryz.isAgg200
 z175 := Tryz.sizeOf200
 v175 := Tryz.zeroValue200
 t210 := Tryz.underlying203
 a210 := Tryz.isAgg203
 z210 := Tryz.sizeOf203
 v210 := Tryz.zeroValue203
 t212 := Tryz.underlying145
 a212 := Tryz.isAgg145
 z212 := Tryz.sizeOf145
 v212 := Tryz.zeroValue145
 t213 := Tryz.underlying146
 a213 := Tryz.isAgg146
 z213 := Tryz.sizeOf146
 t232 := Tryz.underlying172
 a232 := Tryz.isAgg172
 z232 := Tryz.sizeOf172
 v232 := Tryz.zeroValue172
 t233 := Tryz.underlying173
 a233 := Tryz.isAgg173
 z233 := Tryz.sizeOf173
 v233 := Tryz.zeroValue173
 g15 := by kernel_rfl
 g16 := by kernel_rfl
 g17 := by kernel_rfl
 g18 := by kernel_rfl
 g19 := by kernel_rfl }
open Go.RowKit in
theorem Tryz.strconv_Atoi (s : ByteArray) (n : Int) (hl : s.size ≤ 18) (h : Lib.atoi s.data.toList = some n) (w : World) :
  Calls Tryz.prog 143 #[.string s] w fun e w' => e = .returned (.tuple #[.int .i64 n, .nilIface]) ∧ ∃ t, w' = Lib.bytesWorld w 5 t := Any.strconv_Atoi Tryz.lays172 s n hl h w
def Tryz.lays129_ren : Go.Shelf.Ren := ⟨fun | 129 => 130 | n => n, fun | 53 => 57 | 3 => 3 | 4 => 4 | 46 => 87 | 5 => 5 | 9 => 9 | n => n, fun | n => n⟩
theorem Tryz.lays129 : Go.Proofs.Lays.n129 Tryz.prog Tryz.lays129_ren := {
 mixed := by kernel_rfl
 f129 := Tryz.func130.trans (congrArg some (by kernel_rfl))
 t3 := Tryz.underlying3
 a3 := Tryz.isAgg3
 z3 := Tryz.sizeOf3
 v3 := Tryz.zeroValue3
 t4 := Tryz.underlying4
 a4 := Tryz.isAgg4
 z4 := Tryz.sizeOf4
 v4 := Tryz.zeroValue4
 t5 := Tryz.underlying5
 a5 := Tryz.isAgg5
 z5 := Tryz.sizeOf5
 v5 := Tryz.zeroValue5
 t9 := Tryz.underlying9
 a9 := Tryz.isAgg9
 z9 := Tryz.sizeOf9
 v9 := Tryz.zeroValue9
 t46 := Tryz.underlying87
 a46 := Tryz.isAgg87
 z46 := Tryz.sizeOf87
 v46 := Tryz.zeroValue87
 t53 := Tryz.underlying57
 a53 := Tryz.isAgg57
 z53 := Tryz.sizeOf57
 v53 := Tryz.zeroValue57 }
theorem Tryz.bits_Len64 (x : Int) (w : World) (h0 : 0 ≤ x) (h1 : x ≤ 18446744073709551615) :
  Calls Tryz.prog 130 #[.int .u64 x] w fun e w' => e = .returned (.int .i64 (Lib.bitLen x.toNat)) ∧ w' = w := Any.bits_Len64 Tryz.lays129 x w h0 h1
open Go.Lib in
def Tryz.lays285_ren : Go.Shelf.Ren := ⟨fun | 285 => 113 | n => n, fun | 37 => 33 | 53 => 57 | 3 => 3 | 4 => 4 | 51 => 105 | 9 => 9 | 5 => 5 | 0 => 0 | n => n, fun | n => n⟩
theorem Tryz.lays285 : Go.Proofs.Lays.n285 Tryz.prog Tryz.lays285_ren := {
 mixed := by kernel_rfl
 f285 := Tryz.func113.trans (congrArg some (by kernel_rfl))
 t0 := Tryz.underlying0
 a0 := Tryz.isAgg0
 z0 := Tryz.sizeOf0
 v0 := Tryz.zeroValue0
 t3 := Tryz.underlying3
 a3 := Tryz.isAgg3
 z3 := Tryz.sizeOf3
 v3 := Tryz.zeroValue3
 t4 := Tryz.underlying4
 a4 := Tryz.isAgg4
 z4 := Tryz.sizeOf4
 v4 := Tryz.zeroValue4
 t5 := Tryz.underlying5
 a5 := Tryz.isAgg5
 z5 := Tryz.sizeOf5
 v5 := Tryz.zeroValue5
 t9 := Tryz.underlying9
 a9 := Tryz.isAgg9
 z9 := Tryz.sizeOf9
 v9 := Tryz.zeroValue9
 t37 := Tryz.underlying33
 a37 := Tryz.isAgg33
 z37 := Tryz.sizeOf33
 v37 := Tryz.zeroValue33
 t51 := Tryz.underlying105
 a51 := Tryz.isAgg105
 z51 := Tryz.sizeOf105
 v51 := Tryz.zeroValue105
 t53 := Tryz.underlying57
 a53 := Tryz.isAgg57
 z53 := Tryz.sizeOf57
 v53 := Tryz.zeroValue57 }
open Go.RowKit Go.Sort Go.Lib in
theorem Tryz.internal_strconv_formatBase10 (blk off cap : Nat) (u : Nat) (d : Array UInt8) (w : World) (hH : Holds (fun (b : UInt8) => Value.int .u8 (b.toNat : Int)) w blk off d) (hu : u < 10 ^ d.size) (hu64 : u < 18446744073709551616) (hsz : d.size < 4611686018427387904) :
  Calls Tryz.prog 113 #[.slice (some ⟨blk, off, none⟩) d.size cap, .int .u64 u] w fun e w' =>
   e = .returned (.tuple #[]) ∧ ∃ (n v' : Nat) (dk : Array UInt8), w' = (putRow (fun (b : UInt8) => Value.int .u8 (b.toNat : Int)) w blk off dk).drewN n ∧ FmtInv d.size u 0 v' dk := Any.internal_strconv_formatBase10 Tryz.lays285 blk off cap u d w hH hu hu64 hsz
def Tryz.laysM171_ren : Go.Shelf.Ren := ⟨fun | 171 => 126 | 243 => 145 | 246 => 96 | 283 => 111 | 284 => 112 | 285 => 113 | 286 => 114 | 129 => 130 | 317 => 129 | 318 => 131 | 319 => 132 | 320 => 133 | 337 => 148 | 338 => 149 | n => n, fun | 3 => 3 | 9 => 9 | 2 => 2 | 4 => 4 | 171 => 122 | 0 => 0 | 53 => 57 | 37 => 33 | 5 => 5 | 173 => 125 | 212 => 145 | 51 => 105 | 20 => 20 | 213 => 146 | 46 => 87 | 232 => 172 | 233 => 173 | n => n, fun | 17 => 2 | 18 => 3 | 19 => 4 | n => n⟩
theorem Tryz.laysM171 : Go.Proofs.LaysM.n171 Tryz.prog Tryz.laysM171_ren := {
 mixed := by kernel_rfl
 f129 := Tryz.func130.trans (congrArg some (by kernel_rfl))
 f171 := Tryz.func126.trans (congrArg some (by kernel_rfl))
 f243 := Tryz.func145.trans (congrArg some (by kernel_rfl))
 f246 := Tryz.func96.trans (congrArg some (by kernel_rfl))
 f283 := Tryz.func111.trans (congrArg some (by kernel_rfl))
 f284 := Tryz.func112.trans (congrArg some (by kernel_rfl))
 f285 := Tryz.func113.trans (congrArg some (by kernel_rfl))
 f286 := Tryz.func114.trans (congrArg some (by kernel_rfl))
 f317 := Tryz.func129.trans (congrArg some (by kernel_rfl))
 f318 := Tryz.func131.trans (congrArg some (by kernel_rfl))
 f319 := Tryz.func132.trans (congrArg some (by kernel_rfl))
 f320 := Tryz.func133.trans (congrArg some (by kernel_rfl))
 f337 := Tryz.func148.trans (congrArg some (by kernel_rfl))
 f338 := Tryz.func149.trans (congrArg some (by kernel_rfl))
 t0 := Tryz.underlying0
 a0 := Tryz.isAgg0
 z0 := Tryz.sizeOf0
 v0 := Tryz.zeroValue0
 t2 := Tryz.underlying2
 a2 := Tryz.isAgg2
 z2 := Tryz.sizeOf2
 v2 := Tryz.zeroValue2
 t3 := Tryz.underlying3
 a3 := Tryz.isAgg3
 z3 := Tryz.sizeOf3
 v3 := Tryz.zeroValue3
 t4 := Tryz.underlying4
 a4 := Tryz.isAgg4
 z4 := Tryz.sizeOf4
 v4 := Tryz.zeroValue4
 t5 := Tryz.underlying5
 a5 := Tryz.isAgg5
 z5 := Tryz.sizeOf5
 v5 := Tryz.zeroValue5
 t9 := Tryz.underlying9
 a9 := Tryz.isAgg9
 z9 := Tryz.sizeOf9
 v9 := Tryz.zeroValue9
 t20 := Tryz.underlying20
 a20 := Tryz.isAgg20
 z20 := Tryz.sizeOf20
 v20 := Tryz.zeroValue20
 t37 := Tryz.underlying33
 a37 := Tryz.isAgg33
 z37 := Tryz.sizeOf33
 v37 := Tryz.zeroValue33
 t46 := Tryz.underlying87
 a46 := Tryz.isAgg87
 z46 := Tryz.sizeOf87
 v46 := Tryz.zeroValue87
 t51 := Tryz.underlying105
 a51 := Tryz.isAgg105
 z51 := Tryz.sizeOf105
 v51 := Tryz.zeroValue105
 t53 := Tryz.underlying57
 a53 := Tryz.isAgg57
 z53 := Tryz.sizeOf57
 v53 := Tryz.zeroValue57
 t171 := Tryz.underlying122
 a171 := Tryz.isAgg122
 z171 := Tryz.sizeOf122
 v171 := Tryz.zeroValue122
 t173 := Tryz.underlying125
 a173 := Tryz.isAgg125
 z173 := Tryz.sizeOf125
 v173 := Tryz.zeroValue125
 t212 := Tryz.underlying145
 a212 := Tryz.isAgg145
 z212 := Tryz.sizeOf145
 v212 := Tryz.zeroValue145
 t213 := Tryz.underlying146
 a213 := Tryz.isAgg146
 z213 := Tryz.sizeOf146
 t232 := Tryz.underlying172
 a232 := Tryz.isAgg172
 z232 := Tryz.sizeOf172
 v232 := Tryz.zeroValue172
 t233 := Tryz.underlying173
 a233 := Tryz.isAgg173
 z233 := Tryz.sizeOf173
 v233 := Tryz.zeroValue173
 g17 := by kernel_rfl
 g18 := by kernel_rfl
 g19 := by kernel_rfl
 i0 := by kernel_rfl
 i2 := by kernel_rfl
 i3 := by kernel_rfl
 i4 := by kernel_rfl
 i5 := by kernel_rfl
 i9 := by kernel_rfl
 i20 := by kernel_rfl
 i37 := by kernel_rfl
 i46 := by kernel_rfl
 i51 := by kernel_rfl
 i53 := by kernel_rfl
 i171 := by kernel_rfl
 i173 := by kernel_rfl
 i212 := by kernel_rfl
 i232 := by kernel_rfl
 i233 := by kernel_rfl
 m17 := by kernel_rfl
 m18 := by kernel_rfl
 m19 := by kernel_rfl }
open Go.RowKit Go.Sort Go.Lib in
def Tryz.laysM173_ren : Go.Shelf.Ren := ⟨fun | 173 => 76 | 246 => 96 | 283 => 111 | 284 => 112 | 285 => 113 | 286 => 114 | 129 => 130 | 317 => 129 | 318 => 131 | 319 => 132 | 320 => 133 | 337 => 148 | 338 => 149 | n => n, fun | 2 => 2 | 3 => 3 | 9 => 9 | 4 => 4 | 171 => 122 | 0 => 0 | 53 => 57 | 37 => 33 | 5 => 5 | 173 => 125 | 212 => 145 | 51 => 105 | 20 => 20 | 213 => 146 | 46 => 87 | 232 => 172 | 233 => 173 | n => n, fun | 17 => 2 | 18 => 3 | 19 => 4 | n => n⟩
theorem Tryz.laysM173 : Go.Proofs.LaysM.n173 Tryz.prog Tryz.laysM173_ren := {
 mixed := by kernel_rfl
 f129 := Tryz.func130.trans (congrArg some (by kernel_rfl))
 f173 := Tryz.func76.trans (congrArg some (by kernel_rfl))
 f246 := Tryz.func96.trans (congrArg some (by kernel_rfl))
 f283 := Tryz.func111.trans (congrArg some (by kernel_rfl))
 f284 := Tryz.func112.trans (congrArg some (by kernel_rfl))
 f285 := Tryz.func113.trans (congrArg some (by kernel_rfl))
 f286 := Tryz.func114.trans (congrArg some (by kernel_rfl))
 f317 := Tryz.func129.trans (congrArg some (by kernel_rfl))
 f318 := Tryz.func131.trans (congrArg some (by kernel_rfl))
 f319 := Tryz.func132.trans (congrArg some (by kernel_rfl))
 f320 := Tryz.func133.trans (congrArg some (by kernel_rfl))
 f337 := Tryz.func148.trans (congrArg some (by kernel_rfl))
 f338 := Tryz.func149.trans (congrArg some (by kernel_rfl))
 t0 := Tryz.underlying0
 a0 := Tryz.isAgg0
 z0 := Tryz.sizeOf0
 v0 := Tryz.zeroValue0
 t2 := Tryz.underlying2
 a2 := Tryz.isAgg2
 z2 := Tryz.sizeOf2
 v2 := Tryz.zeroValue2
 t3 := Tryz.underlying3
 a3 := Tryz.isAgg3
 z3 := Tryz.sizeOf3
 v3 := Tryz.zeroValue3
 t4 := Tryz.underlying4
 a4 := Tryz.isAgg4
 z4 := Tryz.sizeOf4
 v4 := Tryz.zeroValue4
 t5 := Tryz.underlying5
 a5 := Tryz.isAgg5
 z5 := Tryz.sizeOf5
 v5 := Tryz.zeroValue5
 t9 := Tryz.underlying9
 a9 := Tryz.isAgg9
 z9 := Tryz.sizeOf9
 v9 := Tryz.zeroValue9
 t20 := Tryz.underlying20
 a20 := Tryz.isAgg20
 z20 := Tryz.sizeOf20
 v20 := Tryz.zeroValue20
 t37 := Tryz.underlying33
 a37 := Tryz.isAgg33
 z37 := Tryz.sizeOf33
 v37 := Tryz.zeroValue33
 t46 := Tryz.underlying87
 a46 := Tryz.isAgg87
 z46 := Tryz.sizeOf87
 v46 := Tryz.zeroValue87
 t51 := Tryz.underlying105
 a51 := Tryz.isAgg105
 z51 := Tryz.sizeOf105
 v51 := Tryz.zeroValue105
 t53 := Tryz.underlying57
 a53 := Tryz.isAgg57
 z53 := Tryz.sizeOf57
 v53 := Tryz.zeroValue57
 t171 := Tryz.underlying122
 a171 := Tryz.isAgg122
 z171 := Tryz.sizeOf122
 v171 := Tryz.zeroValue122
 t173 := Tryz.underlying125
 a173 := Tryz.isAgg125
 z173 := Tryz.sizeOf125
 v173 := Tryz.zeroValue125
 t212 := Tryz.underlying145
 a212 := Tryz.isAgg145
 z212 := Tryz.sizeOf145
 v212 := Tryz.zeroValue145
 t213 := Tryz.underlying146
 a213 := Tryz.isAgg146
 z213 := Tryz.sizeOf146
 t232 := Tryz.underlying172
 a232 := Tryz.isAgg172
 z232 := Tryz.sizeOf172
 v232 := Tryz.zeroValue172
 t233 := Tryz.underlying173
 a233 := Tryz.isAgg173
 z233 := Tryz.sizeOf173
 v233 := Tryz.zeroValue173
 g17 := by kernel_rfl
 g18 := by kernel_rfl
 g19 := by kernel_rfl
 i0 := by kernel_rfl
 i2 := by kernel_rfl
 i3 := by kernel_rfl
 i4 := by kernel_rfl
 i5 := by kernel_rfl
 i9 := by kernel_rfl
 i20 := by kernel_rfl
 i37 := by kernel_rfl
 i46 := by kernel_rfl
 i51 := by kernel_rfl
 i53 := by kernel_rfl
 i171 := by kernel_rfl
 i173 := by kernel_rfl
 i212 := by kernel_rfl
 i232 := by kernel_rfl
 i233 := by kernel_rfl
 m17 := by kernel_rfl
 m18 := by kernel_rfl
 m19 := by kernel_rfl }
def Tryz.lays219_ren : Go.Shelf.Ren := ⟨fun | 219 => 163 | 217 => 177 | 225 => 178 | 224 => 179 | 267 => 180 | 266 => 196 | 314 => 197 | n => n, fun | 9 => 9 | 3 => 3 | 4 => 4 | 5 => 5 | 46 => 87 | 146 => 184 | 51 => 105 | n => n, fun | 1 => 5 | n => n⟩
theorem Tryz.lays219 : Go.Proofs.Lays.n219 Tryz.prog Tryz.lays219_ren := {
 mixed := by kernel_rfl
 f217 := Tryz.func177.trans (congrArg some (by kernel_rfl))
 f219 := Tryz.func163.trans (congrArg some (by kernel_rfl))
 f224 := Tryz.func179.trans (congrArg some (by kernel_rfl))
 f225 := Tryz.func178.trans (congrArg some (by kernel_rfl))
 f266 := Tryz.func196.trans (congrArg some (by kernel_rfl))
 f267 := Tryz.func180.trans (congrArg some (by kernel_rfl))
 f314 := Tryz.func197.trans (congrArg some (by kernel_rfl))
 t3 := Tryz.underlying3
 a3 := Tryz.isAgg3
 z3 := Tryz.sizeOf3
 v3 := Tryz.zeroValue3
 t4 := Tryz.underlying4
 a4 := Tryz.isAgg4
 z4 := Tryz.sizeOf4
 v4 := Tryz.zeroValue4
 t5 := Tryz.underlying5
 a5 := Tryz.isAgg5
 z5 := Tryz.sizeOf5
 v5 := Tryz.zeroValue5
 t9 := Tryz.underlying9
 a9 := Tryz.isAgg9
 z9 := Tryz.sizeOf9
 v9 := Tryz.zeroValue9
 t46 := Tryz.underlying87
 a46 := Tryz.isAgg87
 z46 := Tryz.sizeOf87
 v46 := Tryz.zeroValue87
 t51 := Tryz.underlying105
 a51 := Tryz.isAgg105
 z51 := Tryz.sizeOf105
 v51 := Tryz.zeroValue105
 t146 := Tryz.underlying184
 a146 := Tryz.isAgg184
 z146 := Tryz.sizeOf184
 v146 := Tryz.zeroValue184
 g1 := by kernel_rfl }
open Go.RowKit Go.Lib in
theorem Tryz.stringslite_Index_one (s : ByteArray) (c : UInt8) (w : World) :
  Calls Tryz.prog 163 #[.string s, .string ⟨#[c]⟩] w fun e w' => e = .returned (.int .i64 (Lib.indexByte s.data.toList c)) ∧ w' = w := Any.stringslite_Index_one Tryz.lays219 s c w
def Tryz.lays154_ren : Go.Shelf.Ren := ⟨fun | 154 => 144 | 138 => 156 | 165 => 128 | 143 => 157 | 166 => 13 | 197 => 158 | 169 => 16 | 195 => 171 | 218 => 172 | 240 => 35 | 241 => 147 | 219 => 163 | 260 => 173 | 276 => 62 | 277 => 162 | 217 => 177 | 225 => 178 | 224 => 179 | 267 => 180 | 266 => 196 | 314 => 197 | n => n, fun | 9 => 9 | 3 => 3 | 4 => 4 | 72 => 42 | 0 => 0 | 76 => 45 | 105 => 165 | 21 => 21 | 5 => 5 | 70 => 40 | 20 => 20 | 37 => 33 | 75 => 44 | 127 => 77 | 164 => 90 | 46 => 87 | 119 => 205 | 139 => 208 | 138 => 207 | 146 => 184 | 51 => 105 | 80 => 49 | n => n, fun | 1 => 5 | 3 => 9 | 4 => 10 | n => n⟩
theorem Tryz.lays154 : Go.Proofs.Lays.n154 Tryz.prog Tryz.lays154_ren := {
 mixed := by kernel_rfl
 f138 := Tryz.func156.trans (congrArg some (by kernel_rfl))
 f143 := Tryz.func157.trans (congrArg some (by kernel_rfl))
 f154 := Tryz.func144.trans (congrArg some (by kernel_rfl))
 f165 := Tryz.func128.trans (congrArg some (by kernel_rfl))
 f166 := Tryz.func13.trans (congrArg some (by kernel_rfl))
 f169 := Tryz.func16.trans (congrArg some (by kernel_rfl))
 f195 := Tryz.func171.trans (congrArg some (by kernel_rfl))
 f197 := Tryz.func158.trans (congrArg some (by kernel_rfl))
 f217 := Tryz.func177.trans (congrArg some (by kernel_rfl))
 f218 := Tryz.func172.trans (congrArg some (by kernel_rfl))
 f219 := Tryz.func163.trans (congrArg some (by kernel_rfl))
 f224 := Tryz.func179.trans (congrArg some (by kernel_rfl))
 f225 := Tryz.func178.trans (congrArg some (by kernel_rfl))
 f240 := Tryz.func35.trans (congrArg some (by kernel_rfl))
 f241 := Tryz.func147.trans (congrArg some (by kernel_rfl))
 f260 := Tryz.func173.trans (congrArg some (by kernel_rfl))
 f266 := Tryz.func196.trans (congrArg some (by kernel_rfl))
 f267 := Tryz.func180.trans (congrArg some (by kernel_rfl))
 f276 := Tryz.func62.trans (congrArg some (by kernel_rfl))
 f277 := Tryz.func162.trans (congrArg some (by kernel_rfl))
 f314 := Tryz.func197.trans (congrArg some (by kernel_rfl))
 t0 := Tryz.underlying0
 a0 := Tryz.isAgg0
 z0 := Tryz.sizeOf0
 v0 := Tryz.zeroValue0
 t3 := Tryz.underlying3
 a3 := Tryz.isAgg3
 z3 := Tryz.sizeOf3
 v3 := Tryz.zeroValue3
 t4 := Tryz.underlying4
 a4 := Tryz.isAgg4
 z4 := Tryz.sizeOf4
 v4 := Tryz.zeroValue4
 t5 := Tryz.underlying5
 a5 := Tryz.isAgg5
 z5 := Tryz.sizeOf5
 v5 := Tryz.zeroValue5
 t9 := Tryz.underlying9
 a9 := Tryz.isAgg9
 z9 := Tryz.sizeOf9
 v9 := Tryz.zeroValue9
 t20 := Tryz.underlying20
 a20 := Tryz.isAgg20
 z20 := Tryz.sizeOf20
 v20 := Tryz.zeroValue20
 t21 := Tryz.underlying21
 a21 := Tryz.isAgg21
 z21 := Tryz.sizeOf21
 v21 := Tryz.zeroValue21
 t37 := Tryz.underlying33
 a37 := Tryz.isAgg33
 z37 := Tryz.sizeOf33
 v37 := Tryz.zeroValue33
 t46 := Tryz.underlying87
 a46 := Tryz.isAgg87
 z46 := Tryz.sizeOf87
 v46 := Tryz.zeroValue87
 t51 := Tryz.underlying105
 a51 := Tryz.isAgg105
 z51 := Tryz.sizeOf105
 v51 := Tryz.zeroValue105
 t70 := Tryz.underlying40
 a70 := Tryz.isAgg40
 z70 := Tryz.sizeOf40
 v70 := Tryz.zeroValue40
 t72 := Tryz.underlying42
 a72 := Tryz.isAgg42
 z72 := Tryz.sizeOf42
 v72 := Tryz.zeroValue42
 t75 := Tryz.underlying44
 a75 := Tryz.isAgg44
 z75 := Tryz.sizeOf44
 v75 := Tryz.zeroValue44
 t76 := Tryz.underlying45
 a76 := Tryz.isAgg45
 z76 := Tryz.sizeOf45
 v76 := Tryz.zeroValue45
 t105 := Tryz.underlying165
 a105 := Tryz.isAgg165
 z105 := Tryz.sizeOf165
 v105 := Tryz.zeroValue165
 t119 := Tryz.underlying205
 a119 := Tryz.isAgg205
 z119 := Tryz.sizeOf205
 t127 := Tryz.underlying77
 a127 := Tryz.isAgg77
 z127 := Tryz.sizeOf77
 v127 := Tryz.zeroValue77
 t138 := Tryz.underlying207
 a138 := Tryz.isAgg207
 z138 := Tryz.sizeOf207
 v138 := Tryz.zeroValue207
 t139 := Tryz.underlying208
 a139 := Tryz.isAgg208
 z139 := Tryz.sizeOf208
 v139 := Tryz.zeroValue208
 t146 := Tryz.underlying184
 a146 := Tryz.isAgg184
 z146 := Tryz.sizeOf184
 v146 := Tryz.zeroValue184
 t164 := Tryz.underlying90
 a164 := Tryz.isAgg90
 z164 := Tryz.sizeOf90
 v164 := Tryz.zeroValue90
 g1 := by kernel_rfl
 g3 := by kernel_rfl
 g4 := by kernel_rfl }
theorem Tryz.Builder_Extra_154 : Builder.Extra Tryz.prog Tryz.lays154_ren := {
 sizeBuilder := by kernel_rfl
 liesBuilder := by kernel_rfl
 t5 := Tryz.underlying5
 a5 := Tryz.isAgg5
 z5 := Tryz.sizeOf5
 v5 := Tryz.zeroValue5
 infoByte := by kernel_rfl
 cellsByte := by kernel_rfl
 sizeByte := by kernel_rfl
 neB5 := by decide }
def Tryz.lays264_ren : Go.Shelf.Ren := ⟨fun | 264 => 175 | n => n, fun | 53 => 57 | 46 => 87 | n => n, fun | n => n⟩
theorem Tryz.lays264 : Go.Proofs.Lays.n264 Tryz.prog Tryz.lays264_ren := {
 mixed := by kernel_rfl
 f264 := Tryz.func175.trans (congrArg some (by kernel_rfl))
 t46 := Tryz.underlying87
 a46 := Tryz.isAgg87
 z46 := Tryz.sizeOf87
 v46 := Tryz.zeroValue87
 t53 := Tryz.underlying57
 a53 := Tryz.isAgg57
 z53 := Tryz.sizeOf57
 v53 := Tryz.zeroValue57 }
open Go.RowKit Go.Lib in
theorem Tryz.bits_Mul64 (x y : Nat) (hx : x < 18446744073709551616) (hy : y < 18446744073709551616) (w : World) :
  Calls Tryz.prog 175 #[.int .u64 x, .int .u64 y] w fun e w' => e = .returned (.tuple #[.int .u64 ((x * y / 18446744073709551616 : Nat) : Int), .int .u64 ((x * y % 18446744073709551616 : Nat) : Int)]) ∧ w' = w := Any.bits_Mul64 Tryz.lays264 x y hx hy w
def Tryz.lays105_ren : Go.Shelf.Ren := ⟨fun | 105 => 146 | 212 => 159 | 99 => 160 | 165 => 128 | 166 => 13 | 170 => 161 | 169 => 16 | 263 => 174 | 264 => 175 | 206 => 176 | 240 => 35 | 241 => 147 | 276 => 62 | 277 => 162 | n => n, fun | 9 => 9 | 3 => 3 | 4 => 4 | 20 => 20 | 0 => 0 | 46 => 87 | 109 => 167 | 5 => 5 | 72 => 42 | 76 => 45 | 51 => 105 | 146 => 184 | 53 => 57 | 148 => 186 | 70 => 40 | 37 => 33 | 75 => 44 | 127 => 77 | 164 => 90 | 80 => 49 | n => n, fun | n => n⟩
theorem Tryz.lays105 : Go.Proofs.Lays.n105 Tryz.prog Tryz.lays105_ren := {
 mixed := by kernel_rfl
 f99 := Tryz.func160.trans (congrArg some (by kernel_rfl))
 f105 := Tryz.func146.trans (congrArg some (by kernel_rfl))
 f165 := Tryz.func128.trans (congrArg some (by kernel_rfl))
 f166 := Tryz.func13.trans (congrArg some (by kernel_rfl))
 f169 := Tryz.func16.trans (congrArg some (by kernel_rfl))
 f170 := Tryz.func161.trans (congrArg some (by kernel_rfl))
 f206 := Tryz.func176.trans (congrArg some (by kernel_rfl))
 f212 := Tryz.func159.trans (congrArg some (by kernel_rfl))
 f240 := Tryz.func35.trans (congrArg some (by kernel_rfl))
 f241 := Tryz.func147.trans (congrArg some (by kernel_rfl))
 f263 := Tryz.func174.trans (congrArg some (by kernel_rfl))
 f264 := Tryz.func175.trans (congrArg some (by kernel_rfl))
 f276 := Tryz.func62.trans (congrArg some (by kernel_rfl))
 f277 := Tryz.func162.trans (congrArg some (by kernel_rfl))
 t0 := Tryz.underlying0
 a0 := Tryz.isAgg0
 z0 := Tryz.sizeOf0
 v0 := Tryz.zeroValue0
 t3 := Tryz.underlying3
 a3 := Tryz.isAgg3
 z3 := Tryz.sizeOf3
 v3 := Tryz.zeroValue3
 t4 := Tryz.underlying4
 a4 := Tryz.isAgg4
 z4 := Tryz.sizeOf4
 v4 := Tryz.zeroValue4
 t5 := Tryz.underlying5
 a5 := Tryz.isAgg5
 z5 := Tryz.sizeOf5
 v5 := Tryz.zeroValue5
 t9 := Tryz.underlying9
 a9 := Tryz.isAgg9
 z9 := Tryz.sizeOf9
 v9 := Tryz.zeroValue9
 t20 := Tryz.underlying20
 a20 := Tryz.isAgg20
 z20 := Tryz.sizeOf20
 v20 := Tryz.zeroValue20
 t37 := Tryz.underlying33
 a37 := Tryz.isAgg33
 z37 := Tryz.sizeOf33
 v37 := Tryz.zeroValue33
 t46 := Tryz.underlying87
 a46 := Tryz.isAgg87
 z46 := Tryz.sizeOf87
 v46 := Tryz.zeroValue87
 t51 := Tryz.underlying105
 a51 := Tryz.isAgg105
 z51 := Tryz.sizeOf105
 v51 := Tryz.zeroValue105
 t53 := Tryz.underlying57
 a53 := Tryz.isAgg57
 z53 := Tryz.sizeOf57
 v53 := Tryz.zeroValue57
 t70 := Tryz.underlying40
 a70 := Tryz.isAgg40
 z70 := Tryz.sizeOf40
 v70 := Tryz.zeroValue40
 t72 := Tryz.underlying42
 a72 := Tryz.isAgg42
 z72 := Tryz.sizeOf42
 v72 := Tryz.zeroValue42
 t75 := Tryz.underlying44
 a75 := Tryz.isAgg44
 z75 := Tryz.sizeOf44
 v75 := Tryz.zeroValue44
 t76 := Tryz.underlying45
 a76 := Tryz.isAgg45
 z76 := Tryz.sizeOf45
 v76 := Tryz.zeroValue45
 t109 := Tryz.underlying167
 a109 := Tryz.isAgg167
 z109 := Tryz.sizeOf167
 v109 := Tryz.zeroValue167
 t127 := Tryz.underlying77
 a127 := Tryz.isAgg77
 z127 := Tryz.sizeOf77
 v127 := Tryz.zeroValue77
 t146 := Tryz.underlying184
 a146 := Tryz.isAgg184
 z146 := Tryz.sizeOf184
 v146 := Tryz.zeroValue184
 t148 := Tryz.underlying186
 a148 := Tryz.isAgg186
 z148 := Tryz.sizeOf186
 v148 := Tryz.zeroValue186
 t164 := Tryz.underlying90
 a164 := Tryz.isAgg90
 z164 := Tryz.sizeOf90
 v164 := Tryz.zeroValue90 }
theorem Tryz.Builder_Extra_105 : Builder.Extra Tryz.prog Tryz.lays105_ren := {
 sizeBuilder := by kernel_rfl
 liesBuilder := by kernel_rfl
 t5 := Tryz.underlying5
 a5 := Tryz.isAgg5
 z5 := Tryz.sizeOf5
 v5 := Tryz.zeroValue5
 infoByte := by kernel_rfl
 cellsByte := by kernel_rfl
 sizeByte := by kernel_rfl
 neB5 := by decide }
open Go.RowKit Go.Lib in
theorem Tryz.strings_Repeat (s : ByteArray) (c : Nat) (w : World) (hc : c ≤ 9223372036854775807) (hlen : s.size * c ≤ 140737488355328) :
  Calls Tryz.prog 146 #[.string s, .int .i64 c] w fun e w' => e = .returned (.string ⟨(Lib.repeatL s.data.toList c).toArray⟩) ∧ Below w.heap.size w w' := Any.strings_Repeat Tryz.lays105 Tryz.Builder_Extra_105 s c w hc hlen
end Go.Proofs

/- The library's parseFloat32 at the one number that is asked for. -/
namespace Go.Proofs.YtfpcpociejefaaaGreatDoor
open Go.RowKit Go.PlainAid
theorem len64_at (x : Int) (h0 : 0 ≤ x) (h1 : x ≤ 18446744073709551615) (n : Int) (hn : (Lib.bitLen x.toNat : Int) = n) (w : World) : Calls Tryz.prog 130 #[.int .u64 x] w fun e w' => e = .returned (.int .i64 n) ∧ w' = w := by
 rw [← hn]; exact Tryz.bits_Len64 x w h0 h1
theorem mul64_at (x y a b : Int) (hx : 0 ≤ x ∧ x < 18446744073709551616) (hy : 0 ≤ y ∧ y < 18446744073709551616) (ha : x * y / 18446744073709551616 = a) (hb : x * y % 18446744073709551616 = b) (w : World) :
  Calls Tryz.prog 175 #[.int .u64 x, .int .u64 y] w fun e w' => e = .returned (.tuple #[.int .u64 a, .int .u64 b]) ∧ w' = w := by
 obtain ⟨m, rfl⟩ := Int.eq_ofNat_of_zero_le hx.1
 obtain ⟨n, rfl⟩ := Int.eq_ofNat_of_zero_le hy.1
 have := Tryz.bits_Mul64 m n (by omega) (by omega) w
 rw [← ha, ← hb]
 exact this
set_option maxRecDepth 1000000 in
set_option maxHeartbeats 1000000 in
theorem prescale_any (k : Nat) (e p lp : Int) (hi lo : Int) (x0 x1 x2 : Int) (t : TypeId) (w : World) (hp : p = (k : Int) - 348) (h2 : k < 696) (he : -2000 ≤ e ∧ e ≤ 2000) (hl : -2000 ≤ lp ∧ lp ≤ 2000)
  (c0 : w.cell? ⟨11, k * 2, none⟩ = some (.int .u64 hi)) (c1 : w.cell? ⟨11, k * 2 + 1, none⟩ = some (.int .u64 lo)) :
  Calls Tryz.prog 202 #[.pointer (some ⟨w.heap.size, 0, none⟩), .int .i64 e, .int .i64 p, .int .i64 lp] (w.alloc (.cells #[.int .u64 x0, .int .u64 x1, .int .i64 x2] t)) fun e' w' => e' = .returned (.tuple #[]) ∧ w' = w.alloc (.cells #[.int .u64 hi, .int .u64 lo, .int .i64 (-(e + lp + 3))] t) := by
 have hsz : 11 < w.heap.size := block_lt_of_cell c0
 obtain ⟨he1, he2⟩ := he
 obtain ⟨hl1, hl2⟩ := hl
 subst hp
 go_enter Tryz.func202, Tryz.ntmps202
 go_wp2
 go_end0
 exact ⟨rfl, rfl⟩
end Go.Proofs.YtfpcpociejefaaaGreatDoor

/- The library's scaling: uscale, for every input, by its two products. -/
namespace Go.Proofs.YtfpcpociejefaaaGreatDoor
open Go.RowKit Go.PlainAid
theorem bool2u_any (b : Bool) (w : World) : Calls Tryz.prog 218 #[.bool b] w fun e w' => e = .returned (.int .u64 (if b then 1 else 0)) ∧ w' = w := by
 cases b
 all_goals
  go_enter Tryz.func218, Tryz.ntmps218
  go_wp2
  go_ret
  exact ⟨rfl, rfl⟩
set_option maxRecDepth 1000000 in
set_option maxHeartbeats 1000000 in
theorem uscale_cut (x hi lo s a b : Int) (w : World) (hs : bits .and .i64 s 63 = s) (hs0 : 0 ≤ s) (hs1 : s < 64) (hx : 0 ≤ x ∧ x < 18446744073709551616) (hy : 0 ≤ hi ∧ hi < 18446744073709551616)
  (ha : x * hi / 18446744073709551616 = a) (hb : x * hi % 18446744073709551616 = b) (hne : (IntKind.u64.wrap (a / 2 ^ s.toNat * 2 ^ s.toNat) != a) = true) :
  Calls Tryz.prog 204 #[.int .u64 x, .pointer (some ⟨w.heap.size, 0, none⟩)] (w.alloc (.cells #[.int .u64 hi, .int .u64 lo, .int .i64 s] 214)) fun e w' => e = .returned (.int .u64 (bits .or .u64 (a / 2 ^ s.toNat) 1)) ∧ ∃ n, w' = (w.alloc (.cells #[.int .u64 hi, .int .u64 lo, .int .i64 s] 214)).drewN n := by
 have hM := mul64_at x hi a b hx hy ha hb
 clear ha hb hx hy
 go_enter Tryz.func204, Tryz.ntmps204
 go_wp2_with fail
 refine (hM _).mono ?_
 rintro e9 w9 ⟨rfl, hw9⟩
 obtain rfl := hw9.symm
 go_wp2_with fail
 go_ret
 exact ⟨rfl, 0, rfl⟩
theorem bool2u_val (b : Bool) (v : Int) (h : v = if b then 1 else 0) (w : World) : Calls Tryz.prog 218 #[.bool b] w fun e w' => e = .returned (.int .u64 v) ∧ w' = w := by
 rw [h]; exact bool2u_any b w
set_option maxRecDepth 1000000 in
set_option maxHeartbeats 1000000 in
theorem uscale_all (x hi lo s a b c d q r : Int) (w : World) (hs : bits .and .i64 s 63 = s) (hs0 : 0 ≤ s) (hs1 : s < 64) (hx : 0 ≤ x ∧ x < 18446744073709551616) (hy : 0 ≤ hi ∧ hi < 18446744073709551616) (hz : 0 ≤ lo ∧ lo < 18446744073709551616)
  (ha : x * hi / 18446744073709551616 = a) (hb : x * hi % 18446744073709551616 = b) (hc : x * lo / 18446744073709551616 = c) (hd : x * lo % 18446744073709551616 = d) (hne : (IntKind.u64.wrap (a / 2 ^ s.toNat * 2 ^ s.toNat) != a) = false)
  (hq : q = if decide (b < c) then 1 else 0) (hr : r = if decide (1 < IntKind.u64.wrap (b - c)) then 1 else 0) :
  Calls Tryz.prog 204 #[.int .u64 x, .pointer (some ⟨w.heap.size, 0, none⟩)] (w.alloc (.cells #[.int .u64 hi, .int .u64 lo, .int .i64 s] 214)) fun e w' => e = .returned (.int .u64 (bits .or .u64 (IntKind.u64.wrap (a - q) / 2 ^ s.toNat) r)) ∧ ∃ n, w' = (w.alloc (.cells #[.int .u64 hi, .int .u64 lo, .int .i64 s] 214)).drewN n := by
 have hM := mul64_at x hi a b hx hy ha hb
 have hN := mul64_at x lo c d hx hz hc hd
 have hB := bool2u_val _ q hq
 have hB2 := bool2u_val _ r hr
 clear ha hb hc hd hx hy hz hq hr
 go_enter Tryz.func204, Tryz.ntmps204
 go_wp2_with fail
 refine (hM _).mono ?_
 rintro e9 w9 ⟨rfl, hw9⟩
 obtain rfl := hw9.symm
 go_wp2_with fail
 refine (hN _).mono ?_
 rintro e9 w9 ⟨rfl, hw9⟩
 obtain rfl := hw9.symm
 go_wp2_with fail
 refine (hB _).mono ?_
 rintro e9 w9 ⟨rfl, hw9⟩
 obtain rfl := hw9.symm
 go_wp2_with fail
 go_quiet (first | (go_at_call 218; exact Calls.quiet_of_same (hB2 _)))
 go_wp2
 go_ret
 exact ⟨rfl, _, rfl⟩
end Go.Proofs.YtfpcpociejefaaaGreatDoor

/- The library's parseFloat32, atof32 and ParseFloat at the one number that is asked for. -/
namespace Go.Proofs.YtfpcpociejefaaaGreatDoor
open Go.RowKit Go.PlainAid
theorem bool2i_any (b : Bool) (w : World) : Calls Tryz.prog 131 #[.bool b] w fun e w' => e = .returned (.int .i64 (if b then 1 else 0)) ∧ w' = w := by
 cases b
 all_goals
  go_enter Tryz.func131, Tryz.ntmps131
  go_wp2
  go_ret
  exact ⟨rfl, rfl⟩
end Go.Proofs.YtfpcpociejefaaaGreatDoor

/- The library's Cut at one byte; the program's allDigits. -/
namespace Go.Proofs.YtfpcpociejefaaaGreatDoor
open Go.RowKit Go.PlainAid
theorem index_at (s : ByteArray) (c : UInt8) (i : Int) (h : Lib.indexByte s.data.toList c = i) (w : World) : Calls Tryz.prog 163 #[.string s, .string ⟨#[c]⟩] w fun e w' => e = .returned (.int .i64 i) ∧ w' = w := by
 rw [← h]; exact Tryz.stringslite_Index_one s c w
set_option maxRecDepth 1000000 in
theorem icut_at (s : ByteArray) (c : UInt8) (i : Nat) (hi : i < s.size) (hs : s.size ≤ maxLen) (h : Lib.indexByte s.data.toList c = (i : Int)) (w : World) : Calls Tryz.prog 152 #[.string s, .string ⟨#[c]⟩] w fun e w' => e = .returned (.tuple #[.string (s.extract 0 i), .string (s.extract (i + 1) s.size), .bool true]) ∧ ∃ n, w' = w.drewN n := by
 have hI := index_at s c i h
 have hs' : s.size ≤ 9223372036854775807 := hs
 have h1 : (i : Int) < (s.size : Int) := by omega
 have h2 : (i : Int) + 1 ≤ (s.size : Int) := by omega
 go_enter Tryz.func152, Tryz.ntmps152
 go_wp2_with (first | (go_at_call 163; refine (hI _).mono ?_; rintro e9 w9 ⟨rfl, hw9⟩; obtain rfl := hw9.symm))
 go_quiet (fail)
 go_wp2
 go_ret3
 exact ⟨rfl, _, rfl⟩
theorem cut_at (s : ByteArray) (c : UInt8) (i : Nat) (hi : i < s.size) (hs : s.size ≤ maxLen) (h : Lib.indexByte s.data.toList c = (i : Int)) (w : World) : Calls Tryz.prog 141 #[.string s, .string ⟨#[c]⟩] w fun e w' => e = .returned (.tuple #[.string (s.extract 0 i), .string (s.extract (i + 1) s.size), .bool true]) ∧ ∃ n, w' = w.drewN n := by
 have hI := icut_at s c i hi hs h
 go_enter Tryz.func141, Tryz.ntmps141
 go_wp2_with (first | (go_at_call 152; refine (hI _).mono ?_; rintro e9 w9 ⟨rfl, n9, rfl⟩))
 go_ret3
 exact ⟨rfl, _, rfl⟩
end Go.Proofs.YtfpcpociejefaaaGreatDoor

/- The program's nearest and Parse at the two texts that are asked for. -/
namespace Go.Proofs.YtfpcpociejefaaaGreatDoor
open Go.RowKit Go.PlainAid
theorem cell_next {W w' : World} {b o : Nat} {v : Value} (hb : Below W.heap.size W w') (h : W.cell? ⟨b, o, none⟩ = some v) : w'.cell? ⟨b, o, none⟩ = some v := by
 rw [hb.cell (p := ⟨b, o, none⟩) (World.block_lt_of_cell? W _ h)]; exact h
/-- the library's tables, as far as they are read here -/
structure Tabs (w : World) : Prop where
 hi : w.cell? ⟨11, 696, none⟩ = some (.int .u64 9223372036854775808)
 lo : w.cell? ⟨11, 697, none⟩ = some (.int .u64 0)
 opt : w.cell? ⟨6, 0, none⟩ = some (.bool true)
theorem Tabs.below {w w' : World} (h : Tabs w) (hb : Below w.heap.size w w') : Tabs w' := ⟨cell_next hb h.hi, cell_next hb h.lo, cell_next hb h.opt⟩
end Go.Proofs.YtfpcpociejefaaaGreatDoor
