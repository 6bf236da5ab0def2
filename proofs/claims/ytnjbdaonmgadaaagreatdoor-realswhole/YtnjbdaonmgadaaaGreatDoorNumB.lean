/- The bits of a real of 32 bits: nan, the key, the sign. -/
import Derived.Test.YtnjbdaonmgadaaaGreatDoorProg
import Derived.WalkKit
import Derived.WalkSpells
import Derived.WalkLawsBesides
import Derived.PlainAid
import Derived.ProofKit
import Derived.Laws.BitsAllLaws
import Derived.Laws.FloatArith
namespace Go.Proofs.YtnjbdaonmgadaaaGreatDoor
open Go.RowKit Go.PlainAid

set_option maxRecDepth 1000000 in
theorem run_f32bits (x : Nat) (w : World) : (callFunc 29 #[.float .f32 x]).run Tryz.prog w = .ok (.value (.int .u32 (x : Int))) w :=
  (run_callFunc_extern (e := Extern.MathFloatBits.float32bits) Tryz.func29 (by kernel_rfl) (by kernel_rfl) (by kernel_rfl) (by kernel_rfl) _ w).trans rfl
set_option maxRecDepth 1000000 in
theorem run_f32from (x : Nat) (w : World) : (callFunc 31 #[.int .u32 (x : Int)]).run Tryz.prog w = .ok (.value (.float .f32 x)) w :=
  (run_callFunc_extern (e := Extern.MathFloatBits.float32frombits) Tryz.func31 (by kernel_rfl) (by kernel_rfl) (by kernel_rfl) (by kernel_rfl) _ w).trans rfl

def nanB (x : Nat) : Bool := decide (2139095040 < x % 2147483648)
def keyN (x : Nat) : Nat := if nanB x = true then 4290772992 else if 2147483648 ≤ x then 4294967295 - x else x + 2147483648
def bitsK (k : Nat) : Nat := if 2147483648 ≤ k then k - 2147483648 else 4294967295 - k
def unkeyN (k : Nat) : Nat := if k = 4290772992 then 2143289344 else if nanB (bitsK k) = true then 0 else bitsK k
def keyB (k : Nat) : Bool := k == 4290772992 || !nanB (bitsK k)

set_option maxRecDepth 1000000 in
theorem keyN_lt (x : Nat) (h : x < 4294967296) : keyN x < 4294967296 := by unfold keyN; split; omega; split <;> omega

set_option maxRecDepth 1000000 in
theorem order_self (x : Nat) : (Ieee.single.order x x = some .eq) ↔ nanB x = false := by
  unfold Ieee.Format.order Ieee.Format.read nanB
  have e1 : Ieee.single.signWeight = 2147483648 := by decide
  have e2 : Ieee.single.infRung = 2139095040 := by decide
  have e3 : Ieee.single.binade = 8388608 := by decide
  rw [e1, e2, e3]
  simp only [decide_eq_false_iff_not, Nat.not_lt]
  split
  · simp [Ieee.Datum.order]; omega
  · split
    · simp [Ieee.Datum.order]; omega
    · split
      · simp [Ieee.Datum.order]; omega
      · simp [Ieee.Datum.order]; omega

set_option maxRecDepth 1000000 in
theorem neq_self (x : Nat) : (FloatKind.f32.format.order x x != some Ordering.eq) = nanB x := by
  have h := order_self x
  show (Ieee.single.order x x != some Ordering.eq) = nanB x
  cases hn : nanB x
  · rw [h.2 hn]; rfl
  · rw [hn] at h
    simpa using h

set_option maxRecDepth 1000000 in
theorem and31 (x : Nat) (h : x < 4294967296) : bits .and .u32 (x : Int) 2147483648 = if 2147483648 ≤ x then 2147483648 else 0 := by
  have h1 := u32_and_nat x 2147483648 h (by decide)
  have e : ((2147483648 : Nat) : Int) = 2147483648 := rfl
  rw [e] at h1
  rw [h1]
  have h2 : x &&& 2 ^ 31 = if 2147483648 ≤ x then 2 ^ 31 else 0 := by
    apply Nat.eq_of_testBit_eq
    intro i
    rw [Nat.testBit_and, Nat.testBit_two_pow]
    by_cases hi : 31 = i
    · subst hi
      split
      · rw [Nat.testBit_two_pow_self, Nat.testBit_eq_decide_div_mod_eq]
        simp
        omega
      · rw [Nat.testBit_lt_two_pow (by omega)]
        simp
    · split
      · rw [Nat.testBit_two_pow]; simp [hi]
      · simp [hi]
  rw [show (2147483648 : Nat) = 2 ^ 31 by decide] at h1 ⊢
  rw [h2]
  split <;> rfl
set_option maxRecDepth 1000000 in
theorem andNot31 (x : Nat) (h : x < 4294967296) (h1 : 2147483648 ≤ x) : bits .andNot .u32 (x : Int) 2147483648 = ((x - 2147483648 : Nat) : Int) := by
  have h2 := u32_andNot_nat x 2147483648 h (by decide)
  have e : ((2147483648 : Nat) : Int) = 2147483648 := rfl
  rw [e] at h2
  rw [h2]
  have h3 : x &&& 2147483647 = x % 2 ^ 31 := Nat.and_two_pow_sub_one_eq_mod x 31
  rw [show 4294967295 - 2147483648 = 2147483647 from rfl, h3]
  omega
set_option maxRecDepth 1000000 in
theorem or31 (x : Nat) (h : x < 2147483648) : bits .or .u32 (x : Int) 2147483648 = ((x + 2147483648 : Nat) : Int) := by
  have h1 := u32_or_nat x 2147483648 (by omega) (by decide)
  have e : ((2147483648 : Nat) : Int) = 2147483648 := rfl
  rw [e] at h1
  rw [h1]
  have h2 := Nat.two_pow_add_eq_or_of_lt (i := 31) (b := x) (by simpa using h) 1
  simp at h2
  rw [Nat.or_comm, ← h2]
  congr 1
  omega
set_option maxRecDepth 1000000 in
theorem xor_ones32 (b : Nat) (hb : b < 2 ^ 32) : (2 ^ 32 - 1) ^^^ b = 2 ^ 32 - 1 - b := by
  apply Nat.eq_of_testBit_eq
  intro i
  rw [Nat.testBit_xor, Nat.testBit_two_pow_sub_one, show 2 ^ 32 - 1 - b = 2 ^ 32 - (b + 1) by omega, Nat.testBit_two_pow_sub_succ hb]
  by_cases hi : i < 32
  · simp [hi]
  · have : b.testBit i = false := Nat.testBit_lt_two_pow (Nat.lt_of_lt_of_le hb (Nat.pow_le_pow_right (by decide) (by omega)))
    simp [hi, this]
set_option maxRecDepth 1000000 in
theorem not32 (x : Nat) (h : x < 4294967296) : bits .xor .u32 IntKind.u32.max (x : Int) = ((4294967295 - x : Nat) : Int) := by
  have h1 := u32_xor_nat 4294967295 x (by decide) h
  have e : IntKind.u32.max = ((4294967295 : Nat) : Int) := by decide
  rw [e, h1]
  have h2 := xor_ones32 x (by simpa using h)
  rw [show (4294967295 : Nat) = 2 ^ 32 - 1 by decide, h2]

end Go.Proofs.YtnjbdaonmgadaaaGreatDoor

