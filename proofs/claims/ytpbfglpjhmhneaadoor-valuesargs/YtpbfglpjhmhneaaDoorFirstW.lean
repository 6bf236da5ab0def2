/- What is read at the beginning of some bytes: a byte, a number's short form, a turned one, a key. -/
import Derived.Test.YtpbfglpjhmhneaaDoorWMeth
namespace Go.Proofs.YtpbfglpjhmhneaaDoor
open Go.RowKit Go.PlainAid Go.Lib

def numG : List UInt8 → Nat → Nat → Nat × Nat × Int
  | [], _, _ => (0, 0, 20)
  | c :: r, i, acc => if (0 < i ∧ c.toNat = 0) ∨ (i = 9 ∧ 1 < c.toNat) then (0, 0, 21) else if c.toNat < 128 then (acc + c.toNat % 128 * 128 ^ i, i + 1, 0) else numG r (i + 1) (acc + c.toNat % 128 * 128 ^ i)
def numL (l : List UInt8) : Nat × Nat × Int := numG l 0 0

theorem pow7 (i : Nat) : 2 ^ (7 * i) = 128 ^ i := by rw [Nat.pow_mul]
theorem pow128_le (i : Nat) (h : i ≤ 8) : 128 ^ i ≤ 72057594037927936 := Nat.le_trans (Nat.pow_le_pow_right (by decide) h) (by decide)

theorem step_lt (acc c i : Nat) (hacc : acc < 128 ^ i) (hi : i ≤ 9) (h9 : i = 9 → c ≤ 1) : acc + c % 128 * 128 ^ i < 18446744073709551616 := by
  by_cases h : i = 9
  · have := h9 h
    subst h
    have e : 128 ^ 9 = 9223372036854775808 := by decide
    rw [e] at hacc ⊢
    have : c % 128 ≤ 1 := by omega
    have := Nat.mul_le_mul_right 9223372036854775808 this
    omega
  · have h8 := pow128_le i (by omega)
    have : c % 128 ≤ 127 := by omega
    have := Nat.mul_le_mul this h8
    omega

theorem next_lt (acc c i : Nat) (hacc : acc < 128 ^ i) : acc + c % 128 * 128 ^ i < 128 ^ (i + 1) := by
  have : c % 128 ≤ 127 := by omega
  have := Nat.mul_le_mul_right (128 ^ i) this
  rw [Nat.pow_succ]
  omega

theorem or_step (acc c i : Nat) (hacc : acc < 128 ^ i) (hc : c < 256) (hi : i ≤ 9) (h9 : i = 9 → c ≤ 1) :
    bits .or .u64 (acc : Int) (IntKind.u64.wrap (IntKind.u64.wrap (bits .andNot .u8 (c : Int) 128) * 2 ^ (7 * i))) = ((acc + c % 128 * 128 ^ i : Nat) : Int) := by
  have h1 : bits .andNot .u8 (c : Int) 128 = ((c % 128 : Nat) : Int) := by
    have h2 := u8_andNot_nat c 128 hc (by decide)
    have e : ((128 : Nat) : Int) = 128 := rfl
    rw [e] at h2
    rw [h2]
    have h3 : c &&& 127 = c % 2 ^ 7 := Nat.and_two_pow_sub_one_eq_mod c 7
    rw [show 255 - 128 = 127 from rfl, h3]
  have h2 : IntKind.u64.wrap ((c % 128 : Nat) : Int) = ((c % 128 : Nat) : Int) := by rw [IntKind.wrap_u64]; omega
  have hlt := step_lt acc c i hacc hi h9
  have h3 : ((c % 128 : Nat) : Int) * 2 ^ (7 * i) = ((c % 128 * 128 ^ i : Nat) : Int) := by
    rw [← pow7 i]
    simp
  have h4 : IntKind.u64.wrap ((c % 128 * 128 ^ i : Nat) : Int) = ((c % 128 * 128 ^ i : Nat) : Int) := by rw [IntKind.wrap_u64]; omega
  rw [h1, h2, h3, h4, u64_or_nat acc (c % 128 * 128 ^ i) (by omega) (by omega)]
  have h5 := Nat.two_pow_add_eq_or_of_lt (i := 7 * i) (b := acc) (by rw [pow7]; exact hacc) (c % 128)
  rw [pow7, Nat.mul_comm] at h5
  rw [Nat.or_comm, ← h5, Nat.add_comm]

theorem drop_cons (l : List UInt8) (i : Nat) (h : i < l.length) : l.drop i = l.getD i 0 :: l.drop (i + 1) := by
  rw [List.drop_eq_getElem_cons h, List.getD_eq_getElem?_getD, List.getElem?_eq_getElem h]
  rfl

end Go.Proofs.YtpbfglpjhmhneaaDoor


