/- The reference's At and Float: the real of a number. -/
import Derived.Test.YtbflhpafejmelaaFloE
namespace Go.Proofs.Ytbflhpafejmelaa
open Go.RowKit Go.PlainAid Go.Lib

theorem neg_low (n : Nat) (h : n < 2147483648) : Op.negFloat .f32 n = n + 2147483648 := by
  show n ^^^ 2147483648 = _
  rw [show (2147483648 : Nat) = 2 ^ 31 from rfl]
  have h2 : n ^^^ 2 ^ 31 = n ||| 2 ^ 31 := by
    apply Nat.eq_of_testBit_eq
    intro i
    rw [Nat.testBit_xor, Nat.testBit_or, Nat.testBit_two_pow]
    by_cases hi : 31 = i
    · subst hi
      rw [Nat.testBit_lt_two_pow (show n < 2 ^ 31 from h)]
      rfl
    · rw [show decide (31 = i) = false by simpa using hi]
      cases n.testBit i <;> rfl
  have h3 := Nat.two_pow_add_eq_or_of_lt (show n < 2 ^ 31 from h) 1
  rw [Nat.mul_one] at h3
  rw [h2, Nat.or_comm, ← h3]
  omega

end Go.Proofs.Ytbflhpafejmelaa


