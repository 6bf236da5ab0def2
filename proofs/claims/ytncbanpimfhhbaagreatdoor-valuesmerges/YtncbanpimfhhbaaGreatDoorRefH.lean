/- The reference's Float at every number, Number, IsNan, Below, Same. -/
import Derived.Test.YtncbanpimfhhbaaGreatDoorFltW
import Derived.Test.YtncbanpimfhhbaaGreatDoorSameV

namespace Go.Proofs.YtncbanpimfhhbaaGreatDoor
open Go.RowKit Go.PlainAid Go.Lib

theorem rlt_any (a b : Nat) (ha : rungN a ≤ 2139095040) (hb : rungN b ≤ 2139095040) : (FloatKind.f32.format.order a b == some Ordering.lt) = decide (srungZ a < srungZ b) := by
  show (Ieee.single.order a b == some Ordering.lt) = _
  rw [order_any, if_neg (by omega)]
  rcases Int.lt_trichotomy (srungZ a) (srungZ b) with h | h | h
  · rw [show compare (srungZ a) (srungZ b) = .lt from Int.compare_eq_lt.2 h, show decide (srungZ a < srungZ b) = true by simpa using h]; rfl
  · rw [show compare (srungZ a) (srungZ b) = .eq from Int.compare_eq_eq.2 h, show decide (srungZ a < srungZ b) = false by simp; omega]; rfl
  · rw [show compare (srungZ a) (srungZ b) = .gt from Int.compare_eq_gt.2 h, show decide (srungZ a < srungZ b) = false by simp; omega]; rfl

theorem req_any (a b : Nat) (ha : rungN a ≤ 2139095040) (hb : rungN b ≤ 2139095040) : (FloatKind.f32.format.order a b == some Ordering.eq) = decide (srungZ a = srungZ b) := by
  show (Ieee.single.order a b == some Ordering.eq) = _
  rw [order_any, if_neg (by omega)]
  rcases Int.lt_trichotomy (srungZ a) (srungZ b) with h | h | h
  · rw [show compare (srungZ a) (srungZ b) = .lt from Int.compare_eq_lt.2 h, show decide (srungZ a = srungZ b) = false by simp; omega]; rfl
  · rw [show compare (srungZ a) (srungZ b) = .eq from Int.compare_eq_eq.2 h, show decide (srungZ a = srungZ b) = true by simpa using h]; rfl
  · rw [show compare (srungZ a) (srungZ b) = .gt from Int.compare_eq_gt.2 h, show decide (srungZ a = srungZ b) = false by simp; omega]; rfl

theorem neg_high (n : Nat) (h : 2147483648 ≤ n) (h2 : n < 4294967296) : Op.negFloat .f32 n = n - 2147483648 := by
  have h3 := neg_low (n - 2147483648) (by omega)
  have h4 : n - 2147483648 + 2147483648 = n := by omega
  rw [h4] at h3
  have h5 : Op.negFloat .f32 n = Op.negFloat .f32 (Op.negFloat .f32 (n - 2147483648)) := by rw [h3]
  rw [h5]
  show (n - 2147483648) ^^^ 2147483648 ^^^ 2147483648 = _
  rw [Nat.xor_assoc, Nat.xor_self, Nat.xor_zero]

theorem srung_low (n : Nat) (h : n < 2147483648) : srungZ n = n ∧ rungN n = n := by
  unfold srungZ rungN
  rw [if_neg (by omega)]
  omega

/-- the halving: a real without sign -/
theorem half_step (lo hi : Nat) (h1 : lo < hi) (h2 : hi ≤ 2139095041) (hd : 1 < hi - lo) : lo < lo + (hi - lo) / 2 ∧ lo + (hi - lo) / 2 < hi := by omega

end Go.Proofs.YtncbanpimfhhbaaGreatDoor



/- The reference's IsNan, Below, Same, Key, FromKey. -/
namespace Go.Proofs.YtncbanpimfhhbaaGreatDoor
open Go.RowKit Go.PlainAid Go.Lib

theorem order_nan (x y : Nat) (h : nanB x = true) (o : Ordering) : (FloatKind.f32.format.order x y == some o) = false := by
  show (Ieee.single.order x y == some o) = _
  rw [order_any, if_pos (.inl (by simpa [nanB, rungN] using h))]
  rfl

end Go.Proofs.YtncbanpimfhhbaaGreatDoor



/- The reference's Same and Key. -/
namespace Go.Proofs.YtncbanpimfhhbaaGreatDoor
open Go.RowKit Go.PlainAid Go.Lib

end Go.Proofs.YtncbanpimfhhbaaGreatDoor


