/- Numbers held against one another: by their worth. -/
import Derived.Test.YtplbclokoffgkaaGreatDoorFloN
import Derived.Test.YtplbclokoffgkaaGreatDoorChkW
import Derived.Deep.RegionWith
namespace Go.Proofs.YtplbclokoffgkaaGreatDoor
open Go.RowKit Go.PlainAid Go.Lib

theorem isNan_any (x : Nat) (w : World) : Calls Tryz.prog 75 #[.float .f32 x] w fun e w' => e = .returned (.bool (nanB x)) ∧ w' = w := by
  have hn := neq_self x
  cases hb : nanB x <;> rw [hb] at hn
  all_goals
    go_enter Tryz.func75, Tryz.ntmps75
    go_wp2
    go_ret
    exact ⟨rfl, rfl⟩
theorem ord_facts (a b : Nat) (ha : nanB a = false) (hb : nanB b = false) :
    (FloatKind.f32.format.order a b == some Ordering.lt) = decide (svalZ a < svalZ b) ∧ (FloatKind.f32.format.order a b == some Ordering.gt) = decide (svalZ b < svalZ a) ∧ (FloatKind.f32.format.order a b == some Ordering.eq) = decide (svalZ a = svalZ b) := by
  have ha' : rungN a ≤ 2139095040 := by simpa [nanB, rungN] using ha
  have hb' : rungN b ≤ 2139095040 := by simpa [nanB, rungN] using hb
  show (Ieee.single.order a b == some Ordering.lt) = _ ∧ (Ieee.single.order a b == some Ordering.gt) = _ ∧ (Ieee.single.order a b == some Ordering.eq) = _
  rw [order_val a b ha' hb']
  have hc : compare (svalZ a) (svalZ b) = if svalZ a < svalZ b then .lt else if svalZ a = svalZ b then .eq else .gt := rfl
  rw [hc]
  generalize svalZ a = p
  generalize svalZ b = q
  rcases Int.lt_trichotomy p q with h | h | h
  · rw [if_pos h]
    have h1 : ¬ q < p := by omega
    have h2 : ¬ p = q := by omega
    simp [h, h1, h2]
  · subst h
    simp
  · have h1 : ¬ p < q := by omega
    have h2 : ¬ p = q := by omega
    rw [if_neg h1, if_neg h2]
    simp [h, h1, h2]

theorem sval_low : svalZ 3741319168 = -(2 ^ 63) * 2 ^ 149 := by decide
theorem sval_high : svalZ 1593835520 = 2 ^ 63 * 2 ^ 149 := by decide
theorem nan_low : nanB 3741319168 = false := by decide
theorem nan_high : nanB 1593835520 = false := by decide

/-- between -2^63 and 2^63: the whole part is a number of 64 bits -/
theorem whole_range (x : Nat) (h1 : ¬ svalZ x < svalZ 3741319168) (h2 : ¬ svalZ 1593835520 ≤ svalZ x) : -9223372036854775808 ≤ wholeZ x ∧ wholeZ x ≤ 9223372036854775807 ∧ rungN x < 2139095040 := by
  rw [sval_low] at h1
  rw [sval_high] at h2
  have hv : valN (rungN x) ≤ 2 ^ 63 * 2 ^ 149 ∧ (¬ x / 2147483648 % 2 = 1 → valN (rungN x) < 2 ^ 63 * 2 ^ 149) := by
    unfold svalZ at h1 h2
    by_cases hs : x / 2147483648 % 2 = 1
    · simp only [hs, if_true] at h1 h2
      have : (valN (rungN x) : Int) ≤ 2 ^ 63 * 2 ^ 149 := by rw [Int.neg_mul] at h1; omega
      exact ⟨by exact_mod_cast this, fun h => absurd hs h⟩
    · simp only [hs, if_false] at h1 h2
      have : (valN (rungN x) : Int) < 2 ^ 63 * 2 ^ 149 := by omega
      have h3 : valN (rungN x) < 2 ^ 63 * 2 ^ 149 := by exact_mod_cast this
      exact ⟨by omega, fun _ => h3⟩
  have hr : rungN x < 2139095040 := by
    apply Nat.lt_of_not_le
    intro h
    have h3 : valN 1593835520 < valN (rungN x) := valN_lt (by omega)
    rw [val_big] at h3
    omega
  refine ⟨?_, ?_, hr⟩
  · unfold wholeZ
    have h3 : valN (rungN x) / 2 ^ 149 ≤ 2 ^ 63 := by
      rw [Nat.div_le_iff_le_mul_add_pred (Nat.two_pow_pos _)]
      omega
    split <;> omega
  · unfold wholeZ
    by_cases hs : x / 2147483648 % 2 = 1
    · rw [if_pos hs]
      omega
    · rw [if_neg hs]
      have h3 : valN (rungN x) / 2 ^ 149 < 2 ^ 63 := by
        rw [Nat.div_lt_iff_lt_mul (Nat.two_pow_pos _)]
        exact hv.2 hs
      omega

theorem wp_f2i (x : Nat) (t : Int) (h : floatToIntVal .f32 x .i64 = some t) (w : World) : (convert 31 2 (.float .f32 x)).run Tryz.prog w = .ok (.int .i64 t) w :=
  run_convert_float_int w 31 2 .f32 .i64 x t (by kernel_rfl) Tryz.underlying2 h

def cmpXN (x : Nat) (n : Int) : Int × Bool := if nanB x = true then (0, false) else (cmpI (svalZ x) (n * 2 ^ 149), true)

end Go.Proofs.YtplbclokoffgkaaGreatDoor


