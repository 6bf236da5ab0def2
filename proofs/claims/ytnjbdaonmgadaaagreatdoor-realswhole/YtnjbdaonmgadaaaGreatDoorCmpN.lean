/- Numbers held against one another: by their worth. -/
import Derived.Test.YtnjbdaonmgadaaaGreatDoorSum
import Derived.Deep.RegionWith
import Derived.Deep.RegionHeld3
namespace Go.Proofs.YtnjbdaonmgadaaaGreatDoor
open Go.RowKit Go.PlainAid

theorem isNaN_f32 (x : Nat) (w : World) : Calls Tryz.prog 43 #[.float .f32 x] w fun e w' => e = .returned (.bool (nanB x)) ∧ w' = w := by
  have hn := neq_self x
  cases hb : nanB x <;> rw [hb] at hn
  all_goals
    go_enter Tryz.func43, Tryz.ntmps43
    go_wp2
    go_ret
    exact ⟨rfl, rfl⟩
theorem isNan_any (x : Nat) (w : World) : Calls Tryz.prog 15 #[.float .f32 x] w fun e w' => e = .returned (.bool (nanB x)) ∧ w' = w := by
  have hn := neq_self x
  cases hb : nanB x <;> rw [hb] at hn
  all_goals
    go_enter Tryz.func15, Tryz.ntmps15
    go_wp2
    go_ret
    exact ⟨rfl, rfl⟩
theorem isNaN_i64 (x : Int) (w : World) : Calls Tryz.prog 42 #[.int .i64 x] w fun e w' => e = .returned (.bool false) ∧ w' = w := by
  go_enter Tryz.func42, Tryz.ntmps42
  go_wp2
  go_ret
  exact ⟨rfl, rfl⟩

theorem cmp_i64 (a b : Int) (w : World) : Calls Tryz.prog 24 #[.int .i64 a, .int .i64 b] w fun e w' => e = .returned (.int .i64 (cmpI a b)) ∧ w' = w := by
  have hq : cmpI a b = if a < b then -1 else if b < a then 1 else 0 := rfl
  by_cases h1 : a < b
  · rw [if_pos h1] at hq
    rw [hq]; clear hq
    go_enter Tryz.func24, Tryz.ntmps24
    go_wp2_with (go_at_call 42; refine (isNaN_i64 _ _).mono ?_; rintro e9 w9 ⟨rfl, hw9⟩; obtain rfl := hw9.symm)
    go_ret
    exact ⟨rfl, rfl⟩
  · rw [if_neg h1] at hq
    by_cases h2 : b < a
    · rw [if_pos h2] at hq
      rw [hq]; clear hq
      go_enter Tryz.func24, Tryz.ntmps24
      go_wp2_with (go_at_call 42; refine (isNaN_i64 _ _).mono ?_; rintro e9 w9 ⟨rfl, hw9⟩; obtain rfl := hw9.symm)
      go_ret
      exact ⟨rfl, rfl⟩
    · rw [if_neg h2] at hq
      rw [hq]; clear hq
      go_enter Tryz.func24, Tryz.ntmps24
      go_wp2_with (go_at_call 42; refine (isNaN_i64 _ _).mono ?_; rintro e9 w9 ⟨rfl, hw9⟩; obtain rfl := hw9.symm)
      go_ret
      exact ⟨rfl, rfl⟩

theorem ord_facts (a b : Nat) (ha : nanB a = false) (hb : nanB b = false) :
    (FloatKind.f32.format.order a b == some Ordering.lt) = decide (svalZ a < svalZ b) ∧ (FloatKind.f32.format.order a b == some Ordering.gt) = decide (svalZ b < svalZ a) ∧ (FloatKind.f32.format.order a b == some Ordering.eq) = decide (svalZ a = svalZ b) := by
  have ha' : rungN a ≤ 2139095040 := by simpa [nanB, rungN] using ha
  have hb' : rungN b ≤ 2139095040 := by simpa [nanB, rungN] using hb
  show (Ieee.single.order a b == some Ordering.lt) = _ ∧ (Ieee.single.order a b == some Ordering.gt) = _ ∧ (Ieee.single.order a b == some Ordering.eq) = _
  rw [order_val a b ha' hb']
  have hc : compare (svalZ a) (svalZ b) = if svalZ a < svalZ b then .lt else if svalZ a = svalZ b then .eq else .gt := rfl
  rw [hc]
  generalize svalZ a = p
  generalize svalZ b = q
  rcases Int.lt_trichotomy p q with h | h | h
  · rw [if_pos h]
    have h1 : ¬ q < p := by omega
    have h2 : ¬ p = q := by omega
    simp [h, h1, h2]
  · subst h
    simp
  · have h1 : ¬ p < q := by omega
    have h2 : ¬ p = q := by omega
    rw [if_neg h1, if_neg h2]
    simp [h, h1, h2]

theorem cmp_f32 (a b : Nat) (ha : nanB a = false) (hb : nanB b = false) (w : World) : Calls Tryz.prog 25 #[.float .f32 a, .float .f32 b] w fun e w' => e = .returned (.int .i64 (cmpI (svalZ a) (svalZ b))) ∧ w' = w := by
  have hA := isNaN_f32 a
  have hB := isNaN_f32 b
  rw [ha] at hA
  rw [hb] at hB
  obtain ⟨f1, f2, _⟩ := ord_facts a b ha hb
  have hq : cmpI (svalZ a) (svalZ b) = if svalZ a < svalZ b then -1 else if svalZ b < svalZ a then 1 else 0 := rfl
  by_cases h1 : svalZ a < svalZ b
  · rw [if_pos h1] at hq
    rw [show decide (svalZ a < svalZ b) = true by simpa using h1] at f1
    rw [hq]
    clear hq f2 h1
    go_enter Tryz.func25, Tryz.ntmps25
    go_wp2_with (first | (go_at_call_of 43 a; refine (hA _).mono ?_; rintro e9 w9 ⟨rfl, hw9⟩; obtain rfl := hw9.symm) | (go_at_call 43; refine (hB _).mono ?_; rintro e9 w9 ⟨rfl, hw9⟩; obtain rfl := hw9.symm))
    go_ret
    exact ⟨rfl, rfl⟩
  · rw [if_neg h1] at hq
    rw [show decide (svalZ a < svalZ b) = false by simpa using h1] at f1
    by_cases h2 : svalZ b < svalZ a
    · rw [if_pos h2] at hq
      rw [show decide (svalZ b < svalZ a) = true by simpa using h2] at f2
      rw [hq]
      clear hq h1 h2
      go_enter Tryz.func25, Tryz.ntmps25
      go_wp2_with (first | (go_at_call_of 43 a; refine (hA _).mono ?_; rintro e9 w9 ⟨rfl, hw9⟩; obtain rfl := hw9.symm) | (go_at_call 43; refine (hB _).mono ?_; rintro e9 w9 ⟨rfl, hw9⟩; obtain rfl := hw9.symm))
      go_ret
      exact ⟨rfl, rfl⟩
    · rw [if_neg h2] at hq
      rw [show decide (svalZ b < svalZ a) = false by simpa using h2] at f2
      rw [hq]
      clear hq h1 h2
      go_enter Tryz.func25, Tryz.ntmps25
      go_wp2_with (first | (go_at_call_of 43 a; refine (hA _).mono ?_; rintro e9 w9 ⟨rfl, hw9⟩; obtain rfl := hw9.symm) | (go_at_call 43; refine (hB _).mono ?_; rintro e9 w9 ⟨rfl, hw9⟩; obtain rfl := hw9.symm))
      go_ret
      exact ⟨rfl, rfl⟩

theorem sval_low : svalZ 3741319168 = -(2 ^ 63) * 2 ^ 149 := by decide
theorem sval_high : svalZ 1593835520 = 2 ^ 63 * 2 ^ 149 := by decide
theorem nan_low : nanB 3741319168 = false := by decide
theorem nan_high : nanB 1593835520 = false := by decide

/-- between -2^63 and 2^63: the whole part is a number of 64 bits -/
theorem whole_range (x : Nat) (h1 : ¬ svalZ x < svalZ 3741319168) (h2 : ¬ svalZ 1593835520 ≤ svalZ x) : -9223372036854775808 ≤ wholeZ x ∧ wholeZ x ≤ 9223372036854775807 ∧ rungN x < 2139095040 := by
  rw [sval_low] at h1
  rw [sval_high] at h2
  have hv : valN (rungN x) ≤ 2 ^ 63 * 2 ^ 149 ∧ (¬ x / 2147483648 % 2 = 1 → valN (rungN x) < 2 ^ 63 * 2 ^ 149) := by
    unfold svalZ at h1 h2
    by_cases hs : x / 2147483648 % 2 = 1
    · simp only [hs, if_true] at h1 h2
      have : (valN (rungN x) : Int) ≤ 2 ^ 63 * 2 ^ 149 := by rw [Int.neg_mul] at h1; omega
      exact ⟨by exact_mod_cast this, fun h => absurd hs h⟩
    · simp only [hs, if_false] at h1 h2
      have : (valN (rungN x) : Int) < 2 ^ 63 * 2 ^ 149 := by omega
      have h3 : valN (rungN x) < 2 ^ 63 * 2 ^ 149 := by exact_mod_cast this
      exact ⟨by omega, fun _ => h3⟩
  have hr : rungN x < 2139095040 := by
    apply Nat.lt_of_not_le
    intro h
    have h3 : valN 1593835520 < valN (rungN x) := valN_lt (by omega)
    rw [val_big] at h3
    omega
  refine ⟨?_, ?_, hr⟩
  · unfold wholeZ
    have h3 : valN (rungN x) / 2 ^ 149 ≤ 2 ^ 63 := by
      rw [Nat.div_le_iff_le_mul_add_pred (Nat.two_pow_pos _)]
      omega
    split <;> omega
  · unfold wholeZ
    by_cases hs : x / 2147483648 % 2 = 1
    · rw [if_pos hs]
      omega
    · rw [if_neg hs]
      have h3 : valN (rungN x) / 2 ^ 149 < 2 ^ 63 := by
        rw [Nat.div_lt_iff_lt_mul (Nat.two_pow_pos _)]
        exact hv.2 hs
      omega

theorem wp_f2i (x : Nat) (t : Int) (h : floatToIntVal .f32 x .i64 = some t) (w : World) : (convert 23 2 (.float .f32 x)).run Tryz.prog w = .ok (.int .i64 t) w :=
  run_convert_float_int w 23 2 .f32 .i64 x t (by kernel_rfl) Tryz.underlying2 h

def cmpXN (x : Nat) (n : Int) : Int × Bool := if nanB x = true then (0, false) else (cmpI (svalZ x) (n * 2 ^ 149), true)

set_option maxHeartbeats 1600000 in
theorem compareInt_any (x : Nat) (n : Int) (hn0 : -9223372036854775808 ≤ n) (hn1 : n ≤ 9223372036854775807) (w : World) :
    Calls Tryz.prog 10 #[.float .f32 x, .int .i64 n] w fun e w' => e = .returned (.tuple #[.int .i64 (cmpXN x n).1, .bool (cmpXN x n).2]) ∧ w' = w := by
  have hN := isNan_any x
  have hq : cmpXN x n = if nanB x = true then (0, false) else (cmpI (svalZ x) (n * 2 ^ 149), true) := rfl
  cases hx : nanB x
  · rw [hx] at hN hq
    rw [if_neg (by decide)] at hq
    obtain ⟨f1, _, _⟩ := ord_facts x 3741319168 hx nan_low
    obtain ⟨g1, g2, g3⟩ := ord_facts x 1593835520 hx nan_high
    rw [hq]
    by_cases h1 : svalZ x < svalZ 3741319168
    · rw [show decide (svalZ x < svalZ 3741319168) = true by simpa using h1] at f1
      have hc : cmpI (svalZ x) (n * 2 ^ 149) = -1 := by
        unfold cmpI
        rw [if_pos]
        rw [sval_low] at h1
        have : -(2 : Int) ^ 63 * 2 ^ 149 ≤ n * 2 ^ 149 := Int.mul_le_mul_of_nonneg_right (by omega) (by decide)
        omega
      rw [hc]
      clear hc hq g1 g2 g3 h1
      go_enter Tryz.func10, Tryz.ntmps10
      go_wp2_with (first | (go_at_call 15; refine (hN _).mono ?_; rintro e9 w9 ⟨rfl, hw9⟩; obtain rfl := hw9.symm))
      go_ret2
      exact ⟨rfl, rfl⟩
    · rw [show decide (svalZ x < svalZ 3741319168) = false by simpa using h1] at f1
      by_cases h2 : svalZ 1593835520 ≤ svalZ x
      · have hc : cmpI (svalZ x) (n * 2 ^ 149) = 1 := by
          unfold cmpI
          rw [sval_high] at h2
          have : n * 2 ^ 149 < 2 ^ 63 * 2 ^ 149 := Int.mul_lt_mul_of_pos_right (by omega) (by decide)
          rw [if_neg (by omega), if_pos (by omega)]
        rw [hc]
        clear hc hq
        rw [show decide (svalZ x < svalZ 1593835520) = false by simp; omega] at g1
        by_cases h3 : svalZ x = svalZ 1593835520
        · rw [show decide (svalZ 1593835520 < svalZ x) = false by simp; omega] at g2
          rw [show decide (svalZ x = svalZ 1593835520) = true by simpa using h3] at g3
          clear h2 h3 h1
          go_enter Tryz.func10, Tryz.ntmps10
          go_wp2_with (first | (go_at_call 15; refine (hN _).mono ?_; rintro e9 w9 ⟨rfl, hw9⟩; obtain rfl := hw9.symm))
          go_ret2
          exact ⟨rfl, rfl⟩
        · rw [show decide (svalZ 1593835520 < svalZ x) = true by simp; omega] at g2
          rw [show decide (svalZ x = svalZ 1593835520) = false by simpa using h3] at g3
          clear h2 h3 h1
          go_enter Tryz.func10, Tryz.ntmps10
          go_wp2_with (first | (go_at_call 15; refine (hN _).mono ?_; rintro e9 w9 ⟨rfl, hw9⟩; obtain rfl := hw9.symm))
          go_ret2
          exact ⟨rfl, rfl⟩
      · rw [show decide (svalZ x < svalZ 1593835520) = true by simp; omega] at g1
        rw [show decide (svalZ 1593835520 < svalZ x) = false by simp; omega] at g2
        rw [show decide (svalZ x = svalZ 1593835520) = false by simp; omega] at g3
        obtain ⟨r1, r2, r3⟩ := whole_range x h1 h2
        have hcv : ∀ w, (convert 23 2 (.float .f32 x)).run Tryz.prog w = .ok (.int .i64 (wholeZ x)) w := fun w => wp_f2i x _ (by
          unfold floatToIntVal
          show (match (Ieee.single.read x).toInt .zero with | some n => if IntKind.i64.min ≤ n ∧ n ≤ IntKind.i64.max then some n else none | none => none) = _
          rw [toInt_whole x r3]
          exact if_pos ⟨r1, r2⟩) w
        by_cases hne : wholeZ x = n
        · obtain ⟨b1, b2⟩ := whole_back x (by omega)
          have hcv2 : ∀ w, (convert 2 23 (.int .i64 (wholeZ x))).run Tryz.prog w = .ok (.float .f32 (floatOfInt .f32 (wholeZ x))) w := fun w => run_convert_int_float w 2 23 .i64 .f32 (wholeZ x) (by kernel_rfl) Tryz.underlying23
          have hC := cmp_f32 x (floatOfInt .f32 (wholeZ x)) hx (by unfold nanB; simp; unfold rungN at b2; omega)
          rw [b1, hne] at hC
          rw [hne] at hcv hcv2
          clear b1 b2 r1 r2 r3 hq h1 h2
          generalize cmpI (svalZ x) (n * 2 ^ 149) = cc at hC ⊢
          generalize floatOfInt .f32 n = fl at hcv2 hC
          go_enter Tryz.func10, Tryz.ntmps10
          go_wp2_with (first | (go_at_call 15; refine (hN _).mono ?_; rintro e9 w9 ⟨rfl, hw9⟩; obtain rfl := hw9.symm) | (go_at_call 25; refine (hC _).mono ?_; rintro e9 w9 ⟨rfl, hw9⟩; obtain rfl := hw9.symm))
          go_ret2
          exact ⟨rfl, rfl⟩
        · have hC := cmp_i64 (wholeZ x) n
          rw [cmp_whole x n hne] at hC
          have hne2 : (wholeZ x != n) = true := by simpa using hne
          clear r3 hq h1 h2 hne
          generalize cmpI (svalZ x) (n * 2 ^ 149) = cc at hC ⊢
          generalize wholeZ x = wz at *
          go_enter Tryz.func10, Tryz.ntmps10
          go_wp2_with (first | (go_at_call 15; refine (hN _).mono ?_; rintro e9 w9 ⟨rfl, hw9⟩; obtain rfl := hw9.symm) | (go_at_call 24; refine (hC _).mono ?_; rintro e9 w9 ⟨rfl, hw9⟩; obtain rfl := hw9.symm))
          go_ret2
          exact ⟨rfl, rfl⟩
  · rw [hx] at hN hq
    rw [if_pos rfl] at hq
    rw [hq]
    clear hq
    go_enter Tryz.func10, Tryz.ntmps10
    go_wp2_with (first | (go_at_call 15; refine (hN _).mono ?_; rintro e9 w9 ⟨rfl, hw9⟩; obtain rfl := hw9.symm))
    go_ret2
    exact ⟨rfl, rfl⟩

end Go.Proofs.YtnjbdaonmgadaaaGreatDoor

