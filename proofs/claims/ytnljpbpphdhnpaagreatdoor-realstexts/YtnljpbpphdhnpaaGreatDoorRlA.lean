/- Numbers held against one another: by their worth. -/
import Derived.Test.YtnljpbpphdhnpaaGreatDoorSum
import Derived.Deep.RegionWith
import Derived.Deep.RegionHeld3

namespace Go.Proofs.YtnljpbpphdhnpaaGreatDoor
open Go.RowKit Go.PlainAid

theorem isNaN_f32 (x : Nat) (w : World) : Calls Tryz.prog 69 #[.float .f32 x] w fun e w' => e = .returned (.bool (nanB x)) ∧ w' = w := by
  have hn := neq_self x
  cases hb : nanB x <;> rw [hb] at hn
  all_goals
    go_enter Tryz.func69, Tryz.ntmps69
    go_wp2
    go_ret
    exact ⟨rfl, rfl⟩
theorem isNan_any (x : Nat) (w : World) : Calls Tryz.prog 14 #[.float .f32 x] w fun e w' => e = .returned (.bool (nanB x)) ∧ w' = w := by
  have hn := neq_self x
  cases hb : nanB x <;> rw [hb] at hn
  all_goals
    go_enter Tryz.func14, Tryz.ntmps14
    go_wp2
    go_ret
    exact ⟨rfl, rfl⟩
theorem isNaN_i64 (x : Int) (w : World) : Calls Tryz.prog 68 #[.int .i64 x] w fun e w' => e = .returned (.bool false) ∧ w' = w := by
  go_enter Tryz.func68, Tryz.ntmps68
  go_wp2
  go_ret
  exact ⟨rfl, rfl⟩

theorem cmp_i64 (a b : Int) (w : World) : Calls Tryz.prog 46 #[.int .i64 a, .int .i64 b] w fun e w' => e = .returned (.int .i64 (cmpI a b)) ∧ w' = w := by
  have hq : cmpI a b = if a < b then -1 else if b < a then 1 else 0 := rfl
  by_cases h1 : a < b
  · rw [if_pos h1] at hq
    rw [hq]; clear hq
    go_enter Tryz.func46, Tryz.ntmps46
    go_wp2_with (go_at_call 68; refine (isNaN_i64 _ _).mono ?_; rintro e9 w9 ⟨rfl, hw9⟩; obtain rfl := hw9.symm)
    go_ret
    exact ⟨rfl, rfl⟩
  · rw [if_neg h1] at hq
    by_cases h2 : b < a
    · rw [if_pos h2] at hq
      rw [hq]; clear hq
      go_enter Tryz.func46, Tryz.ntmps46
      go_wp2_with (go_at_call 68; refine (isNaN_i64 _ _).mono ?_; rintro e9 w9 ⟨rfl, hw9⟩; obtain rfl := hw9.symm)
      go_ret
      exact ⟨rfl, rfl⟩
    · rw [if_neg h2] at hq
      rw [hq]; clear hq
      go_enter Tryz.func46, Tryz.ntmps46
      go_wp2_with (go_at_call 68; refine (isNaN_i64 _ _).mono ?_; rintro e9 w9 ⟨rfl, hw9⟩; obtain rfl := hw9.symm)
      go_ret
      exact ⟨rfl, rfl⟩

theorem ord_facts (a b : Nat) (ha : nanB a = false) (hb : nanB b = false) :
    (FloatKind.f32.format.order a b == some Ordering.lt) = decide (svalZ a < svalZ b) ∧ (FloatKind.f32.format.order a b == some Ordering.gt) = decide (svalZ b < svalZ a) ∧ (FloatKind.f32.format.order a b == some Ordering.eq) = decide (svalZ a = svalZ b) := by
  have ha' : rungN a ≤ 2139095040 := by simpa [nanB, rungN] using ha
  have hb' : rungN b ≤ 2139095040 := by simpa [nanB, rungN] using hb
  show (Ieee.single.order a b == some Ordering.lt) = _ ∧ (Ieee.single.order a b == some Ordering.gt) = _ ∧ (Ieee.single.order a b == some Ordering.eq) = _
  rw [order_val a b ha' hb']
  have hc : compare (svalZ a) (svalZ b) = if svalZ a < svalZ b then .lt else if svalZ a = svalZ b then .eq else .gt := rfl
  rw [hc]
  generalize svalZ a = p
  generalize svalZ b = q
  rcases Int.lt_trichotomy p q with h | h | h
  · rw [if_pos h]
    have h1 : ¬ q < p := by omega
    have h2 : ¬ p = q := by omega
    simp [h, h1, h2]
  · subst h
    simp
  · have h1 : ¬ p < q := by omega
    have h2 : ¬ p = q := by omega
    rw [if_neg h1, if_neg h2]
    simp [h, h1, h2]

theorem cmp_f32 (a b : Nat) (ha : nanB a = false) (hb : nanB b = false) (w : World) : Calls Tryz.prog 47 #[.float .f32 a, .float .f32 b] w fun e w' => e = .returned (.int .i64 (cmpI (svalZ a) (svalZ b))) ∧ w' = w := by
  have hA := isNaN_f32 a
  have hB := isNaN_f32 b
  rw [ha] at hA
  rw [hb] at hB
  obtain ⟨f1, f2, _⟩ := ord_facts a b ha hb
  have hq : cmpI (svalZ a) (svalZ b) = if svalZ a < svalZ b then -1 else if svalZ b < svalZ a then 1 else 0 := rfl
  by_cases h1 : svalZ a < svalZ b
  · rw [if_pos h1] at hq
    rw [show decide (svalZ a < svalZ b) = true by simpa using h1] at f1
    rw [hq]
    clear hq f2 h1
    go_enter Tryz.func47, Tryz.ntmps47
    go_wp2_with (first | (go_at_call_of 69 a; refine (hA _).mono ?_; rintro e9 w9 ⟨rfl, hw9⟩; obtain rfl := hw9.symm) | (go_at_call 69; refine (hB _).mono ?_; rintro e9 w9 ⟨rfl, hw9⟩; obtain rfl := hw9.symm))
    go_ret
    exact ⟨rfl, rfl⟩
  · rw [if_neg h1] at hq
    rw [show decide (svalZ a < svalZ b) = false by simpa using h1] at f1
    by_cases h2 : svalZ b < svalZ a
    · rw [if_pos h2] at hq
      rw [show decide (svalZ b < svalZ a) = true by simpa using h2] at f2
      rw [hq]
      clear hq h1 h2
      go_enter Tryz.func47, Tryz.ntmps47
      go_wp2_with (first | (go_at_call_of 69 a; refine (hA _).mono ?_; rintro e9 w9 ⟨rfl, hw9⟩; obtain rfl := hw9.symm) | (go_at_call 69; refine (hB _).mono ?_; rintro e9 w9 ⟨rfl, hw9⟩; obtain rfl := hw9.symm))
      go_ret
      exact ⟨rfl, rfl⟩
    · rw [if_neg h2] at hq
      rw [show decide (svalZ b < svalZ a) = false by simpa using h2] at f2
      rw [hq]
      clear hq h1 h2
      go_enter Tryz.func47, Tryz.ntmps47
      go_wp2_with (first | (go_at_call_of 69 a; refine (hA _).mono ?_; rintro e9 w9 ⟨rfl, hw9⟩; obtain rfl := hw9.symm) | (go_at_call 69; refine (hB _).mono ?_; rintro e9 w9 ⟨rfl, hw9⟩; obtain rfl := hw9.symm))
      go_ret
      exact ⟨rfl, rfl⟩

theorem sval_low : svalZ 3741319168 = -(2 ^ 63) * 2 ^ 149 := by decide
theorem sval_high : svalZ 1593835520 = 2 ^ 63 * 2 ^ 149 := by decide
theorem nan_low : nanB 3741319168 = false := by decide
theorem nan_high : nanB 1593835520 = false := by decide

/-- between -2^63 and 2^63: the whole part is a number of 64 bits -/
theorem whole_range (x : Nat) (h1 : ¬ svalZ x < svalZ 3741319168) (h2 : ¬ svalZ 1593835520 ≤ svalZ x) : -9223372036854775808 ≤ wholeZ x ∧ wholeZ x ≤ 9223372036854775807 ∧ rungN x < 2139095040 := by
  rw [sval_low] at h1
  rw [sval_high] at h2
  have hv : valN (rungN x) ≤ 2 ^ 63 * 2 ^ 149 ∧ (¬ x / 2147483648 % 2 = 1 → valN (rungN x) < 2 ^ 63 * 2 ^ 149) := by
    unfold svalZ at h1 h2
    by_cases hs : x / 2147483648 % 2 = 1
    · simp only [hs, if_true] at h1 h2
      have : (valN (rungN x) : Int) ≤ 2 ^ 63 * 2 ^ 149 := by rw [Int.neg_mul] at h1; omega
      exact ⟨by exact_mod_cast this, fun h => absurd hs h⟩
    · simp only [hs, if_false] at h1 h2
      have : (valN (rungN x) : Int) < 2 ^ 63 * 2 ^ 149 := by omega
      have h3 : valN (rungN x) < 2 ^ 63 * 2 ^ 149 := by exact_mod_cast this
      exact ⟨by omega, fun _ => h3⟩
  have hr : rungN x < 2139095040 := by
    apply Nat.lt_of_not_le
    intro h
    have h3 : valN 1593835520 < valN (rungN x) := valN_lt (by omega)
    rw [val_big] at h3
    omega
  refine ⟨?_, ?_, hr⟩
  · unfold wholeZ
    have h3 : valN (rungN x) / 2 ^ 149 ≤ 2 ^ 63 := by
      rw [Nat.div_le_iff_le_mul_add_pred (Nat.two_pow_pos _)]
      omega
    split <;> omega
  · unfold wholeZ
    by_cases hs : x / 2147483648 % 2 = 1
    · rw [if_pos hs]
      omega
    · rw [if_neg hs]
      have h3 : valN (rungN x) / 2 ^ 149 < 2 ^ 63 := by
        rw [Nat.div_lt_iff_lt_mul (Nat.two_pow_pos _)]
        exact hv.2 hs
      omega

theorem wp_f2i (x : Nat) (t : Int) (h : floatToIntVal .f32 x .i64 = some t) (w : World) : (convert 22 2 (.float .f32 x)).run Tryz.prog w = .ok (.int .i64 t) w :=
  run_convert_float_int w 22 2 .f32 .i64 x t (by kernel_rfl) Tryz.underlying2 h

def cmpXN (x : Nat) (n : Int) : Int × Bool := if nanB x = true then (0, false) else (cmpI (svalZ x) (n * 2 ^ 149), true)

set_option maxHeartbeats 1600000 in
theorem compareInt_any (x : Nat) (n : Int) (hn0 : -9223372036854775808 ≤ n) (hn1 : n ≤ 9223372036854775807) (w : World) :
    Calls Tryz.prog 23 #[.float .f32 x, .int .i64 n] w fun e w' => e = .returned (.tuple #[.int .i64 (cmpXN x n).1, .bool (cmpXN x n).2]) ∧ w' = w := by
  have hN := isNan_any x
  have hq : cmpXN x n = if nanB x = true then (0, false) else (cmpI (svalZ x) (n * 2 ^ 149), true) := rfl
  cases hx : nanB x
  · rw [hx] at hN hq
    rw [if_neg (by decide)] at hq
    obtain ⟨f1, _, _⟩ := ord_facts x 3741319168 hx nan_low
    obtain ⟨g1, g2, g3⟩ := ord_facts x 1593835520 hx nan_high
    rw [hq]
    by_cases h1 : svalZ x < svalZ 3741319168
    · rw [show decide (svalZ x < svalZ 3741319168) = true by simpa using h1] at f1
      have hc : cmpI (svalZ x) (n * 2 ^ 149) = -1 := by
        unfold cmpI
        rw [if_pos]
        rw [sval_low] at h1
        have : -(2 : Int) ^ 63 * 2 ^ 149 ≤ n * 2 ^ 149 := Int.mul_le_mul_of_nonneg_right (by omega) (by decide)
        omega
      rw [hc]
      clear hc hq g1 g2 g3 h1
      go_enter Tryz.func23, Tryz.ntmps23
      go_wp2_with (first | (go_at_call 14; refine (hN _).mono ?_; rintro e9 w9 ⟨rfl, hw9⟩; obtain rfl := hw9.symm))
      go_ret2
      exact ⟨rfl, rfl⟩
    · rw [show decide (svalZ x < svalZ 3741319168) = false by simpa using h1] at f1
      by_cases h2 : svalZ 1593835520 ≤ svalZ x
      · have hc : cmpI (svalZ x) (n * 2 ^ 149) = 1 := by
          unfold cmpI
          rw [sval_high] at h2
          have : n * 2 ^ 149 < 2 ^ 63 * 2 ^ 149 := Int.mul_lt_mul_of_pos_right (by omega) (by decide)
          rw [if_neg (by omega), if_pos (by omega)]
        rw [hc]
        clear hc hq
        rw [show decide (svalZ x < svalZ 1593835520) = false by simp; omega] at g1
        by_cases h3 : svalZ x = svalZ 1593835520
        · rw [show decide (svalZ 1593835520 < svalZ x) = false by simp; omega] at g2
          rw [show decide (svalZ x = svalZ 1593835520) = true by simpa using h3] at g3
          clear h2 h3 h1
          go_enter Tryz.func23, Tryz.ntmps23
          go_wp2_with (first | (go_at_call 14; refine (hN _).mono ?_; rintro e9 w9 ⟨rfl, hw9⟩; obtain rfl := hw9.symm))
          go_ret2
          exact ⟨rfl, rfl⟩
        · rw [show decide (svalZ 1593835520 < svalZ x) = true by simp; omega] at g2
          rw [show decide (svalZ x = svalZ 1593835520) = false by simpa using h3] at g3
          clear h2 h3 h1
          go_enter Tryz.func23, Tryz.ntmps23
          go_wp2_with (first | (go_at_call 14; refine (hN _).mono ?_; rintro e9 w9 ⟨rfl, hw9⟩; obtain rfl := hw9.symm))
          go_ret2
          exact ⟨rfl, rfl⟩
      · rw [show decide (svalZ x < svalZ 1593835520) = true by simp; omega] at g1
        rw [show decide (svalZ 1593835520 < svalZ x) = false by simp; omega] at g2
        rw [show decide (svalZ x = svalZ 1593835520) = false by simp; omega] at g3
        obtain ⟨r1, r2, r3⟩ := whole_range x h1 h2
        have hcv : ∀ w, (convert 22 2 (.float .f32 x)).run Tryz.prog w = .ok (.int .i64 (wholeZ x)) w := fun w => wp_f2i x _ (by
          unfold floatToIntVal
          show (match (Ieee.single.read x).toInt .zero with | some n => if IntKind.i64.min ≤ n ∧ n ≤ IntKind.i64.max then some n else none | none => none) = _
          rw [toInt_whole x r3]
          exact if_pos ⟨r1, r2⟩) w
        by_cases hne : wholeZ x = n
        · obtain ⟨b1, b2⟩ := whole_back x (by omega)
          have hcv2 : ∀ w, (convert 2 22 (.int .i64 (wholeZ x))).run Tryz.prog w = .ok (.float .f32 (floatOfInt .f32 (wholeZ x))) w := fun w => run_convert_int_float w 2 22 .i64 .f32 (wholeZ x) (by kernel_rfl) Tryz.underlying22
          have hC := cmp_f32 x (floatOfInt .f32 (wholeZ x)) hx (by unfold nanB; simp; unfold rungN at b2; omega)
          rw [b1, hne] at hC
          rw [hne] at hcv hcv2
          clear b1 b2 r1 r2 r3 hq h1 h2
          generalize cmpI (svalZ x) (n * 2 ^ 149) = cc at hC ⊢
          generalize floatOfInt .f32 n = fl at hcv2 hC
          go_enter Tryz.func23, Tryz.ntmps23
          go_wp2_with (first | (go_at_call 14; refine (hN _).mono ?_; rintro e9 w9 ⟨rfl, hw9⟩; obtain rfl := hw9.symm) | (go_at_call 47; refine (hC _).mono ?_; rintro e9 w9 ⟨rfl, hw9⟩; obtain rfl := hw9.symm))
          go_ret2
          exact ⟨rfl, rfl⟩
        · have hC := cmp_i64 (wholeZ x) n
          rw [cmp_whole x n hne] at hC
          have hne2 : (wholeZ x != n) = true := by simpa using hne
          clear r3 hq h1 h2 hne
          generalize cmpI (svalZ x) (n * 2 ^ 149) = cc at hC ⊢
          generalize wholeZ x = wz at *
          go_enter Tryz.func23, Tryz.ntmps23
          go_wp2_with (first | (go_at_call 14; refine (hN _).mono ?_; rintro e9 w9 ⟨rfl, hw9⟩; obtain rfl := hw9.symm) | (go_at_call 46; refine (hC _).mono ?_; rintro e9 w9 ⟨rfl, hw9⟩; obtain rfl := hw9.symm))
          go_ret2
          exact ⟨rfl, rfl⟩
  · rw [hx] at hN hq
    rw [if_pos rfl] at hq
    rw [hq]
    clear hq
    go_enter Tryz.func23, Tryz.ntmps23
    go_wp2_with (first | (go_at_call 14; refine (hN _).mono ?_; rintro e9 w9 ⟨rfl, hw9⟩; obtain rfl := hw9.symm))
    go_ret2
    exact ⟨rfl, rfl⟩

end Go.Proofs.YtnljpbpphdhnpaaGreatDoor



/- Are two reals one: the program's Same. -/
namespace Go.Proofs.YtnljpbpphdhnpaaGreatDoor
open Go.RowKit Go.PlainAid

def belowB (x : Nat) : Bool := !nanB x && decide (2147483648 ≤ x)

theorem drewN_drewN (w : World) (a b : Nat) : (w.drewN a).drewN b = w.drewN (a + b) := by
  simp [World.drewN]
  omega

set_option maxRecDepth 100000 in
theorem below0_any (x : Nat) (h : x < 4294967296) (w : World) : Calls Tryz.prog 15 #[.float .f32 x] w fun e w' => e = .returned (.bool (belowB x)) ∧ w' = w := by
  have hN := isNan_any x
  have hfb := run_f32bits x w
  have h31 := and31 x h
  unfold belowB
  cases hx : nanB x <;> rw [hx] at hN
  · by_cases hb : 2147483648 ≤ x
    · rw [if_pos hb] at h31
      have ht : (bits .and .u32 (x : Int) 2147483648 != 0) = true := by rw [h31]; rfl
      rw [show decide (2147483648 ≤ x) = true by simpa using hb]
      clear h31 hb
      go_enter Tryz.func15, Tryz.ntmps15
      go_wp2_with (first | (go_at_call 14; refine (hN _).mono ?_; rintro e9 w9 ⟨rfl, hw9⟩; obtain rfl := hw9.symm))
      go_ret
      exact ⟨rfl, rfl⟩
    · rw [if_neg hb] at h31
      have ht : (bits .and .u32 (x : Int) 2147483648 != 0) = false := by rw [h31]; rfl
      rw [show decide (2147483648 ≤ x) = false by simpa using hb]
      clear h31 hb
      go_enter Tryz.func15, Tryz.ntmps15
      go_wp2_with (first | (go_at_call 14; refine (hN _).mono ?_; rintro e9 w9 ⟨rfl, hw9⟩; obtain rfl := hw9.symm))
      go_ret
      exact ⟨rfl, rfl⟩
  · clear hfb h31
    go_enter Tryz.func15, Tryz.ntmps15
    go_wp2_with (first | (go_at_call 14; refine (hN _).mono ?_; rintro e9 w9 ⟨rfl, hw9⟩; obtain rfl := hw9.symm))
    go_ret
    exact ⟨rfl, rfl⟩

/-- equal as numbers; nan equals none -/
def eqB (a b : Nat) : Bool := !nanB a && !nanB b && decide (svalZ a = svalZ b)
theorem eq_any (a b : Nat) : (FloatKind.f32.format.order a b == some Ordering.eq) = eqB a b := by
  unfold eqB
  cases ha : nanB a
  · cases hb : nanB b
    · rw [(ord_facts a b ha hb).2.2]; rfl
    · show (Ieee.single.order a b == some Ordering.eq) = _
      rw [order_any, if_pos (.inr (by simpa [nanB, rungN] using hb))]
      rfl
  · show (Ieee.single.order a b == some Ordering.eq) = _
    rw [order_any, if_pos (.inl (by simpa [nanB, rungN] using ha))]
    rfl

def sameR (a b : Nat) : Bool := nanB a && nanB b || eqB a b && (belowB a == belowB b)

set_option maxRecDepth 100000 in
set_option maxHeartbeats 1600000 in
theorem realSame_any (a b : Nat) (ha : a < 4294967296) (hb : b < 4294967296) (w : World) : Calls Tryz.prog 12 #[.float .f32 a, .float .f32 b] w fun e w' => e = .returned (.bool (sameR a b)) ∧ w' = w := by
  have hA := isNan_any a
  have hB := isNan_any b
  have hC := below0_any a ha
  have hD := below0_any b hb
  have hE := eq_any a b
  unfold sameR
  generalize belowB a = p at hC ⊢
  generalize belowB b = q at hD ⊢
  generalize eqB a b = r at hE ⊢
  cases h1 : nanB a <;> rw [h1] at hA
  · cases r
    · go_enter Tryz.func12, Tryz.ntmps12
      go_wp2_with (first | (go_at_call_of 14 a; refine (hA _).mono ?_; rintro e9 w9 ⟨rfl, hw9⟩; obtain rfl := hw9.symm))
      go_ret
      exact ⟨rfl, rfl⟩
    · cases p <;> cases q
      all_goals
        go_enter Tryz.func12, Tryz.ntmps12
        go_wp2_with (first | (go_at_call 14; refine (hA _).mono ?_; rintro e9 w9 ⟨rfl, hw9⟩; obtain rfl := hw9.symm) | (go_at_call_of 15 a; refine (hC _).mono ?_; rintro e9 w9 ⟨rfl, hw9⟩; obtain rfl := hw9.symm) | (go_at_call 15; refine (hD _).mono ?_; rintro e9 w9 ⟨rfl, hw9⟩; obtain rfl := hw9.symm))
        go_ret
        exact ⟨rfl, rfl⟩
  · cases h2 : nanB b <;> rw [h2] at hB
    · cases r
      · go_enter Tryz.func12, Tryz.ntmps12
        go_wp2_with (first | (go_at_call_of 14 a; refine (hA _).mono ?_; rintro e9 w9 ⟨rfl, hw9⟩; obtain rfl := hw9.symm) | (go_at_call 14; refine (hB _).mono ?_; rintro e9 w9 ⟨rfl, hw9⟩; obtain rfl := hw9.symm))
        go_ret
        exact ⟨rfl, rfl⟩
      · cases p <;> cases q
        all_goals
          go_enter Tryz.func12, Tryz.ntmps12
          go_wp2_with (first | (go_at_call_of 14 a; refine (hA _).mono ?_; rintro e9 w9 ⟨rfl, hw9⟩; obtain rfl := hw9.symm) | (go_at_call 14; refine (hB _).mono ?_; rintro e9 w9 ⟨rfl, hw9⟩; obtain rfl := hw9.symm) | (go_at_call_of 15 a; refine (hC _).mono ?_; rintro e9 w9 ⟨rfl, hw9⟩; obtain rfl := hw9.symm) | (go_at_call 15; refine (hD _).mono ?_; rintro e9 w9 ⟨rfl, hw9⟩; obtain rfl := hw9.symm))
          go_ret
          exact ⟨rfl, rfl⟩
    · go_enter Tryz.func12, Tryz.ntmps12
      go_wp2_with (first | (go_at_call_of 14 a; refine (hA _).mono ?_; rintro e9 w9 ⟨rfl, hw9⟩; obtain rfl := hw9.symm) | (go_at_call 14; refine (hB _).mono ?_; rintro e9 w9 ⟨rfl, hw9⟩; obtain rfl := hw9.symm))
      go_ret
      exact ⟨rfl, rfl⟩


end Go.Proofs.YtnljpbpphdhnpaaGreatDoor



/- The program's order of reals, their keys, the next one: for every input. -/
namespace Go.Proofs.YtnljpbpphdhnpaaGreatDoor
open Go.RowKit Go.PlainAid

def ltB (a b : Nat) : Bool := !nanB a && !nanB b && decide (svalZ a < svalZ b)
theorem lt_any (a b : Nat) : (FloatKind.f32.format.order a b == some Ordering.lt) = ltB a b := by
  unfold ltB
  cases ha : nanB a
  · cases hb : nanB b
    · rw [(ord_facts a b ha hb).1]; rfl
    · show (Ieee.single.order a b == some Ordering.lt) = _
      rw [order_any, if_pos (.inr (by simpa [nanB, rungN] using hb))]
      rfl
  · show (Ieee.single.order a b == some Ordering.lt) = _
    rw [order_any, if_pos (.inl (by simpa [nanB, rungN] using ha))]
    rfl
theorem gt_any (a b : Nat) : (FloatKind.f32.format.order a b == some Ordering.gt) = ltB b a := by
  unfold ltB
  cases ha : nanB a
  · cases hb : nanB b
    · rw [(ord_facts a b ha hb).2.1]; rfl
    · show (Ieee.single.order a b == some Ordering.gt) = _
      rw [order_any, if_pos (.inr (by simpa [nanB, rungN] using hb))]
      rfl
  · show (Ieee.single.order a b == some Ordering.gt) = _
    rw [order_any, if_pos (.inl (by simpa [nanB, rungN] using ha))]
    cases nanB b <;> rfl

/-- where a real stands, by its key -/
theorem stand (a b : Nat) (ha : a < 4294967296) (hb : b < 4294967296) (na : nanB a = false) (nb : nanB b = false) :
    (svalZ a < svalZ b ↔ (keyN a < keyN b ∧ ¬ (a = 2147483648 ∧ b = 0))) ∧ (svalZ a = svalZ b ↔ (keyN a = keyN b ∨ (a = 2147483648 ∧ b = 0) ∨ (a = 0 ∧ b = 2147483648))) := by
  obtain ⟨s1, s2⟩ := sval_srung a b
  have ra : rungN a ≤ 2139095040 := by simpa [nanB, rungN] using na
  have rb : rungN b ≤ 2139095040 := by simpa [nanB, rungN] using nb
  rw [s1, s2]
  unfold keyN srungZ
  rw [na, nb]
  unfold rungN at ra rb ⊢
  simp only [Bool.false_eq_true, if_false]
  constructor <;> split <;> split <;> split <;> split <;> omega
theorem key_low (a : Nat) (na : nanB a = false) (ha : a < 4294967296) : 8388607 ≤ keyN a ∧ keyN a ≤ 4286578688 := by
  have ra : rungN a ≤ 2139095040 := by simpa [nanB, rungN] using na
  unfold keyN
  rw [na]
  unfold rungN at ra
  simp only [Bool.false_eq_true, if_false]
  split <;> omega
theorem key_nan (a : Nat) (na : nanB a = true) : keyN a = 4290772992 := by
  unfold keyN; rw [na]; rfl
theorem same_key (a b : Nat) (ha : a < 4294967296) (hb : b < 4294967296) : sameR a b = decide (keyN a = keyN b) := by
  unfold sameR eqB belowB
  cases na : nanB a
  · have ka := key_low a na ha
    cases nb : nanB b
    · obtain ⟨_, s2⟩ := stand a b ha hb na nb
      simp only [Bool.false_and, Bool.false_or, Bool.not_false, Bool.true_and]
      rw [Bool.eq_iff_iff]
      simp only [Bool.and_eq_true, decide_eq_true_eq, beq_iff_eq, decide_eq_decide]
      rw [s2]
      have ra : rungN a ≤ 2139095040 := by simpa [nanB, rungN] using na
      have rb : rungN b ≤ 2139095040 := by simpa [nanB, rungN] using nb
      unfold rungN at ra rb
      unfold keyN
      rw [na, nb]
      simp only [Bool.false_eq_true, if_false]
      split <;> split <;> omega
    · have kb := key_nan b nb
      simp
      omega
  · have ka := key_nan a na
    cases nb : nanB b
    · have kb := key_low b nb hb
      simp
      omega
    · have kb := key_nan b nb
      simp
      omega
theorem cmp_key (a b : Nat) (ha : a < 4294967296) (hb : b < 4294967296) :
    cmpI (keyN a) (keyN b) = if sameR a b = true then 0 else if (nanB b || ltB a b) = true then -1 else if (nanB a || ltB b a) = true then 1 else if belowB a = true then -1 else 1 := by
  rw [same_key a b ha hb]
  unfold ltB belowB cmpI
  simp only [decide_eq_true_eq]
  by_cases he : keyN a = keyN b
  · rw [if_pos he, if_neg (by omega), if_neg (by omega)]
  rw [if_neg he]
  cases na : nanB a
  · have ka := key_low a na ha
    cases nb : nanB b
    · obtain ⟨s1, _⟩ := stand a b ha hb na nb
      obtain ⟨s3, _⟩ := stand b a hb ha nb na
      simp only [Bool.not_false, Bool.true_and, Bool.false_or, decide_eq_true_eq]
      simp only [s1, s3]
      have ra : rungN a ≤ 2139095040 := by simpa [nanB, rungN] using na
      have rb : rungN b ≤ 2139095040 := by simpa [nanB, rungN] using nb
      unfold rungN at ra rb
      have k0 : keyN 0 = 2147483648 := by decide
      have k1 : keyN 2147483648 = 2147483647 := by decide
      by_cases h1 : keyN a < keyN b
      · rw [if_pos (by omega)]
        by_cases h2 : a = 2147483648 ∧ b = 0
        · obtain ⟨rfl, rfl⟩ := h2
          decide
        · rw [if_pos ⟨h1, h2⟩]
      · rw [if_neg (by omega), if_pos (by omega), if_neg (fun h => h1 h.1)]
        by_cases h2 : b = 2147483648 ∧ a = 0
        · obtain ⟨rfl, rfl⟩ := h2
          decide
        · rw [if_pos ⟨by omega, h2⟩]
    · have kb := key_nan b nb
      rw [if_pos (by omega)]
      rfl
  · have ka := key_nan a na
    cases nb : nanB b
    · have kb := key_low b nb hb
      rw [if_neg (by omega), if_pos (by omega)]
      rfl
    · have kb := key_nan b nb
      omega


def fromN (k : Nat) : Nat := if nanB (bitsK k) = true then 2143289344 else bitsK k
def nextN (x : Nat) (up : Bool) : Nat := if up then fromN (keyN x + 1) else if keyN x = 4290772992 then 2139095040 else if keyN x = 8388607 then x else fromN (keyN x - 1)

theorem bitsK_lt (k : Nat) (h : k < 4294967296) : bitsK k < 4294967296 := by unfold bitsK; split <;> omega
theorem fromN_lt (k : Nat) (h : k < 4294967296) : fromN k < 4294967296 := by
  unfold fromN; split
  · omega
  · exact bitsK_lt k h
/-- the key of what a key says -/
theorem key_from (k : Nat) (h : k < 4294967296) : keyN (fromN k) = if 8388607 ≤ k ∧ k ≤ 4286578688 then k else 4290772992 := by
  unfold fromN
  by_cases hr : 8388607 ≤ k ∧ k ≤ 4286578688
  · have hn : nanB (bitsK k) = false := by
      unfold nanB bitsK
      simp only [decide_eq_false_iff_not]
      split <;> omega
    rw [if_pos hr, hn, if_neg (by decide)]
    unfold keyN
    rw [hn, if_neg (by decide)]
    unfold bitsK
    split <;> split <;> omega
  · have hn : nanB (bitsK k) = true := by
      unfold nanB bitsK
      simp only [decide_eq_true_eq]
      split <;> omega
    rw [if_neg hr, hn, if_pos rfl]
    decide

theorem nan_any (w : World) : Calls Tryz.prog 26 #[] w fun e w' => e = .returned (.float .f32 2143289344) ∧ w' = w := by
  have hfb := run_f32from 2143289344
  have e : ((2143289344 : Nat) : Int) = 2143289344 := rfl
  rw [e] at hfb; clear e
  go_enter Tryz.func26, Tryz.ntmps26
  go_wp2
  go_ret
  exact ⟨rfl, rfl⟩
set_option maxRecDepth 1000000 in
theorem signed_any (x : Nat) (h : x < 2147483648) (neg : Bool) (w : World) : Calls Tryz.prog 30 #[.float .f32 x, .bool neg] w fun e w' => e = .returned (.float .f32 (if neg then x + 2147483648 else x)) ∧ w' = w := by
  have hfb := run_f32bits x
  have hfr := run_f32from (x + 2147483648)
  have hor := or31 x h
  cases neg
  · go_enter Tryz.func30, Tryz.ntmps30
    go_wp2
    go_ret
    exact ⟨rfl, rfl⟩
  · simp only [if_true]
    generalize x + 2147483648 = y at *
    go_enter Tryz.func30, Tryz.ntmps30
    go_wp2
    go_ret
    exact ⟨rfl, rfl⟩
theorem infinite_any (neg : Bool) (w : World) : Calls Tryz.prog 27 #[.bool neg] w fun e w' => e = .returned (.float .f32 (if neg then 4286578688 else 2139095040)) ∧ w' = w := by
  have hfb := run_f32from 2139095040
  have e : ((2139095040 : Nat) : Int) = 2139095040 := rfl
  rw [e] at hfb; clear e
  have hS := signed_any 2139095040 (by decide) neg
  go_enter Tryz.func27, Tryz.ntmps27
  go_wp2_with (first | (go_at_call 30; refine (hS _).mono ?_; rintro e9 w9 ⟨rfl, hw9⟩; obtain rfl := hw9.symm))
  all_goals go_ret
  all_goals simp_all

theorem key_bot (x : Nat) (h : x < 4294967296) : 8388607 ≤ keyN x := by
  cases hn : nanB x
  · have := key_low x hn h; omega
  · rw [key_nan x hn]; omega
theorem key_top (x : Nat) (h : x < 4294967296) : keyN x ≤ 4290772992 := by
  cases hn : nanB x
  · have := key_low x hn h; omega
  · rw [key_nan x hn]; omega
end Go.Proofs.YtnljpbpphdhnpaaGreatDoor


