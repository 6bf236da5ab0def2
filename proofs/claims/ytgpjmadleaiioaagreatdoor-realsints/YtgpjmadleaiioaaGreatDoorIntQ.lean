/- ToInt, the program's and the document's; the walk of the statement on reals beside whole numbers. -/
import Derived.Test.YtgpjmadleaiioaaGreatDoorIntC

namespace Go.Proofs.YtgpjmadleaiioaaGreatDoor

/-- the worth, if it is a whole number of 64 bits -/
def toI (x : Nat) : Int × Bool := if rungN x < 2139095040 ∧ svalZ x = wholeZ x * 2 ^ 149 ∧ -9223372036854775808 ≤ wholeZ x ∧ wholeZ x ≤ 9223372036854775807 then (wholeZ x, true) else (0, false)
end Go.Proofs.YtgpjmadleaiioaaGreatDoor

/- The program's ToInt. -/
namespace Go.Proofs.YtgpjmadleaiioaaGreatDoor
open Go.RowKit Go.PlainAid

set_option maxRecDepth 1000000 in
set_option maxHeartbeats 3200000 in
theorem toInt_any (x : Nat) (w : World) : Calls Tryz.prog 16 #[.float .f32 x] w fun e w' => e = .returned (.tuple #[.int .i64 (toI x).1, .bool (toI x).2]) ∧ w' = w := by
  cases hb : nanB x
  · obtain ⟨f1, f2, f3⟩ := ord_facts x 3741319168 hb nan_low
    obtain ⟨g1, g2, g3⟩ := ord_facts x 1593835520 hb nan_high
    by_cases c1 : svalZ x < svalZ 3741319168
    · have ht : toI x = (0, false) := by
        unfold toI
        rw [if_neg]
        rintro ⟨_, h2, h3, _⟩
        rw [sval_low, h2] at c1
        omega
      rw [decide_eq_true c1] at f1
      rw [decide_eq_false (by omega)] at f2
      rw [decide_eq_false (by omega)] at f3
      rw [ht]
      clear g1 g2 g3 c1 ht hb
      go_enter Tryz.func16, Tryz.ntmps16
      go_wp2
      go_ret2
      exact ⟨rfl, rfl⟩
    · rw [decide_eq_false c1] at f1
      have hcc : ((FloatKind.f32.format.order x 3741319168 == some Ordering.gt) = true ∧ (FloatKind.f32.format.order x 3741319168 == some Ordering.eq) = false) ∨ ((FloatKind.f32.format.order x 3741319168 == some Ordering.gt) = false ∧ (FloatKind.f32.format.order x 3741319168 == some Ordering.eq) = true) := by
        rw [f2, f3]
        by_cases e : svalZ x = svalZ 3741319168
        · exact .inr ⟨decide_eq_false (by omega), decide_eq_true e⟩
        · exact .inl ⟨decide_eq_true (by omega), decide_eq_false e⟩
      by_cases c2 : svalZ 1593835520 ≤ svalZ x
      · have ht : toI x = (0, false) := by
          unfold toI
          rw [if_neg]
          rintro ⟨_, h2, _, h3⟩
          rw [sval_high, h2] at c2
          omega
        rw [decide_eq_false (by omega)] at g1
        rw [ht]
        clear f2 f3 g2 g3 c1 c2 ht hb
        rcases hcc with ⟨k1, k2⟩ | ⟨k1, k2⟩
        all_goals
          go_enter Tryz.func16, Tryz.ntmps16
          go_wp2
          go_ret2
          exact ⟨rfl, rfl⟩
      · rw [decide_eq_true (by omega)] at g1
        obtain ⟨r1, r2, r3⟩ := whole_range x c1 c2
        have hcv : ∀ w, (convert 22 2 (.float .f32 x)).run Tryz.prog w = .ok (.int .i64 (wholeZ x)) w := fun w => wp_f2i x _ (by
          unfold floatToIntVal
          show (match (Ieee.single.read x).toInt .zero with | some n => if IntKind.i64.min ≤ n ∧ n ≤ IntKind.i64.max then some n else none | none => none) = _
          rw [toInt_whole x r3]
          exact if_pos ⟨r1, r2⟩) w
        have hcb : ∀ w, (convert 2 22 (.int .i64 (wholeZ x))).run Tryz.prog w = .ok (.float .f32 (floatOfInt .f32 (wholeZ x))) w := fun w => run_convert_int_float w 2 22 .i64 .f32 _ (by kernel_rfl) Tryz.underlying22
        obtain ⟨b1, b2⟩ := whole_back x (by omega)
        have hy : nanB (floatOfInt .f32 (wholeZ x)) = false := by
          unfold nanB; unfold rungN at b2; simp; omega
        obtain ⟨_, _, o3⟩ := ord_facts (floatOfInt .f32 (wholeZ x)) x hy hb
        rw [b1] at o3
        have ht : toI x = if svalZ x = wholeZ x * 2 ^ 149 then (wholeZ x, true) else (0, false) := by
          unfold toI
          by_cases e : svalZ x = wholeZ x * 2 ^ 149
          · rw [if_pos e, if_pos ⟨r3, e, r1, r2⟩]
          · rw [if_neg e, if_neg (fun h => e h.2.1)]
        rw [ht]
        clear f2 f3 g2 g3 c1 c2 ht hb b1 b2 hy r3
        generalize floatOfInt .f32 (wholeZ x) = y at *
        by_cases e : svalZ x = wholeZ x * 2 ^ 149
        · rw [decide_eq_true e.symm] at o3
          rw [if_pos e]
          have o4 : (FloatKind.f32.format.order y x != some Ordering.eq) = false := by rw [bne, o3]; rfl
          clear e
          generalize wholeZ x = t at *
          rcases hcc with ⟨k1, k2⟩ | ⟨k1, k2⟩
          all_goals
            go_enter Tryz.func16, Tryz.ntmps16
            go_wp2
            go_ret2
            exact ⟨rfl, rfl⟩
        · rw [decide_eq_false (fun h => e h.symm)] at o3
          rw [if_neg e]
          have o4 : (FloatKind.f32.format.order y x != some Ordering.eq) = true := by rw [bne, o3]; rfl
          clear e
          generalize wholeZ x = t at *
          rcases hcc with ⟨k1, k2⟩ | ⟨k1, k2⟩
          all_goals
            go_enter Tryz.func16, Tryz.ntmps16
            go_wp2
            go_ret2
            exact ⟨rfl, rfl⟩
  · have ht : toI x = (0, false) := by
      unfold toI
      rw [if_neg]
      rintro ⟨h, _⟩
      have : 2139095040 < rungN x := by simpa [nanB, rungN] using hb
      omega
    have k1 := order_nan x 3741319168 hb .gt
    have k2 := order_nan x 3741319168 hb .eq
    have k3 := order_nan x 3741319168 hb .lt
    rw [ht]
    go_enter Tryz.func16, Tryz.ntmps16
    go_wp2
    go_ret2
    exact ⟨rfl, rfl⟩
end Go.Proofs.YtgpjmadleaiioaaGreatDoor

/- The document's ToInt. -/
namespace Go.Proofs.YtgpjmadleaiioaaGreatDoor
open Go.RowKit Go.PlainAid

theorem at_val (r : Nat) : atM r * 2 ^ (atE r + 149).toNat = valN r := by
  unfold atM atE valN
  by_cases h : r < 8388608
  · rw [if_pos h, if_pos h, if_pos h]
    show r * 2 ^ 0 = r
    omega
  · rw [if_neg h, if_neg h, if_neg h, show ((r / 8388608 : Nat) - 150 + 149 : Int).toNat = r / 8388608 - 1 by omega]

/-- how the halving and doubling stand: the worth is m times 2 to the power e -/
def Wo (r m : Nat) (e : Int) : Prop := m * 2 ^ (e + 149).toNat = valN r ∧ -149 ≤ e ∧ e ≤ 104 ∧ m < 18446744073709551616

theorem Wo.half {r m : Nat} {e : Int} (h : Wo r m e) (he : e < 0) (hm : m % 2 = 0) : Wo r (m / 2) (e + 1) := by
  obtain ⟨h1, h2, h3, h4⟩ := h
  refine ⟨?_, by omega, by omega, by omega⟩
  rw [show (e + 1 + 149).toNat = (e + 149).toNat + 1 by omega, Nat.pow_succ, Nat.mul_comm (2 ^ _), ← Nat.mul_assoc, show m / 2 * 2 = m by omega]
  exact h1
theorem Wo.dbl {r m : Nat} {e : Int} (h : Wo r m e) (he : 0 < e) (hm : m < 9223372036854775808) : Wo r (m * 2) (e - 1) := by
  obtain ⟨h1, h2, h3, h4⟩ := h
  refine ⟨?_, by omega, by omega, by omega⟩
  have hp : 2 ^ (e + 149).toNat = 2 * 2 ^ (e - 1 + 149).toNat := by rw [show (e + 149).toNat = (e - 1 + 149).toNat + 1 by omega, Nat.pow_succ, Nat.mul_comm]
  rw [Nat.mul_assoc, ← hp]
  exact h1

/-- wholeZ's size -/
theorem whole_abs (x : Nat) (t : Nat) (h : valN (rungN x) = t * 2 ^ 149) : (svalZ x < 0 ∧ 0 < t ∧ wholeZ x = -(t : Int) ∨ ¬ svalZ x < 0 ∧ wholeZ x = (t : Int)) ∧ svalZ x = wholeZ x * 2 ^ 149 := by
  have hd : valN (rungN x) / 2 ^ 149 = t := by rw [h]; exact Nat.mul_div_cancel _ (by decide)
  unfold wholeZ svalZ
  rw [hd, h]
  by_cases hs : x / 2147483648 % 2 = 1
  · rw [if_pos hs, if_pos hs]
    refine ⟨?_, by omega⟩
    by_cases h0 : t = 0
    · subst h0; right; constructor <;> simp
    · left; refine ⟨by omega, by omega, rfl⟩
  · rw [if_neg hs, if_neg hs]
    exact ⟨.inr ⟨by omega, rfl⟩, by omega⟩

theorem toI_zero (x : Nat) (hf : rungN x < 2139095040) (h : valN (rungN x) = 0) : toI x = (0, true) := by
  obtain ⟨h1, h2⟩ := whole_abs x 0 (by simpa using h)
  have hz : wholeZ x = 0 := by rcases h1 with ⟨_, h, _⟩ | ⟨_, h⟩ <;> omega
  unfold toI
  rw [if_pos ⟨hf, h2, by omega, by omega⟩, hz]
theorem sval_abs (x : Nat) : (svalZ x).natAbs = valN (rungN x) := by
  rcases sval_sign x with ⟨e, _⟩ | ⟨e, _, _⟩ <;> rw [e] <;> omega
theorem toI_odd (x m : Nat) (e : Int) (h : Wo (rungN x) m e) (he : e < 0) (hm : m % 2 = 1) : toI x = (0, false) := by
  unfold toI
  rw [if_neg]
  rintro ⟨_, h2, _, _⟩
  have h3 := sval_abs x
  rw [h2, Int.natAbs_mul] at h3
  obtain ⟨h1, hl, _, _⟩ := h
  rw [← h1] at h3
  have hk : 149 = (e + 149).toNat + ((-e).toNat - 1 + 1) := by omega
  have e1 : ((2 : Int) ^ 149).natAbs = 2 ^ ((e + 149).toNat + ((-e).toNat - 1 + 1)) := by rw [← hk]; rfl
  rw [e1, Nat.pow_add, Nat.pow_succ] at h3
  have hp : 0 < 2 ^ (e + 149).toNat := Nat.two_pow_pos _
  have h4 : (wholeZ x).natAbs * (2 ^ ((-e).toNat - 1) * 2) = m := by
    apply Nat.eq_of_mul_eq_mul_right hp
    rw [← h3, Nat.mul_assoc]
    congr 1
    exact Nat.mul_comm _ _
  rw [← Nat.mul_assoc] at h4
  omega
theorem toI_whole (x t : Nat) (hf : rungN x < 2139095040) (h : valN (rungN x) = t * 2 ^ 149) :
    (svalZ x < 0 → t ≤ 9223372036854775808 → toI x = (-(t : Int), true)) ∧ (¬ svalZ x < 0 → t ≤ 9223372036854775807 → toI x = ((t : Int), true)) ∧ (9223372036854775808 < t → toI x = (0, false)) ∧ (¬ svalZ x < 0 → 9223372036854775808 ≤ t → toI x = (0, false)) := by
  obtain ⟨h1, h2⟩ := whole_abs x t h
  unfold toI
  refine ⟨fun a b => ?_, fun a b => ?_, fun a => ?_, fun a b => ?_⟩
  · rcases h1 with ⟨_, _, h⟩ | ⟨h, _⟩
    · rw [if_pos ⟨hf, h2, by omega, by omega⟩, h]
    · exact absurd a h
  · rcases h1 with ⟨h, _, _⟩ | ⟨_, h⟩
    · exact absurd h a
    · rw [if_pos ⟨hf, h2, by omega, by omega⟩, h]
  · rw [if_neg]
    rintro ⟨_, _, h3, h4⟩
    rcases h1 with ⟨_, _, h⟩ | ⟨_, h⟩ <;> omega
  · rw [if_neg]
    rintro ⟨_, _, h3, h4⟩
    rcases h1 with ⟨h, _, _⟩ | ⟨_, h⟩
    · exact absurd h a
    · omega
theorem Wo.zero {r m : Nat} {e : Int} (h : Wo r m e) (hm : m = 0) : valN r = 0 := by rw [← h.1, hm, Nat.zero_mul]
theorem Wo.at0 {r m : Nat} {e : Int} (h : Wo r m e) (he : e = 0) : valN r = m * 2 ^ 149 := by rw [← h.1, he]; rfl
theorem Wo.big {r m : Nat} {e : Int} (h : Wo r m e) (he : 0 < e) (hm : 9223372036854775808 ≤ m) : ∃ t, valN r = t * 2 ^ 149 ∧ 9223372036854775808 < t := by
  refine ⟨m * 2 ^ e.toNat, ?_, ?_⟩
  · rw [← h.1, show (e + 149).toNat = e.toNat + 149 by omega, Nat.pow_add, Nat.mul_assoc]
  · have h1 : 2 ^ 1 ≤ 2 ^ e.toNat := Nat.pow_le_pow_right (by decide) (by omega)
    have h2 : m * 2 ^ 1 ≤ m * 2 ^ e.toNat := Nat.mul_le_mul_left _ h1
    omega
end Go.Proofs.YtgpjmadleaiioaaGreatDoor

/- The document's ToInt: its walk. -/
namespace Go.Proofs.YtgpjmadleaiioaaGreatDoor
open Go.RowKit Go.PlainAid

set_option maxRecDepth 1000000 in
set_option maxHeartbeats 3200000 in
theorem rToInt_any (x : Nat) (hx : x < 4294967296) (w : World) : Calls Tryz.prog 17 #[.float .f32 x] w fun e w' => e = .returned (.tuple #[.int .i64 (toI x).1, .bool (toI x).2]) ∧ Keep [] w w' := by
  have hF := finite_any x hx
  by_cases hf : rungN x < 2139095040
  · rw [show finB x = true by unfold finB; simpa using hf] at hF
    have hb : nanB x = false := by unfold nanB; unfold rungN at hf; simp; omega
    have hNu := number_any x hx hb
    have hA := at_any (rungN x) hf
    have hlt := (ord_facts x 0 hb (by decide)).1
    rw [show svalZ 0 = 0 from rfl] at hlt
    have HW : Hid (Wo (rungN x) (atM (rungN x)) (atE (rungN x))) := (⟨at_val _, (at_bounds _ (by omega)).2.1, by unfold atE; split <;> omega, by have := (at_bounds (rungN x) (by omega)).1; omega⟩ : Wo (rungN x) (atM (rungN x)) (atE (rungN x)))
    have HT : Hid ((∀ m e, Wo (rungN x) m e → m = 0 → toI x = (0, true)) ∧ (∀ m e, Wo (rungN x) m e → e < 0 → m % 2 = 1 → toI x = (0, false)) ∧ (∀ m e, Wo (rungN x) m e → 0 < e → 9223372036854775808 ≤ m → toI x = (0, false)) ∧ (∀ m e, Wo (rungN x) m e → e = 0 → _)) :=
      ⟨fun m e h hm => toI_zero x hf (h.zero hm), fun m e h he hm => toI_odd x m e h he hm, fun m e h he hm => by obtain ⟨t, h1, h2⟩ := h.big he hm; exact (toI_whole x t hf h1).2.2.1 h2, fun m e h he => toI_whole x m hf (h.at0 he)⟩
    generalize toI x = T at *
    clear hb hf
    generalize hM0 : atM (rungN x) = M0 at *
    generalize atE (rungN x) = E0 at *
    clear hM0
    generalize rungN x = r at *
    have HLt : Hid ((FloatKind.f32.format.order x 0 == some Ordering.lt) = decide (svalZ x < 0)) := hlt
    clear hlt
    go_enter Tryz.func17, Tryz.ntmps17
    go_wp2_with (first
      | (go_at_call 35; refine (hF _).mono ?_; rintro e9 w9 ⟨rfl, n9, rfl⟩)
      | (go_at_call 37; refine (hNu _).mono ?_; rintro e9 w9 ⟨rfl, hw9⟩; obtain rfl := hw9.symm)
      | (go_at_call 36; refine (hA _).mono ?_; rintro e9 w9 ⟨rfl, hw9⟩; obtain rfl := hw9.symm))
    go_loop [4, 5] (fun mv ev => ∃ (m : Nat) (e : Int), mv = .int .u64 (m : Int) ∧ ev = .int .i64 e ∧ Hid (Wo r m e)) (fun _ ev => (-(intOf ev)).toNat)
    case atStart => exact ⟨M0, E0, rfl, rfl, HW⟩
    case round =>
      clear HW
      obtain ⟨m, e, rfl, rfl, HI⟩ := hrel
      have b1 : -149 ≤ e := HI.out.2.1
      have b2 : e ≤ 104 := HI.out.2.2.1
      have b3 : (m : Int) < 18446744073709551616 := by have := HI.out.2.2.2; omega
      by_cases he : e < 0
      · by_cases hm2 : m % 2 = 0
        · obtain ⟨q, hq⟩ : ∃ q, m = 2 * q := ⟨m / 2, by omega⟩
          subst hq
          clear hm2
          have hc : ((2 * q : Nat) : Int) = 2 * (q : Int) := by omega
          have t1 : (2 * (q : Int)) % 2 = 0 := by omega
          have t5 : (2 * (q : Int)) / 2 = (q : Int) := by omega
          by_cases hm0 : q = 0
          · have HQ : Hid (T = (0, true)) := HT.out.1 _ _ HI.out (by omega)
            subst hm0
            rw [show ((2 * 0 : Nat) : Int) = 0 from rfl]
            clear hc t1 t5 b3
            go_wp2
            go_ret2
            exact ⟨by rw [HQ.out]; rfl, (Keep.refl _ w).drewN _⟩
          · have HJ : Hid (Wo r q (e + 1)) := by
              have := HI.out.half he (by omega)
              rwa [show 2 * q / 2 = q by omega] at this
            have t2 : (0 : Int) < (q : Int) := by omega
            have t6 : (0 : Int) < 2 * (q : Int) := by omega
            rw [hc] at b3 ⊢
            clear hm0 hc
            go_wp2
            go_round
            case rel => exact ⟨q, e + 1, by go_num, rfl, HJ⟩
            case measure => simp only [intOf]; omega
        · have t1 : ((m : Int) % 2 == 0) = false := by simp; omega
          have t2 : ((m : Int) == 0) = false := by simp; omega
          have HQ : Hid (T = (0, false)) := HT.out.2.1 _ _ HI.out he (by omega)
          go_wp2
          go_ret2
          exact ⟨by rw [HQ.out]; rfl, (Keep.refl _ w).drewN _⟩
      · by_cases hm0 : m = 0
        · have HQ : Hid (T = (0, true)) := HT.out.1 _ _ HI.out hm0
          have t3 : ((m : Int) == 0) = true := by simp; omega
          clear hm0
          go_wp2
          go_ret2
          exact ⟨by rw [HQ.out]; rfl, (Keep.refl _ w).drewN _⟩
        · have t2 : ((m : Int) == 0) = false := by simp; omega
          have t3 : ¬ e < 0 := he
          go_wp2
          go_loop [4, 5] (fun mv ev => ∃ (m : Nat) (e : Int), mv = .int .u64 (m : Int) ∧ ev = .int .i64 e ∧ 0 ≤ e ∧ 0 < m ∧ Hid (Wo r m e)) (fun _ ev => (intOf ev).toNat)
          case atStart => exact ⟨m, e, rfl, rfl, by omega, by omega, HI⟩
          case round =>
            clear HI b1 b2 b3 t2 t3 he hm0
            obtain ⟨m, e, rfl, rfl, he0, hmp, HI⟩ := hrel
            have b2 : e ≤ 104 := HI.out.2.2.1
            have b3 : (m : Int) < 18446744073709551616 := by have := HI.out.2.2.2; omega
            by_cases he : 0 < e
            · by_cases hm : m < 9223372036854775808
              · have t1 : (m : Int) < 9223372036854775808 := by omega
                have HJ : Hid (Wo r (m * 2) (e - 1)) := HI.out.dbl he hm
                go_wp2
                go_round
                case rel => exact ⟨m * 2, e - 1, by go_num, rfl, by omega, by omega, HJ⟩
                case measure => simp only [intOf]; omega
              · have t1 : ¬ (m : Int) < 9223372036854775808 := by omega
                have HQ : Hid (T = (0, false)) := HT.out.2.2.1 _ _ HI.out he (by omega)
                go_wp2
                go_ret2
                exact ⟨by rw [HQ.out]; rfl, (Keep.refl _ w).drewN _⟩
            · obtain rfl : e = 0 := by omega
              obtain ⟨q1, q2, q3, q4⟩ := HT.out.2.2.2 _ _ HI.out rfl
              have hlt := HLt.out
              by_cases hs : svalZ x < 0
              · rw [decide_eq_true hs] at hlt
                by_cases hm : 9223372036854775808 < m
                · have HQ : Hid (T = (0, false)) := q3 hm
                  have t1 : (9223372036854775808 : Int) < (m : Int) := by omega
                  clear q1 q2 q3 q4 he
                  go_wp2
                  go_ret2
                  exact ⟨by rw [HQ.out]; rfl, (Keep.refl _ w).drewN _⟩
                · have HQ : Hid (T = (-((m : Int) - 1) - 1, true)) := show T = (-((m : Int) - 1) - 1, true) by rw [q1 hs (by omega), show -((m : Int) - 1) - 1 = -(m : Int) by omega]
                  have t1 : ¬ (9223372036854775808 : Int) < (m : Int) := by omega
                  have t3 : (1 : Int) ≤ (m : Int) := by omega
                  have t4 : (m : Int) ≤ 9223372036854775808 := by omega
                  clear q1 q2 q3 q4 he
                  by_cases hme : m = 9223372036854775808
                  · have t2 : ((m : Int) == 9223372036854775808) = true := by simp; omega
                    clear hme
                    go_wp2
                    go_ret2
                    exact ⟨by rw [HQ.out]; rfl, (Keep.refl _ w).drewN _⟩
                  · have t2 : ((m : Int) == 9223372036854775808) = false := by simp; omega
                    clear hme
                    go_wp2
                    go_ret2
                    exact ⟨by rw [HQ.out]; rfl, (Keep.refl _ w).drewN _⟩
              · rw [decide_eq_false hs] at hlt
                by_cases hm : 9223372036854775808 ≤ m
                · have HQ : Hid (T = (0, false)) := q4 (by omega) hm
                  clear q1 q2 q3 q4 he
                  by_cases hme : m = 9223372036854775808
                  · have t1 : ¬ (9223372036854775808 : Int) < (m : Int) := by omega
                    have t2 : ((m : Int) == 9223372036854775808) = true := by simp; omega
                    clear hme
                    go_wp2
                    go_ret2
                    exact ⟨by rw [HQ.out]; rfl, (Keep.refl _ w).drewN _⟩
                  · have t1 : (9223372036854775808 : Int) < (m : Int) := by omega
                    clear hme
                    go_wp2
                    go_ret2
                    exact ⟨by rw [HQ.out]; rfl, (Keep.refl _ w).drewN _⟩
                · have HQ : Hid (T = ((m : Int), true)) := q2 (by omega) (by omega)
                  have t1 : ¬ (9223372036854775808 : Int) < (m : Int) := by omega
                  have t2 : ((m : Int) == 9223372036854775808) = false := by simp; omega
                  have t3 : (m : Int) ≤ 9223372036854775807 := by omega
                  clear q1 q2 q3 q4 he
                  go_wp2
                  go_ret2
                  exact ⟨by rw [HQ.out]; rfl, (Keep.refl _ w).drewN _⟩
  · rw [show finB x = false by unfold finB; simpa using hf] at hF
    have ht : toI x = (0, false) := by unfold toI; rw [if_neg (fun h => hf h.1)]
    rw [ht]
    go_enter Tryz.func17, Tryz.ntmps17
    go_wp2_with (first
      | (go_at_call 35; refine (hF _).mono ?_; rintro e9 w9 ⟨rfl, n9, rfl⟩))
    go_ret2
    exact ⟨rfl, (Keep.refl _ w).drewN _⟩
end Go.Proofs.YtgpjmadleaiioaaGreatDoor

/- The walk of the statement on reals beside whole numbers. -/
namespace Go.Proofs.YtgpjmadleaiioaaGreatDoor
open Go.RowKit Go.PlainAid

set_option maxRecDepth 1000000 in
set_option maxHeartbeats 1600000 in
theorem ints_walk (x : Nat) (n : Int) (hx : x < 4294967296) (hn : -9223372036854775808 ≤ n ∧ n ≤ 9223372036854775807) (w : World) (hT : Tabx w) : Calls Tryz.prog 4 #[.float .f32 x, .int .i64 n] w fun e w' => e = .returned (.bool true) ∧ Below w.heap.size w w' := by
  have a1 := compareInt_any x n hn.1 hn.2
  have a2 := rCompareInt_any x n hx hn.1 hn.2
  have a3 := toInt_any x
  have a4 := rToInt_any x hx
  have a5 := fromInt_any n
  have a6 := rFromInt_any n hn.1 hn.2
  have a7 := rSame_any (fromI n) (fromI n) (fromI_lt n) (fromI_lt n)
  rw [same_key _ _ (fromI_lt n) (fromI_lt n), decide_eq_true (Eq.refl _)] at a7
  generalize (cmpXN x n).1 = c at *
  generalize (cmpXN x n).2 = ok at *
  generalize (toI x).1 = k at *
  generalize (toI x).2 = wh at *
  generalize fromI n = R at *
  have t1 : (c != c) = false := by simp
  have t2 : (ok != ok) = false := by simp
  have t3 : (k != k) = false := by simp
  have t4 : (wh != wh) = false := by simp
  go_enter Tryz.func4, Tryz.ntmps4
  go_wp2_with fail
  refine (a1 _).mono ?_
  rintro e9 w9 ⟨rfl, hw9⟩; obtain rfl := hw9.symm
  clear hw9
  go_wp2_with fail
  refine (a2 _).mono ?_
  rintro e9 w1 ⟨rfl, hk1⟩
  go_wp2_with fail
  refine (a3 _).mono ?_
  rintro e9 w9 ⟨rfl, hw9⟩; obtain rfl := hw9.symm
  clear hw9
  go_wp2_with fail
  refine (a4 _).mono ?_
  rintro e9 w2 ⟨rfl, hk2⟩
  go_wp2_with fail
  refine (a5 _).mono ?_
  rintro e9 w9 ⟨rfl, hw9⟩; obtain rfl := hw9.symm
  clear hw9
  go_wp2_with fail
  refine (a6 _).mono ?_
  rintro e9 w3 ⟨rfl, hk3⟩
  have HB : Hid (Below w.heap.size w w3) := ((hk1.trans' hk2).trans' hk3).below
  clear hk1 hk2 hk3
  go_wp2_with fail
  refine (a7 _).mono ?_
  rintro e9 w9 ⟨rfl, hw9⟩; obtain rfl := hw9.symm
  clear hw9
  go_wp2_with fail
  refine (awake_any _ (hT.below HB.out)).mono ?_
  rintro e9 w4 ⟨rfl, hb4⟩
  go_wp2
  go_ret
  exact ⟨rfl, HB.out.trans (hb4.mono HB.out.size)⟩
end Go.Proofs.YtgpjmadleaiioaaGreatDoor
