/- The reference's Float at every number, Number, IsNan, Below, Same. -/
import Derived.Test.YtppimacfeelneaaFltW
import Derived.Test.YtppimacfeelneaaSameV
namespace Go.Proofs.Ytppimacfeelneaa
open Go.RowKit Go.PlainAid Go.Lib

set_option maxHeartbeats 1600000 in
theorem float_over (neg : Bool) (n : Nat) (h : 2139095040 ≤ n) (w : World) : Calls Try.prog 117 #[.bool neg, .int .u32 (n : Int)] w fun e w' => e = .returned (.float .f32 (if neg then 4286578688 else 2139095040)) ∧ w' = w := by
  have h1 : 2139095040 ≤ (n : Int) := by omega
  have hq : ∀ w, (binOp .quo 26 (.float .f32 1065353216) (.float .f32 0)).run Try.prog w = .ok (.float .f32 2139095040) w := fun w => run_float_arith w .quo 26 .f32 _ _ _ (by decide)
  have hng : ∀ w, (Op.unary .neg (.float .f32 2139095040)).run Try.prog w = .ok (.float .f32 4286578688) w := fun w => rfl
  cases neg
  · go_enter Try.func117, Try.ntmps117
    go_wp2
    go_ret
    exact ⟨rfl, rfl⟩
  · go_enter Try.func117, Try.ntmps117
    go_wp2
    go_ret
    exact ⟨rfl, rfl⟩

/-- Float of a number up to the infinite one's -/
theorem float_any (neg : Bool) (n : Nat) (h : n ≤ 2139095040) (w : World) : Calls Try.prog 117 #[.bool neg, .int .u32 (n : Int)] w fun e w' => e = .returned (.float .f32 (if neg then n + 2147483648 else n)) ∧ w' = w := by
  by_cases h1 : n < 2139095040
  · exact float_low neg n h1 w
  · obtain rfl : n = 2139095040 := by omega
    exact float_over neg _ (Nat.le_refl _) w

theorem rlt_any (a b : Nat) (ha : rungN a ≤ 2139095040) (hb : rungN b ≤ 2139095040) : (FloatKind.f32.format.order a b == some Ordering.lt) = decide (srungZ a < srungZ b) := by
  show (Ieee.single.order a b == some Ordering.lt) = _
  rw [order_any, if_neg (by omega)]
  rcases Int.lt_trichotomy (srungZ a) (srungZ b) with h | h | h
  · rw [show compare (srungZ a) (srungZ b) = .lt from Int.compare_eq_lt.2 h, show decide (srungZ a < srungZ b) = true by simpa using h]; rfl
  · rw [show compare (srungZ a) (srungZ b) = .eq from Int.compare_eq_eq.2 h, show decide (srungZ a < srungZ b) = false by simp; omega]; rfl
  · rw [show compare (srungZ a) (srungZ b) = .gt from Int.compare_eq_gt.2 h, show decide (srungZ a < srungZ b) = false by simp; omega]; rfl

theorem req_any (a b : Nat) (ha : rungN a ≤ 2139095040) (hb : rungN b ≤ 2139095040) : (FloatKind.f32.format.order a b == some Ordering.eq) = decide (srungZ a = srungZ b) := by
  show (Ieee.single.order a b == some Ordering.eq) = _
  rw [order_any, if_neg (by omega)]
  rcases Int.lt_trichotomy (srungZ a) (srungZ b) with h | h | h
  · rw [show compare (srungZ a) (srungZ b) = .lt from Int.compare_eq_lt.2 h, show decide (srungZ a = srungZ b) = false by simp; omega]; rfl
  · rw [show compare (srungZ a) (srungZ b) = .eq from Int.compare_eq_eq.2 h, show decide (srungZ a = srungZ b) = true by simpa using h]; rfl
  · rw [show compare (srungZ a) (srungZ b) = .gt from Int.compare_eq_gt.2 h, show decide (srungZ a = srungZ b) = false by simp; omega]; rfl

theorem neg_high (n : Nat) (h : 2147483648 ≤ n) (h2 : n < 4294967296) : Op.negFloat .f32 n = n - 2147483648 := by
  have h3 := neg_low (n - 2147483648) (by omega)
  have h4 : n - 2147483648 + 2147483648 = n := by omega
  rw [h4] at h3
  have h5 : Op.negFloat .f32 n = Op.negFloat .f32 (Op.negFloat .f32 (n - 2147483648)) := by rw [h3]
  rw [h5]
  show (n - 2147483648) ^^^ 2147483648 ^^^ 2147483648 = _
  rw [Nat.xor_assoc, Nat.xor_self, Nat.xor_zero]

theorem srung_low (n : Nat) (h : n < 2147483648) : srungZ n = n ∧ rungN n = n := by
  unfold srungZ rungN
  rw [if_neg (by omega)]
  omega

/-- the halving: a real without sign -/
theorem half_step (lo hi : Nat) (h1 : lo < hi) (h2 : hi ≤ 2139095041) (hd : 1 < hi - lo) : lo < lo + (hi - lo) / 2 ∧ lo + (hi - lo) / 2 < hi := by omega

set_option maxHeartbeats 3200000 in
theorem number_any (x : Nat) (hx : x < 4294967296) (hn : nanB x = false) (w : World) : Calls Try.prog 80 #[.float .f32 x] w fun e w' => e = .returned (.int .u32 (rungN x : Nat)) ∧ w' = w := by
  have hr : rungN x ≤ 2139095040 := by simpa [nanB, rungN] using hn
  have hlt := rlt_any x 0 hr (by decide)
  rw [(srung_low 0 (by decide)).1] at hlt
  have key : ∀ y : Nat, rungN y = rungN x → srungZ y = (rungN x : Nat) → ∀ m : Nat, m ≤ 2139095040 → (FloatKind.f32.format.order m y == some Ordering.lt) = decide (m < rungN x) ∧ (FloatKind.f32.format.order m y == some Ordering.eq) = decide (m = rungN x) := fun y h1 h2 m hm => by
    have p1 : rungN m ≤ 2139095040 := by rw [(srung_low m (by omega)).2]; exact hm
    rw [rlt_any m y p1 (by rw [h1]; exact hr), req_any m y p1 (by rw [h1]; exact hr), (srung_low m (by omega)).1, h2]
    constructor
    · simp
    · simp; omega
  have hF := fun (m : Nat) (hm : m ≤ 2139095040) => float_any false m hm
  simp only [Bool.false_eq_true, if_false] at hF
  by_cases hb : srungZ x < ((0 : Nat) : Int)
  · have hx2 : 2147483648 ≤ x := by
      unfold srungZ at hb
      split at hb <;> omega
    have hng : ∀ w, (Op.unary .neg (.float .f32 x)).run Try.prog w = .ok (.float .f32 (x - 2147483648)) w := fun w => by
      show (pure (Value.float .f32 (Op.negFloat .f32 x)) : Sem Value).run Try.prog w = _
      rw [neg_high x hx2 hx]
      rfl
    have k2 := key (x - 2147483648) (by unfold rungN; omega) (by rw [(srung_low _ (by omega)).1]; unfold rungN; omega)
    rw [show decide (srungZ x < ((0 : Nat) : Int)) = true by simpa using hb] at hlt
    have HK : Hid (∀ m : Nat, m ≤ 2139095040 → (FloatKind.f32.format.order m (x - 2147483648) == some Ordering.lt) = decide (m < rungN x) ∧ (FloatKind.f32.format.order m (x - 2147483648) == some Ordering.eq) = decide (m = rungN x)) := k2
    clear key hb hx2 k2 hn
    generalize rungN x = r at *
    generalize x - 2147483648 = y at *
    have HF : Hid (∀ (m : Nat), m ≤ 2139095040 → ∀ (w : World), Calls Try.prog 117 #[.bool false, .int .u32 (m : Int)] w fun e w' => e = .returned (.float .f32 m) ∧ w' = w) := hF
    clear hF
    go_enter Try.func80, Try.ntmps80
    go_wp2
    go_loop [3, 4] (fun lv hv => ∃ lo hi : Nat, lv = .int .u32 (lo : Int) ∧ hv = .int .u32 (hi : Int) ∧ lo ≤ r ∧ r < hi ∧ hi ≤ 2139095041) (fun lv hv => (intOf hv - intOf lv).toNat)
    case atStart => exact ⟨0, 2139095041, rfl, rfl, Nat.zero_le _, by omega, Nat.le_refl _⟩
    case round =>
      obtain ⟨lo, hi, rfl, rfl, l1, l2, l3⟩ := hrel
      by_cases hd : lo + 1 < hi
      · have hdi : 1 < (hi : Int) - lo := by omega
        obtain ⟨m, hmid⟩ : ∃ m : Nat, m = lo + (hi - lo) / 2 := ⟨_, rfl⟩
        have hfm := HF.out m (by omega)
        obtain ⟨k1, k2⟩ := HK.out m (by omega)
        have hmz : (m : Int) = (lo : Int) + ((hi : Int) - lo) / 2 := by omega
        have HZ : Hid ((m : Int) = (lo : Int) + ((hi : Int) - lo) / 2 ∧ lo < m ∧ m < hi) := ⟨hmz, by omega, by omega⟩
        rw [hmz] at hfm
        clear hmz hmid
        rcases Nat.lt_trichotomy m r with hle | hle | hle
        · rw [show decide (m < r) = true by simpa using hle] at k1
          clear k2
          go_wp2_with (go_at_call 117; refine (hfm _).mono ?_; rintro e9 w9 ⟨rfl, hw9⟩; obtain rfl := hw9.symm)
          go_round
          case rel => exact ⟨m, hi, by rw [HZ.out.1], rfl, by omega, l2, l3⟩
          case measure => have := HZ.out; simp only [intOf]; omega
        · rw [show decide (m < r) = false by simp; omega] at k1
          rw [show decide (m = r) = true by simpa using hle] at k2
          have HL : Hid (m = r) := hle
          clear hle
          go_wp2_with (go_at_call 117; refine (hfm _).mono ?_; rintro e9 w9 ⟨rfl, hw9⟩; obtain rfl := hw9.symm)
          go_round
          case rel => exact ⟨m, hi, by rw [HZ.out.1], rfl, by have := HL.out; omega, l2, l3⟩
          case measure => have := HZ.out; simp only [intOf]; omega
        · rw [show decide (m < r) = false by simp; omega] at k1
          rw [show decide (m = r) = false by simp; omega] at k2
          go_wp2_with (go_at_call 117; refine (hfm _).mono ?_; rintro e9 w9 ⟨rfl, hw9⟩; obtain rfl := hw9.symm)
          go_round
          case rel => exact ⟨lo, m, rfl, by rw [HZ.out.1], l1, by omega, by have := HZ.out; omega⟩
          case measure => have := HZ.out; simp only [intOf]; omega
      · have hdi : ¬ 1 < (hi : Int) - lo := by omega
        obtain rfl : lo = r := by omega
        go_wp2
        go_ret
        exact ⟨rfl, rfl⟩
  · rw [show decide (srungZ x < ((0 : Nat) : Int)) = false by simpa using hb] at hlt
    have k2 := key x rfl (by unfold srungZ at hb ⊢; split at hb <;> simp_all <;> omega)
    have HK : Hid (∀ m : Nat, m ≤ 2139095040 → (FloatKind.f32.format.order m x == some Ordering.lt) = decide (m < rungN x) ∧ (FloatKind.f32.format.order m x == some Ordering.eq) = decide (m = rungN x)) := k2
    clear key hb k2 hn
    generalize rungN x = r at *
    have HF : Hid (∀ (m : Nat), m ≤ 2139095040 → ∀ (w : World), Calls Try.prog 117 #[.bool false, .int .u32 (m : Int)] w fun e w' => e = .returned (.float .f32 m) ∧ w' = w) := hF
    clear hF
    go_enter Try.func80, Try.ntmps80
    go_wp2
    go_loop [3, 4] (fun lv hv => ∃ lo hi : Nat, lv = .int .u32 (lo : Int) ∧ hv = .int .u32 (hi : Int) ∧ lo ≤ r ∧ r < hi ∧ hi ≤ 2139095041) (fun lv hv => (intOf hv - intOf lv).toNat)
    case atStart => exact ⟨0, 2139095041, rfl, rfl, Nat.zero_le _, by omega, Nat.le_refl _⟩
    case round =>
      obtain ⟨lo, hi, rfl, rfl, l1, l2, l3⟩ := hrel
      by_cases hd : lo + 1 < hi
      · have hdi : 1 < (hi : Int) - lo := by omega
        obtain ⟨m, hmid⟩ : ∃ m : Nat, m = lo + (hi - lo) / 2 := ⟨_, rfl⟩
        have hfm := HF.out m (by omega)
        obtain ⟨k1, k2⟩ := HK.out m (by omega)
        have hmz : (m : Int) = (lo : Int) + ((hi : Int) - lo) / 2 := by omega
        have HZ : Hid ((m : Int) = (lo : Int) + ((hi : Int) - lo) / 2 ∧ lo < m ∧ m < hi) := ⟨hmz, by omega, by omega⟩
        rw [hmz] at hfm
        clear hmz hmid
        rcases Nat.lt_trichotomy m r with hle | hle | hle
        · rw [show decide (m < r) = true by simpa using hle] at k1
          clear k2
          go_wp2_with (go_at_call 117; refine (hfm _).mono ?_; rintro e9 w9 ⟨rfl, hw9⟩; obtain rfl := hw9.symm)
          go_round
          case rel => exact ⟨m, hi, by rw [HZ.out.1], rfl, by omega, l2, l3⟩
          case measure => have := HZ.out; simp only [intOf]; omega
        · rw [show decide (m < r) = false by simp; omega] at k1
          rw [show decide (m = r) = true by simpa using hle] at k2
          have HL : Hid (m = r) := hle
          clear hle
          go_wp2_with (go_at_call 117; refine (hfm _).mono ?_; rintro e9 w9 ⟨rfl, hw9⟩; obtain rfl := hw9.symm)
          go_round
          case rel => exact ⟨m, hi, by rw [HZ.out.1], rfl, by have := HL.out; omega, l2, l3⟩
          case measure => have := HZ.out; simp only [intOf]; omega
        · rw [show decide (m < r) = false by simp; omega] at k1
          rw [show decide (m = r) = false by simp; omega] at k2
          go_wp2_with (go_at_call 117; refine (hfm _).mono ?_; rintro e9 w9 ⟨rfl, hw9⟩; obtain rfl := hw9.symm)
          go_round
          case rel => exact ⟨lo, m, rfl, by rw [HZ.out.1], l1, by omega, by have := HZ.out; omega⟩
          case measure => have := HZ.out; simp only [intOf]; omega
      · have hdi : ¬ 1 < (hi : Int) - lo := by omega
        obtain rfl : lo = r := by omega
        go_wp2
        go_ret
        exact ⟨rfl, rfl⟩

end Go.Proofs.Ytppimacfeelneaa
