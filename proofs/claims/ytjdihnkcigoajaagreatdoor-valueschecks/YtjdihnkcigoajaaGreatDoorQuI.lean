/- The reference's At and Float: the real of a number. -/
import Derived.Test.YtjdihnkcigoajaaGreatDoorUsE
import Derived.Test.YtjdihnkcigoajaaGreatDoorSameR
import Derived.Test.YtjdihnkcigoajaaGreatDoorTxQ
import Derived.Test.YtjdihnkcigoajaaGreatDoorDcT

namespace Go.Proofs.YtjdihnkcigoajaaGreatDoor
open Go.RowKit Go.PlainAid Go.Lib

theorem at_any (n : Nat) (h : n < 2139095040) (w : World) : Calls Tryz.prog 71 #[.int .u32 (n : Int)] w fun e w' => e = .returned (.tuple #[.int .u64 (atM n : Nat), .int .i64 (atE n)]) ∧ w' = w := by
  by_cases hs : n < 8388608
  · have h1 : (n : Int) < 8388608 := by omega
    have hM : atM n = n := by unfold atM; rw [if_pos hs]
    have hE : atE n = -149 := by unfold atE; rw [if_pos hs]
    rw [hM, hE]
    go_enter Tryz.func71, Tryz.ntmps71
    go_wp2
    go_ret2
    refine ⟨?_, rfl⟩
    go_num
  · have h1 : ¬ (n : Int) < 8388608 := by omega
    have hM : atM n = 8388608 + n % 8388608 := by unfold atM; rw [if_neg hs]
    have hE : atE n = (n / 8388608 : Nat) - 150 := by unfold atE; rw [if_neg hs]
    rw [hM, hE]
    go_enter Tryz.func71, Tryz.ntmps71
    go_wp2
    go_ret2
    refine ⟨?_, rfl⟩
    go_num


theorem u64f64 (m : Nat) (w : World) : (convert 52 115 (.int .u64 (m : Int))).run Tryz.prog w = .ok (.float .f64 (floatOfInt .f64 (m : Int))) w := run_convert_int_float w 52 115 .u64 .f64 m (by kernel_rfl) Tryz.underlying115

theorem neg_low (n : Nat) (h : n < 2147483648) : Op.negFloat .f32 n = n + 2147483648 := by
  show n ^^^ 2147483648 = _
  rw [show (2147483648 : Nat) = 2 ^ 31 from rfl]
  have h2 : n ^^^ 2 ^ 31 = n ||| 2 ^ 31 := by
    apply Nat.eq_of_testBit_eq
    intro i
    rw [Nat.testBit_xor, Nat.testBit_or, Nat.testBit_two_pow]
    by_cases hi : 31 = i
    · subst hi
      rw [Nat.testBit_lt_two_pow (show n < 2 ^ 31 from h)]
      rfl
    · rw [show decide (31 = i) = false by simpa using hi]
      cases n.testBit i <;> rfl
  have h3 := Nat.two_pow_add_eq_or_of_lt (show n < 2 ^ 31 from h) 1
  rw [Nat.mul_one] at h3
  rw [h2, Nat.or_comm, ← h3]
  omega

set_option maxHeartbeats 1600000 in
theorem float_low (neg : Bool) (n : Nat) (h : n < 2139095040) (w : World) : Calls Tryz.prog 70 #[.bool neg, .int .u32 (n : Int)] w fun e w' => e = .returned (.float .f32 (if neg then n + 2147483648 else n)) ∧ w' = w := by
  have hA := at_any n h
  have h1 : ¬ (2139095040 ≤ (n : Int)) := by omega
  have hc := u64f64 (atM n)
  rw [fD_start] at hc
  have hm : ∀ (k : Int), 0 ≤ k → k < 104 → ∀ w, (binOp .mul 115 (.float .f64 (fD n k)) (.float .f64 4611686018427387904)).run Tryz.prog w = .ok (.float .f64 (fD n (k + 1))) w := fun k p q w => run_float_arith w .mul 115 .f64 _ _ _ (fD_mul n k p q)
  have hd : ∀ (k : Int), -149 ≤ k → k ≤ 104 → ∀ w, (binOp .quo 115 (.float .f64 (fD n k)) (.float .f64 4611686018427387904)).run Tryz.prog w = .ok (.float .f64 (fD n (k - 1))) w := fun k p q w => run_float_arith w .quo 115 .f64 _ _ _ (fD_div n k p q)
  have he : ∀ w, (convert 115 22 (.float .f64 (fD n (atE n)))).run Tryz.prog w = .ok (.float .f32 n) w := fun w => run_convert_float_float w 115 22 .f64 .f32 _ _ (by kernel_rfl) Tryz.underlying22 (fD_end n h)
  have hn := neg_low n (by omega)
  have a1 := atE_lo n
  have a2 := atE_hi n h
  generalize atE n = E at *
  generalize atM n = M at *
  generalize fD n = F at *
  have HM : Hid (∀ (k : Int), 0 ≤ k → k < 104 → ∀ w, (binOp .mul 115 (.float .f64 (F k)) (.float .f64 4611686018427387904)).run Tryz.prog w = .ok (.float .f64 (F (k + 1))) w) := hm
  have HD : Hid (∀ (k : Int), -149 ≤ k → k ≤ 104 → ∀ w, (binOp .quo 115 (.float .f64 (F k)) (.float .f64 4611686018427387904)).run Tryz.prog w = .ok (.float .f64 (F (k - 1))) w) := hd
  have HE : Hid (∀ w, (convert 115 22 (.float .f64 (F E))).run Tryz.prog w = .ok (.float .f32 n) w) := he
  have HN : Hid (Op.negFloat .f32 n = n + 2147483648) := hn
  clear hm hd he hn h
  go_enter Tryz.func70, Tryz.ntmps70
  go_wp2_with (first | (go_at_call 71; refine (hA _).mono ?_; rintro e9 w9 ⟨rfl, hw9⟩; obtain rfl := hw9.symm))
  go_loop [9, 10] (fun fv iv => ∃ k : Nat, iv = .int .i64 (k : Int) ∧ fv = .float .f64 (F (k : Int)) ∧ (k = 0 ∨ (k : Int) ≤ E)) (fun _ iv => (E - RowKit.intOf iv).toNat)
  case atStart => exact ⟨0, rfl, rfl, .inl rfl⟩
  case round =>
    obtain ⟨k, rfl, rfl, hk⟩ := hrel
    by_cases hlt : (k : Int) < E
    · have hmk := HM.out (k : Int) (by omega) (by omega)
      go_wp2
      go_round
      case rel => exact ⟨k + 1, by go_num, rfl, .inr (by omega)⟩
      case measure => simp [RowKit.intOf]; omega
    · go_wp2
      go_loop [9, 11] (fun fv iv => ∃ i : Int, iv = .int .i64 i ∧ E ≤ i ∧ (i ≤ 0 ∨ i = E) ∧ fv = .float .f64 (F ((k : Int) + E - i))) (fun _ iv => (- RowKit.intOf iv).toNat)
      case atStart => exact ⟨E, rfl, by omega, .inr rfl, by rw [show (k : Int) + E - E = k by omega]⟩
      case round =>
        obtain ⟨i, rfl, hi1, hi2, rfl⟩ := hrel
        by_cases hi : i < 0
        · have hdk := HD.out ((k : Int) + E - i) (by omega) (by omega)
          go_wp2
          go_round
          case rel => exact ⟨i + 1, by go_num, by omega, .inl (by omega), by rw [show (k : Int) + E - i - 1 = k + E - (i + 1) by omega]⟩
          case measure => simp [RowKit.intOf]; omega
        · have hce := HE.out
          rw [show (k : Int) + E - i = E by omega]
          have hng : ∀ w, (Op.unary .neg (.float .f32 n)).run Tryz.prog w = .ok (.float .f32 (n + 2147483648)) w := fun w => by
            show (pure (Value.float .f32 (Op.negFloat .f32 n)) : Sem Value).run Tryz.prog w = _
            rw [HN.out]
            rfl
          cases neg
          · go_wp2
            go_ret
            exact ⟨rfl, rfl⟩
          · go_wp2
            go_ret
            exact ⟨rfl, rfl⟩

end Go.Proofs.YtjdihnkcigoajaaGreatDoor



/- The reference's Float at every number, Number, IsNan, Below, Same. -/
namespace Go.Proofs.YtjdihnkcigoajaaGreatDoor
open Go.RowKit Go.PlainAid Go.Lib

set_option maxHeartbeats 1600000 in
theorem float_over (neg : Bool) (n : Nat) (h : 2139095040 ≤ n) (w : World) : Calls Tryz.prog 70 #[.bool neg, .int .u32 (n : Int)] w fun e w' => e = .returned (.float .f32 (if neg then 4286578688 else 2139095040)) ∧ w' = w := by
  have h1 : 2139095040 ≤ (n : Int) := by omega
  have hq : ∀ w, (binOp .quo 22 (.float .f32 1065353216) (.float .f32 0)).run Tryz.prog w = .ok (.float .f32 2139095040) w := fun w => run_float_arith w .quo 22 .f32 _ _ _ (by decide)
  have hng : ∀ w, (Op.unary .neg (.float .f32 2139095040)).run Tryz.prog w = .ok (.float .f32 4286578688) w := fun w => rfl
  cases neg
  · go_enter Tryz.func70, Tryz.ntmps70
    go_wp2
    go_ret
    exact ⟨rfl, rfl⟩
  · go_enter Tryz.func70, Tryz.ntmps70
    go_wp2
    go_ret
    exact ⟨rfl, rfl⟩

/-- Float of a number up to the infinite one's -/
theorem float_any (neg : Bool) (n : Nat) (h : n ≤ 2139095040) (w : World) : Calls Tryz.prog 70 #[.bool neg, .int .u32 (n : Int)] w fun e w' => e = .returned (.float .f32 (if neg then n + 2147483648 else n)) ∧ w' = w := by
  by_cases h1 : n < 2139095040
  · exact float_low neg n h1 w
  · obtain rfl : n = 2139095040 := by omega
    exact float_over neg _ (Nat.le_refl _) w

theorem rlt_any (a b : Nat) (ha : rungN a ≤ 2139095040) (hb : rungN b ≤ 2139095040) : (FloatKind.f32.format.order a b == some Ordering.lt) = decide (srungZ a < srungZ b) := by
  show (Ieee.single.order a b == some Ordering.lt) = _
  rw [order_any, if_neg (by omega)]
  rcases Int.lt_trichotomy (srungZ a) (srungZ b) with h | h | h
  · rw [show compare (srungZ a) (srungZ b) = .lt from Int.compare_eq_lt.2 h, show decide (srungZ a < srungZ b) = true by simpa using h]; rfl
  · rw [show compare (srungZ a) (srungZ b) = .eq from Int.compare_eq_eq.2 h, show decide (srungZ a < srungZ b) = false by simp; omega]; rfl
  · rw [show compare (srungZ a) (srungZ b) = .gt from Int.compare_eq_gt.2 h, show decide (srungZ a < srungZ b) = false by simp; omega]; rfl

theorem req_any (a b : Nat) (ha : rungN a ≤ 2139095040) (hb : rungN b ≤ 2139095040) : (FloatKind.f32.format.order a b == some Ordering.eq) = decide (srungZ a = srungZ b) := by
  show (Ieee.single.order a b == some Ordering.eq) = _
  rw [order_any, if_neg (by omega)]
  rcases Int.lt_trichotomy (srungZ a) (srungZ b) with h | h | h
  · rw [show compare (srungZ a) (srungZ b) = .lt from Int.compare_eq_lt.2 h, show decide (srungZ a = srungZ b) = false by simp; omega]; rfl
  · rw [show compare (srungZ a) (srungZ b) = .eq from Int.compare_eq_eq.2 h, show decide (srungZ a = srungZ b) = true by simpa using h]; rfl
  · rw [show compare (srungZ a) (srungZ b) = .gt from Int.compare_eq_gt.2 h, show decide (srungZ a = srungZ b) = false by simp; omega]; rfl

theorem neg_high (n : Nat) (h : 2147483648 ≤ n) (h2 : n < 4294967296) : Op.negFloat .f32 n = n - 2147483648 := by
  have h3 := neg_low (n - 2147483648) (by omega)
  have h4 : n - 2147483648 + 2147483648 = n := by omega
  rw [h4] at h3
  have h5 : Op.negFloat .f32 n = Op.negFloat .f32 (Op.negFloat .f32 (n - 2147483648)) := by rw [h3]
  rw [h5]
  show (n - 2147483648) ^^^ 2147483648 ^^^ 2147483648 = _
  rw [Nat.xor_assoc, Nat.xor_self, Nat.xor_zero]

theorem srung_low (n : Nat) (h : n < 2147483648) : srungZ n = n ∧ rungN n = n := by
  unfold srungZ rungN
  rw [if_neg (by omega)]
  omega

/-- the halving: a real without sign -/
theorem half_step (lo hi : Nat) (h1 : lo < hi) (h2 : hi ≤ 2139095041) (hd : 1 < hi - lo) : lo < lo + (hi - lo) / 2 ∧ lo + (hi - lo) / 2 < hi := by omega

set_option maxHeartbeats 3200000 in
theorem number_any (x : Nat) (hx : x < 4294967296) (hn : nanB x = false) (w : World) : Calls Tryz.prog 49 #[.float .f32 x] w fun e w' => e = .returned (.int .u32 (rungN x : Nat)) ∧ w' = w := by
  have hr : rungN x ≤ 2139095040 := by simpa [nanB, rungN] using hn
  have hlt := rlt_any x 0 hr (by decide)
  rw [(srung_low 0 (by decide)).1] at hlt
  have key : ∀ y : Nat, rungN y = rungN x → srungZ y = (rungN x : Nat) → ∀ m : Nat, m ≤ 2139095040 → (FloatKind.f32.format.order m y == some Ordering.lt) = decide (m < rungN x) ∧ (FloatKind.f32.format.order m y == some Ordering.eq) = decide (m = rungN x) := fun y h1 h2 m hm => by
    have p1 : rungN m ≤ 2139095040 := by rw [(srung_low m (by omega)).2]; exact hm
    rw [rlt_any m y p1 (by rw [h1]; exact hr), req_any m y p1 (by rw [h1]; exact hr), (srung_low m (by omega)).1, h2]
    constructor
    · simp
    · simp; omega
  have hF := fun (m : Nat) (hm : m ≤ 2139095040) => float_any false m hm
  simp only [Bool.false_eq_true, if_false] at hF
  by_cases hb : srungZ x < ((0 : Nat) : Int)
  · have hx2 : 2147483648 ≤ x := by
      unfold srungZ at hb
      split at hb <;> omega
    have hng : ∀ w, (Op.unary .neg (.float .f32 x)).run Tryz.prog w = .ok (.float .f32 (x - 2147483648)) w := fun w => by
      show (pure (Value.float .f32 (Op.negFloat .f32 x)) : Sem Value).run Tryz.prog w = _
      rw [neg_high x hx2 hx]
      rfl
    have k2 := key (x - 2147483648) (by unfold rungN; omega) (by rw [(srung_low _ (by omega)).1]; unfold rungN; omega)
    rw [show decide (srungZ x < ((0 : Nat) : Int)) = true by simpa using hb] at hlt
    have HK : Hid (∀ m : Nat, m ≤ 2139095040 → (FloatKind.f32.format.order m (x - 2147483648) == some Ordering.lt) = decide (m < rungN x) ∧ (FloatKind.f32.format.order m (x - 2147483648) == some Ordering.eq) = decide (m = rungN x)) := k2
    clear key hb hx2 k2 hn
    generalize rungN x = r at *
    generalize x - 2147483648 = y at *
    have HF : Hid (∀ (m : Nat), m ≤ 2139095040 → ∀ (w : World), Calls Tryz.prog 70 #[.bool false, .int .u32 (m : Int)] w fun e w' => e = .returned (.float .f32 m) ∧ w' = w) := hF
    clear hF
    go_enter Tryz.func49, Tryz.ntmps49
    go_wp2
    go_loop [3, 4] (fun lv hv => ∃ lo hi : Nat, lv = .int .u32 (lo : Int) ∧ hv = .int .u32 (hi : Int) ∧ lo ≤ r ∧ r < hi ∧ hi ≤ 2139095041) (fun lv hv => (RowKit.intOf hv - RowKit.intOf lv).toNat)
    case atStart => exact ⟨0, 2139095041, rfl, rfl, Nat.zero_le _, by omega, Nat.le_refl _⟩
    case round =>
      obtain ⟨lo, hi, rfl, rfl, l1, l2, l3⟩ := hrel
      by_cases hd : lo + 1 < hi
      · have hdi : 1 < (hi : Int) - lo := by omega
        obtain ⟨m, hmid⟩ : ∃ m : Nat, m = lo + (hi - lo) / 2 := ⟨_, rfl⟩
        have hfm := HF.out m (by omega)
        obtain ⟨k1, k2⟩ := HK.out m (by omega)
        have hmz : (m : Int) = (lo : Int) + ((hi : Int) - lo) / 2 := by omega
        have HZ : Hid ((m : Int) = (lo : Int) + ((hi : Int) - lo) / 2 ∧ lo < m ∧ m < hi) := ⟨hmz, by omega, by omega⟩
        rw [hmz] at hfm
        clear hmz hmid
        rcases Nat.lt_trichotomy m r with hle | hle | hle
        · rw [show decide (m < r) = true by simpa using hle] at k1
          clear k2
          go_wp2_with (go_at_call 70; refine (hfm _).mono ?_; rintro e9 w9 ⟨rfl, hw9⟩; obtain rfl := hw9.symm)
          go_round
          case rel => exact ⟨m, hi, by rw [HZ.out.1], rfl, by omega, l2, l3⟩
          case measure => have := HZ.out; simp only [RowKit.intOf]; omega
        · rw [show decide (m < r) = false by simp; omega] at k1
          rw [show decide (m = r) = true by simpa using hle] at k2
          have HL : Hid (m = r) := hle
          clear hle
          go_wp2_with (go_at_call 70; refine (hfm _).mono ?_; rintro e9 w9 ⟨rfl, hw9⟩; obtain rfl := hw9.symm)
          go_round
          case rel => exact ⟨m, hi, by rw [HZ.out.1], rfl, by have := HL.out; omega, l2, l3⟩
          case measure => have := HZ.out; simp only [RowKit.intOf]; omega
        · rw [show decide (m < r) = false by simp; omega] at k1
          rw [show decide (m = r) = false by simp; omega] at k2
          go_wp2_with (go_at_call 70; refine (hfm _).mono ?_; rintro e9 w9 ⟨rfl, hw9⟩; obtain rfl := hw9.symm)
          go_round
          case rel => exact ⟨lo, m, rfl, by rw [HZ.out.1], l1, by omega, by have := HZ.out; omega⟩
          case measure => have := HZ.out; simp only [RowKit.intOf]; omega
      · have hdi : ¬ 1 < (hi : Int) - lo := by omega
        obtain rfl : lo = r := by omega
        go_wp2
        go_ret
        exact ⟨rfl, rfl⟩
  · rw [show decide (srungZ x < ((0 : Nat) : Int)) = false by simpa using hb] at hlt
    have k2 := key x rfl (by unfold srungZ at hb ⊢; split at hb <;> simp_all <;> omega)
    have HK : Hid (∀ m : Nat, m ≤ 2139095040 → (FloatKind.f32.format.order m x == some Ordering.lt) = decide (m < rungN x) ∧ (FloatKind.f32.format.order m x == some Ordering.eq) = decide (m = rungN x)) := k2
    clear key hb k2 hn
    generalize rungN x = r at *
    have HF : Hid (∀ (m : Nat), m ≤ 2139095040 → ∀ (w : World), Calls Tryz.prog 70 #[.bool false, .int .u32 (m : Int)] w fun e w' => e = .returned (.float .f32 m) ∧ w' = w) := hF
    clear hF
    go_enter Tryz.func49, Tryz.ntmps49
    go_wp2
    go_loop [3, 4] (fun lv hv => ∃ lo hi : Nat, lv = .int .u32 (lo : Int) ∧ hv = .int .u32 (hi : Int) ∧ lo ≤ r ∧ r < hi ∧ hi ≤ 2139095041) (fun lv hv => (RowKit.intOf hv - RowKit.intOf lv).toNat)
    case atStart => exact ⟨0, 2139095041, rfl, rfl, Nat.zero_le _, by omega, Nat.le_refl _⟩
    case round =>
      obtain ⟨lo, hi, rfl, rfl, l1, l2, l3⟩ := hrel
      by_cases hd : lo + 1 < hi
      · have hdi : 1 < (hi : Int) - lo := by omega
        obtain ⟨m, hmid⟩ : ∃ m : Nat, m = lo + (hi - lo) / 2 := ⟨_, rfl⟩
        have hfm := HF.out m (by omega)
        obtain ⟨k1, k2⟩ := HK.out m (by omega)
        have hmz : (m : Int) = (lo : Int) + ((hi : Int) - lo) / 2 := by omega
        have HZ : Hid ((m : Int) = (lo : Int) + ((hi : Int) - lo) / 2 ∧ lo < m ∧ m < hi) := ⟨hmz, by omega, by omega⟩
        rw [hmz] at hfm
        clear hmz hmid
        rcases Nat.lt_trichotomy m r with hle | hle | hle
        · rw [show decide (m < r) = true by simpa using hle] at k1
          clear k2
          go_wp2_with (go_at_call 70; refine (hfm _).mono ?_; rintro e9 w9 ⟨rfl, hw9⟩; obtain rfl := hw9.symm)
          go_round
          case rel => exact ⟨m, hi, by rw [HZ.out.1], rfl, by omega, l2, l3⟩
          case measure => have := HZ.out; simp only [RowKit.intOf]; omega
        · rw [show decide (m < r) = false by simp; omega] at k1
          rw [show decide (m = r) = true by simpa using hle] at k2
          have HL : Hid (m = r) := hle
          clear hle
          go_wp2_with (go_at_call 70; refine (hfm _).mono ?_; rintro e9 w9 ⟨rfl, hw9⟩; obtain rfl := hw9.symm)
          go_round
          case rel => exact ⟨m, hi, by rw [HZ.out.1], rfl, by have := HL.out; omega, l2, l3⟩
          case measure => have := HZ.out; simp only [RowKit.intOf]; omega
        · rw [show decide (m < r) = false by simp; omega] at k1
          rw [show decide (m = r) = false by simp; omega] at k2
          go_wp2_with (go_at_call 70; refine (hfm _).mono ?_; rintro e9 w9 ⟨rfl, hw9⟩; obtain rfl := hw9.symm)
          go_round
          case rel => exact ⟨lo, m, rfl, by rw [HZ.out.1], l1, by omega, by have := HZ.out; omega⟩
          case measure => have := HZ.out; simp only [RowKit.intOf]; omega
      · have hdi : ¬ 1 < (hi : Int) - lo := by omega
        obtain rfl : lo = r := by omega
        go_wp2
        go_ret
        exact ⟨rfl, rfl⟩

end Go.Proofs.YtjdihnkcigoajaaGreatDoor



/- The program's Text, of every float32. -/
namespace Go.Proofs.YtjdihnkcigoajaaGreatDoor
open Go.RowKit Go.PlainAid

/-- the text of the real of number n: 0, one above it, the infinite one -/
def textU (n : Nat) : List UInt8 := if n = 0 then [48, 46, 48] else if n = 2139095040 then [105, 110, 102] else textB n
/-- the text of any real -/
def textR (x : Nat) : List UInt8 := if nanB x = true then [110, 97, 110] else if belowB x = true then 45 :: textU (x - 2147483648) else textU x
theorem plainB_len (l : List UInt8) (k : Int) (hl : l.length ≤ 20) (hk : -100 ≤ k ∧ k ≤ 100) : (plainB l k).length ≤ 300 := by
  unfold plainB
  split
  · simp only [List.length_append, List.length_replicate, List.length_cons, List.length_nil]
    omega
  · split
    · simp only [List.length_append, List.length_replicate, List.length_cons, List.length_nil]
      omega
    · simp only [List.length_append, List.length_take, List.length_drop, List.length_cons, List.length_nil]
      omega
theorem textU_len (n : Nat) (h2 : n ≤ 2139095040) : (textU n).length ≤ 300 := by
  unfold textU
  split
  · decide
  · split
    · decide
    · have h1 : 1 ≤ n := by omega
      have h3 : n < 2139095040 := by omega
      have hl := digs_len n h1 h3
      have hb := ndF_le n h1 h3
      have hE := exF_bounds n h1 h3
      have hi := itoa_len (exF n) hE
      unfold textB
      split
      · have ho := orB_len ((digs n).drop 1)
        rw [List.length_drop] at ho
        simp only [List.length_append, List.length_take, List.length_cons, List.length_nil]
        omega
      · exact plainB_len _ _ (by omega) (by omega)
set_option maxRecDepth 1000000 in
theorem textAbove_all (n : Nat) (h2 : n ≤ 2139095040) (w : World) (hT : TabV w) : Calls Tryz.prog 58 #[.float .f32 n] w fun e w' => (∃ T : ByteArray, e = .returned (.string T) ∧ T.data.toList = textU n) ∧ Below w.heap.size w w' := by
  by_cases h0 : n = 0
  · subst h0
    have k1 : (FloatKind.f32.format.order 0 0 == some Ordering.eq) = true := by decide
    go_enter Tryz.func58, Tryz.ntmps58
    go_wp2
    go_ret
    exact ⟨⟨_, rfl, rfl⟩, Below.refl _ _⟩
  · by_cases h1 : n = 2139095040
    · subst h1
      have k1 : (FloatKind.f32.format.order 2139095040 0 == some Ordering.eq) = false := by decide
      have k2 : (FloatKind.f32.format.order 2139095040 2139095040 == some Ordering.eq) = true := by decide
      have hI := infinite_any false
      simp only [Bool.false_eq_true, if_false] at hI
      go_enter Tryz.func58, Tryz.ntmps58
      go_wp2_with (first
        | (go_at_call 77; refine (hI _).mono ?_; rintro e9 w9 ⟨rfl, hw9⟩; obtain rfl := hw9.symm))
      go_ret
      exact ⟨⟨_, rfl, rfl⟩, Below.refl _ _⟩
    · have e : textU n = textB n := by unfold textU; rw [if_neg h0, if_neg h1]
      rw [e]
      exact textAbove_any n (by omega) (by omega) w hT
set_option maxRecDepth 1000000 in
theorem text_any (x : Nat) (hx : x < 4294967296) (w : World) (hT : TabV w) : Calls Tryz.prog 35 #[.float .f32 x] w fun e w' => (∃ T : ByteArray, e = .returned (.string T) ∧ T.data.toList = textR x) ∧ Below w.heap.size w w' := by
  have hN := isNan_any x
  have hB := below0_any x hx
  by_cases hn : nanB x = true
  · have hR : textR x = [110, 97, 110] := by unfold textR; rw [if_pos hn]
    rw [hn] at hN
    rw [hR]
    clear hB
    go_enter Tryz.func35, Tryz.ntmps35
    go_wp2_with (first
      | (go_at_call 56; refine (hN _).mono ?_; rintro e9 w9 ⟨rfl, hw9⟩; obtain rfl := hw9.symm))
    go_ret
    exact ⟨⟨_, rfl, rfl⟩, Below.refl _ _⟩
  · have hn0 : nanB x = false := by simpa using hn
    have hle : x % 2147483648 ≤ 2139095040 := by
      unfold nanB at hn0
      have := of_decide_eq_false hn0
      omega
    rw [hn0] at hN
    by_cases hb : belowB x = true
    · have hx31 : 2147483648 ≤ x := by
        unfold belowB at hb
        simp at hb
        omega
      have hR : Hid (textR x = 45 :: textU (x - 2147483648)) := by show _ = _; unfold textR; rw [if_neg hn, if_pos hb]
      have hng : ∀ w, (Op.unary .neg (.float .f32 x)).run Tryz.prog w = .ok (.float .f32 (x - 2147483648)) w := fun w => by
        show Sem.run Tryz.prog (pure (Value.float .f32 (Op.negFloat .f32 x))) w = _
        rw [neg_high x hx31 hx]
        rfl
      have hle2 : x - 2147483648 ≤ 2139095040 := by omega
      have hA := textAbove_all (x - 2147483648) hle2 w hT
      have hlen := textU_len (x - 2147483648) hle2
      rw [hb] at hB
      generalize x - 2147483648 = y at *
      have HL : Hid (∀ T : ByteArray, T.data.toList = textU y → T.size ≤ 300) := fun T h => by
        have h3 : T.data.toList.length = T.size := Array.length_toList
        rw [← h3, h]
        exact hlen
      clear hlen hx31 hle hn hle2
      go_enter Tryz.func35, Tryz.ntmps35
      go_wp2_with (first
        | (go_at_call 56; refine (hN _).mono ?_; rintro e9 w9 ⟨rfl, hw9⟩; obtain rfl := hw9.symm)
        | (go_at_call 57; refine (hB _).mono ?_; rintro e9 w9 ⟨rfl, hw9⟩; obtain rfl := hw9.symm)
        | (go_at_call 58; refine hA.mono ?_; rintro e9 w1 ⟨⟨T, rfl, hT1⟩, hb1⟩; have HT1 : Hid (T.data.toList = textU y) := hT1; have hts := HL.out T hT1; clear hT1))
      go_ret
      exact ⟨⟨_, rfl, by rw [hR.out, ba_app, HT1.out]; rfl⟩, hb1⟩
    · have hb0 : belowB x = false := by simpa using hb
      have hx31 : x < 2147483648 := by
        unfold belowB at hb0
        rw [hn0] at hb0
        simp at hb0
        omega
      have hR : textR x = textU x := by unfold textR; rw [if_neg hn, if_neg hb]
      have hA := textAbove_all x (by omega) w hT
      rw [hb0] at hB
      rw [hR]
      clear hx31 hle hn hb hR hn0 hb0 hx
      go_enter Tryz.func35, Tryz.ntmps35
      go_wp2_with (first
        | (go_at_call 56; refine (hN _).mono ?_; rintro e9 w9 ⟨rfl, hw9⟩; obtain rfl := hw9.symm)
        | (go_at_call 57; refine (hB _).mono ?_; rintro e9 w9 ⟨rfl, hw9⟩; obtain rfl := hw9.symm)
        | (go_at_call 58; refine hA.mono ?_; rintro e9 w1 ⟨⟨T, rfl, hT1⟩, hb1⟩))
      go_ret
      exact ⟨⟨_, rfl, hT1⟩, hb1⟩
end Go.Proofs.YtjdihnkcigoajaaGreatDoor


/- A value's literal, as the program writes it. -/
namespace Go.Proofs.YtjdihnkcigoajaaGreatDoor
open Go.RowKit Go.PlainAid

/-- a value's literal -/
def litL (x : VD) : List UInt8 := if x.kind = 1 then (if x.bool then [116, 114, 117, 101] else [102, 97, 108, 115, 101]) else if x.kind = 2 then Lib.itoa x.int else if x.kind = 3 then textR x.real else if x.kind = 4 then quoL x.text.data.toList else listL x.texts
theorem boolText_any (t : Bool) (w : World) : Calls Tryz.prog 34 #[.bool t] w fun e w' => e = .returned (.string (ba (if t then [116, 114, 117, 101] else [102, 97, 108, 115, 101]))) ∧ w' = w := by
  cases t
  all_goals
    go_enter Tryz.func34, Tryz.ntmps34
    go_wp2
    go_ret
    exact ⟨rfl, rfl⟩
theorem format_any (n : Int) (h0 : -9223372036854775808 ≤ n) (h1 : n ≤ 9223372036854775807) (w : World) (hT : TabV w) : Calls Tryz.prog 22 #[.int .i64 n, .int .i64 10] w fun e w' => e = .returned (.string (ba (Lib.itoa n))) ∧ Keep [] w w' := by
  refine (Go.Proofs.Any.strconv_FormatInt_10 Tryz.laysM173 n h0 h1 w hT.p).mono ?_
  rintro e w' ⟨rfl, k, os, rfl⟩
  exact ⟨rfl, Keep.ofBelow (Lib.below_grow _ w (Nat.le_refl _) k os)⟩
theorem textR_ba (T : ByteArray) (l : List UInt8) (h : T.data.toList = l) : T = ba l := by rw [← h]; exact (ba_self T).symm
set_option maxRecDepth 1000000 in
theorem lit_1 (t : Bool) (w : World) : Calls Tryz.prog 16 #[.iface 4 (.bool t)] w fun e w' => e = .returned (.string (ba (if t then [116, 114, 117, 101] else [102, 97, 108, 115, 101]))) ∧ Keep [] w w' := by
  have hC := boolText_any t w
  generalize ba (if t then [116, 114, 117, 101] else [102, 97, 108, 115, 101]) = S at *
  have ta0 := ta_4_4
  go_enter Tryz.func16, Tryz.ntmps16
  go_wp2_with fail
  refine hC.mono ?_
  rintro e9 w9 ⟨rfl, rfl⟩
  have k9 : Keep [] w9 w9 := Keep.refl [] w9
  go_wp2
  go_ret
  exact ⟨rfl, k9⟩
set_option maxRecDepth 1000000 in
theorem lit_2 (t : Int) (h0 : -9223372036854775808 ≤ t) (h1 : t ≤ 9223372036854775807) (w : World) (hT : TabV w) : Calls Tryz.prog 16 #[.iface 2 (.int .i64 t)] w fun e w' => e = .returned (.string (ba (Lib.itoa t))) ∧ Keep [] w w' := by
  have hC := format_any t h0 h1 w hT
  generalize ba (Lib.itoa t) = S at *
  have ta0 := ta_2_4
  have ta1 := ta_2_2
  go_enter Tryz.func16, Tryz.ntmps16
  go_wp2_with fail
  refine hC.mono ?_
  rintro e9 w9 ⟨rfl, k9⟩
  go_wp2
  go_ret
  exact ⟨rfl, k9⟩
set_option maxRecDepth 1000000 in
theorem lit_3 (t : Nat) (ht : t < 4294967296) (w : World) (hT : TabV w) : Calls Tryz.prog 16 #[.iface 22 (.float .f32 t)] w fun e w' => e = .returned (.string (ba (textR t))) ∧ Keep [] w w' := by
  have hC := (text_any t ht w hT).mono (fun e w1 h => (show e = .returned (.string (ba (textR t))) ∧ Keep [] w w1 from by obtain ⟨⟨T, he, hT⟩, hb⟩ := h; exact ⟨by rw [he, textR_ba T _ hT], Keep.ofBelow hb⟩))
  generalize ba (textR t) = S at *
  have ta0 := ta_26_4
  have ta1 := ta_26_2
  have ta2 := ta_26_26
  go_enter Tryz.func16, Tryz.ntmps16
  go_wp2_with fail
  refine hC.mono ?_
  rintro e9 w9 ⟨rfl, k9⟩
  go_wp2
  go_ret
  exact ⟨rfl, k9⟩
set_option maxRecDepth 1000000 in
theorem lit_4 (t : ByteArray) (ht : t.size ≤ 256) (w : World) : Calls Tryz.prog 16 #[.iface 9 (.string t)] w fun e w' => e = .returned (.string (ba (quoL t.data.toList))) ∧ Keep [] w w' := by
  have hC := quoted_all t.data.toList w (by rw [ba_len]; omega)
  rw [ba_self] at hC
  generalize ba (quoL t.data.toList) = S at *
  have ta0 := ta_9_4
  have ta1 := ta_9_2
  have ta2 := ta_9_26
  have ta3 := ta_9_9
  go_enter Tryz.func16, Tryz.ntmps16
  go_wp2_with fail
  refine hC.mono ?_
  rintro e9 w9 ⟨rfl, k9⟩
  go_wp2
  go_ret
  exact ⟨rfl, k9⟩
set_option maxRecDepth 1000000 in
theorem lit_5 (u : Value) (ts : List ByteArray) (hn : ts.length ≤ 32) (hs : ∀ t ∈ ts, t.size ≤ 256) (w : World) (hu : Ts w u ts) : Calls Tryz.prog 16 #[.iface 23 (u)] w fun e w' => e = .returned (.string (ba (listL ts))) ∧ Keep [] w w' := by
  have hC := listed_all ts u w hu hn hs
  generalize ba (listL ts) = S at *
  have ta0 := ta_24_4
  have ta1 := ta_24_2
  have ta2 := ta_24_26
  have ta3 := ta_24_9
  have ta4 := ta_24_24
  go_enter Tryz.func16, Tryz.ntmps16
  go_wp2_with fail
  refine hC.mono ?_
  rintro e9 w9 ⟨rfl, k9⟩
  go_wp2
  go_ret
  exact ⟨rfl, k9⟩
end Go.Proofs.YtjdihnkcigoajaaGreatDoor

/- values.Text, of every value. -/
namespace Go.Proofs.YtjdihnkcigoajaaGreatDoor
open Go.RowKit Go.PlainAid

theorem TabV.keep {w w' : World} (h : TabV w) (k : Keep [] w w') : TabV w' := h.below k.below
theorem lit_any (x : VD) (hx : x.Ok) (hm : x.mayB = true) (u : Value) (w : World) (hu : Ts w u x.texts) (hT : TabV w) : ∃ (T : TypeId) (V : Value), (∀ w1, Keep [] w w1 → Calls Tryz.prog 17 #[x.val u] w1 fun e w' => e = .returned (.iface T V) ∧ Keep [] w1 w') ∧
    (∀ w1, Keep [] w w1 → Calls Tryz.prog 16 #[.iface T V] w1 fun e w' => e = .returned (.string (ba (litL x))) ∧ Keep [] w1 w') := by
  have hk := may_kind x hm
  obtain ⟨h1, h2, h3⟩ := may_short x hm
  obtain ⟨ao, ca, hsl, _⟩ := hu.ex
  have hs : ∃ a n c, u = .slice a n c := ⟨ao, _, ca, hsl⟩
  unfold litL
  by_cases c1 : x.kind = 1
  · rw [if_pos c1]
    exact ⟨4, _, fun w1 _ => held_1 x c1 u hs w1, fun w1 _ => lit_1 x.bool w1⟩
  · by_cases c2 : x.kind = 2
    · rw [if_neg c1, if_pos c2]
      exact ⟨2, _, fun w1 _ => held_2 x c2 u hs w1, fun w1 k => lit_2 x.int hx.int0 hx.int1 w1 (hT.keep k)⟩
    · by_cases c3 : x.kind = 3
      · rw [if_neg c1, if_neg c2, if_pos c3]
        exact ⟨22, _, fun w1 _ => held_3 x c3 u hs w1, fun w1 k => lit_3 x.real hx.real1 w1 (hT.keep k)⟩
      · by_cases c4 : x.kind = 4
        · rw [if_neg c1, if_neg c2, if_neg c3, if_pos c4]
          exact ⟨9, _, fun w1 _ => held_4 x c4 u hs w1, fun w1 _ => lit_4 x.text h1 w1⟩
        · rw [if_neg c1, if_neg c2, if_neg c3, if_neg c4]
          exact ⟨23, u, fun w1 _ => held_5 x (by omega) u hs w1, fun w1 k => lit_5 u x.texts h2 h3 w1 (hu.keep k (Off.nil _))⟩

set_option maxRecDepth 1000000 in
set_option maxHeartbeats 400000 in
theorem text_yes (x : VD) (hx : x.Ok) (hm : x.mayB = true) (u : Value) (w : World) (hu : Ts w u x.texts) (hT : TabV w) :
    Calls Tryz.prog 6 #[x.val u] w fun e w' => e = .returned (.tuple #[.string (ba (litL x)), .int .i64 0]) ∧ Keep [] w w' := by
  obtain ⟨T, V, hH, hL⟩ := lit_any x hx hm u w hu hT
  have hC := fun w1 (k : Keep [] w w1) => check_yes x hx u w1 (hu.keep k (Off.nil _)) hm
  obtain ⟨ao, ca, rfl, _, _, _, _⟩ := hu.ex
  have HH : Hid _ := hH
  have HL : Hid _ := hL
  have HCk : Hid _ := hC
  clear hu hx hm hH hL hC hT
  have K0 : Hid (Keep [] w (w.alloc (x.blk (.slice ao x.texts.length ca)))) := Keep.alloc1 w _
  generalize ba (litL x) = S at *
  go_enter Tryz.func6, Tryz.ntmps6
  go_wp2_with fail
  refine (HCk.out _ K0.out).mono ?_
  rintro e9 w1 ⟨rfl, k1⟩
  obtain ⟨⟨c0, c1, c2, c3, c4, c5⟩, _⟩ := six_cells k1 (by simp)
  have HK1 : Hid (Keep [] w w1) := K0.out.trans' k1
  clear HCk k1
  go_wp2_with fail
  refine (HH.out _ HK1.out).mono ?_
  rintro e9 w2 ⟨rfl, k2⟩
  have HK2 : Hid (Keep [] w w2) := HK1.out.trans' k2
  clear k2 c0 c1 c2 c3 c4 c5
  go_wp2_with fail
  refine (HL.out _ HK2.out).mono ?_
  rintro e9 w3 ⟨rfl, k3⟩
  have HK3 : Hid (Keep [] w w3) := HK2.out.trans' k3
  clear k3
  go_wp2
  go_ret2
  exact ⟨rfl, HK3.out⟩
set_option maxRecDepth 1000000 in
set_option maxHeartbeats 400000 in
theorem text_no (x : VD) (hx : x.Ok) (hm : x.mayB = false) (u : Value) (w : World) (hu : Ts w u x.texts) :
    Calls Tryz.prog 6 #[x.val u] w fun e w' => e = .returned (.tuple #[.string ⟨#[]⟩, .int .i64 40]) ∧ Keep [] w w' := by
  have hC := fun w1 (k : Keep [] w w1) => check_no x hx u w1 (hu.keep k (Off.nil _)) hm
  obtain ⟨ao, ca, rfl, _, _, _, _⟩ := hu.ex
  have HCk : Hid _ := hC
  clear hu hx hm hC
  have K0 : Hid (Keep [] w (w.alloc (x.blk (.slice ao x.texts.length ca)))) := Keep.alloc1 w _
  go_enter Tryz.func6, Tryz.ntmps6
  go_wp2_with fail
  refine (HCk.out _ K0.out).mono ?_
  rintro e9 w1 ⟨rfl, k1⟩
  have HK1 : Hid (Keep [] w w1) := K0.out.trans' k1
  clear HCk k1
  go_wp2
  go_ret2
  exact ⟨rfl, HK1.out⟩
end Go.Proofs.YtjdihnkcigoajaaGreatDoor
