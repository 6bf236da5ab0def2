/- The reference's At and Float: the real of a number. -/
import Derived.Test.YtnljpbpphdhnpaaGreatDoorTxB
import Derived.Test.YtnljpbpphdhnpaaGreatDoorRlA
import Derived.Test.YtnljpbpphdhnpaaGreatDoorTxB

namespace Go.Proofs.YtnljpbpphdhnpaaGreatDoor
open Go.RowKit Go.PlainAid Go.Lib

theorem at_any (n : Nat) (h : n < 2139095040) (w : World) : Calls Tryz.prog 41 #[.int .u32 (n : Int)] w fun e w' => e = .returned (.tuple #[.int .u64 (atM n : Nat), .int .i64 (atE n)]) ∧ w' = w := by
  by_cases hs : n < 8388608
  · have h1 : (n : Int) < 8388608 := by omega
    have hM : atM n = n := by unfold atM; rw [if_pos hs]
    have hE : atE n = -149 := by unfold atE; rw [if_pos hs]
    rw [hM, hE]
    go_enter Tryz.func41, Tryz.ntmps41
    go_wp2
    go_ret2
    refine ⟨?_, rfl⟩
    go_num
  · have h1 : ¬ (n : Int) < 8388608 := by omega
    have hM : atM n = 8388608 + n % 8388608 := by unfold atM; rw [if_neg hs]
    have hE : atE n = (n / 8388608 : Nat) - 150 := by unfold atE; rw [if_neg hs]
    rw [hM, hE]
    go_enter Tryz.func41, Tryz.ntmps41
    go_wp2
    go_ret2
    refine ⟨?_, rfl⟩
    go_num


theorem u64f64 (m : Nat) (w : World) : (convert 65 80 (.int .u64 (m : Int))).run Tryz.prog w = .ok (.float .f64 (floatOfInt .f64 (m : Int))) w := run_convert_int_float w 65 80 .u64 .f64 m (by kernel_rfl) Tryz.underlying80

theorem neg_low (n : Nat) (h : n < 2147483648) : Op.negFloat .f32 n = n + 2147483648 := by
  show n ^^^ 2147483648 = _
  rw [show (2147483648 : Nat) = 2 ^ 31 from rfl]
  have h2 : n ^^^ 2 ^ 31 = n ||| 2 ^ 31 := by
    apply Nat.eq_of_testBit_eq
    intro i
    rw [Nat.testBit_xor, Nat.testBit_or, Nat.testBit_two_pow]
    by_cases hi : 31 = i
    · subst hi
      rw [Nat.testBit_lt_two_pow (show n < 2 ^ 31 from h)]
      rfl
    · rw [show decide (31 = i) = false by simpa using hi]
      cases n.testBit i <;> rfl
  have h3 := Nat.two_pow_add_eq_or_of_lt (show n < 2 ^ 31 from h) 1
  rw [Nat.mul_one] at h3
  rw [h2, Nat.or_comm, ← h3]
  omega

set_option maxHeartbeats 1600000 in
theorem float_low (neg : Bool) (n : Nat) (h : n < 2139095040) (w : World) : Calls Tryz.prog 32 #[.bool neg, .int .u32 (n : Int)] w fun e w' => e = .returned (.float .f32 (if neg then n + 2147483648 else n)) ∧ w' = w := by
  have hA := at_any n h
  have h1 : ¬ (2139095040 ≤ (n : Int)) := by omega
  have hc := u64f64 (atM n)
  rw [fD_start] at hc
  have hm : ∀ (k : Int), 0 ≤ k → k < 104 → ∀ w, (binOp .mul 80 (.float .f64 (fD n k)) (.float .f64 4611686018427387904)).run Tryz.prog w = .ok (.float .f64 (fD n (k + 1))) w := fun k p q w => run_float_arith w .mul 80 .f64 _ _ _ (fD_mul n k p q)
  have hd : ∀ (k : Int), -149 ≤ k → k ≤ 104 → ∀ w, (binOp .quo 80 (.float .f64 (fD n k)) (.float .f64 4611686018427387904)).run Tryz.prog w = .ok (.float .f64 (fD n (k - 1))) w := fun k p q w => run_float_arith w .quo 80 .f64 _ _ _ (fD_div n k p q)
  have he : ∀ w, (convert 80 22 (.float .f64 (fD n (atE n)))).run Tryz.prog w = .ok (.float .f32 n) w := fun w => run_convert_float_float w 80 22 .f64 .f32 _ _ (by kernel_rfl) Tryz.underlying22 (fD_end n h)
  have hn := neg_low n (by omega)
  have a1 := atE_lo n
  have a2 := atE_hi n h
  generalize atE n = E at *
  generalize atM n = M at *
  generalize fD n = F at *
  have HM : Hid (∀ (k : Int), 0 ≤ k → k < 104 → ∀ w, (binOp .mul 80 (.float .f64 (F k)) (.float .f64 4611686018427387904)).run Tryz.prog w = .ok (.float .f64 (F (k + 1))) w) := hm
  have HD : Hid (∀ (k : Int), -149 ≤ k → k ≤ 104 → ∀ w, (binOp .quo 80 (.float .f64 (F k)) (.float .f64 4611686018427387904)).run Tryz.prog w = .ok (.float .f64 (F (k - 1))) w) := hd
  have HE : Hid (∀ w, (convert 80 22 (.float .f64 (F E))).run Tryz.prog w = .ok (.float .f32 n) w) := he
  have HN : Hid (Op.negFloat .f32 n = n + 2147483648) := hn
  clear hm hd he hn h
  go_enter Tryz.func32, Tryz.ntmps32
  go_wp2_with (first | (go_at_call 41; refine (hA _).mono ?_; rintro e9 w9 ⟨rfl, hw9⟩; obtain rfl := hw9.symm))
  go_loop [9, 10] (fun fv iv => ∃ k : Nat, iv = .int .i64 (k : Int) ∧ fv = .float .f64 (F (k : Int)) ∧ (k = 0 ∨ (k : Int) ≤ E)) (fun _ iv => (E - RowKit.intOf iv).toNat)
  case atStart => exact ⟨0, rfl, rfl, .inl rfl⟩
  case round =>
    obtain ⟨k, rfl, rfl, hk⟩ := hrel
    by_cases hlt : (k : Int) < E
    · have hmk := HM.out (k : Int) (by omega) (by omega)
      go_wp2
      go_round
      case rel => exact ⟨k + 1, by go_num, rfl, .inr (by omega)⟩
      case measure => simp [RowKit.intOf]; omega
    · go_wp2
      go_loop [9, 11] (fun fv iv => ∃ i : Int, iv = .int .i64 i ∧ E ≤ i ∧ (i ≤ 0 ∨ i = E) ∧ fv = .float .f64 (F ((k : Int) + E - i))) (fun _ iv => (- RowKit.intOf iv).toNat)
      case atStart => exact ⟨E, rfl, by omega, .inr rfl, by rw [show (k : Int) + E - E = k by omega]⟩
      case round =>
        obtain ⟨i, rfl, hi1, hi2, rfl⟩ := hrel
        by_cases hi : i < 0
        · have hdk := HD.out ((k : Int) + E - i) (by omega) (by omega)
          go_wp2
          go_round
          case rel => exact ⟨i + 1, by go_num, by omega, .inl (by omega), by rw [show (k : Int) + E - i - 1 = k + E - (i + 1) by omega]⟩
          case measure => simp [RowKit.intOf]; omega
        · have hce := HE.out
          rw [show (k : Int) + E - i = E by omega]
          have hng : ∀ w, (Op.unary .neg (.float .f32 n)).run Tryz.prog w = .ok (.float .f32 (n + 2147483648)) w := fun w => by
            show (pure (Value.float .f32 (Op.negFloat .f32 n)) : Sem Value).run Tryz.prog w = _
            rw [HN.out]
            rfl
          cases neg
          · go_wp2
            go_ret
            exact ⟨rfl, rfl⟩
          · go_wp2
            go_ret
            exact ⟨rfl, rfl⟩

end Go.Proofs.YtnljpbpphdhnpaaGreatDoor


/- The reference's Float at every number, Number, IsNan, Below, Same. -/
namespace Go.Proofs.YtnljpbpphdhnpaaGreatDoor
open Go.RowKit Go.PlainAid Go.Lib

set_option maxHeartbeats 1600000 in
theorem float_over (neg : Bool) (n : Nat) (h : 2139095040 ≤ n) (w : World) : Calls Tryz.prog 32 #[.bool neg, .int .u32 (n : Int)] w fun e w' => e = .returned (.float .f32 (if neg then 4286578688 else 2139095040)) ∧ w' = w := by
  have h1 : 2139095040 ≤ (n : Int) := by omega
  have hq : ∀ w, (binOp .quo 22 (.float .f32 1065353216) (.float .f32 0)).run Tryz.prog w = .ok (.float .f32 2139095040) w := fun w => run_float_arith w .quo 22 .f32 _ _ _ (by decide)
  have hng : ∀ w, (Op.unary .neg (.float .f32 2139095040)).run Tryz.prog w = .ok (.float .f32 4286578688) w := fun w => rfl
  cases neg
  · go_enter Tryz.func32, Tryz.ntmps32
    go_wp2
    go_ret
    exact ⟨rfl, rfl⟩
  · go_enter Tryz.func32, Tryz.ntmps32
    go_wp2
    go_ret
    exact ⟨rfl, rfl⟩

/-- Float of a number up to the infinite one's -/
theorem float_any (neg : Bool) (n : Nat) (h : n ≤ 2139095040) (w : World) : Calls Tryz.prog 32 #[.bool neg, .int .u32 (n : Int)] w fun e w' => e = .returned (.float .f32 (if neg then n + 2147483648 else n)) ∧ w' = w := by
  by_cases h1 : n < 2139095040
  · exact float_low neg n h1 w
  · obtain rfl : n = 2139095040 := by omega
    exact float_over neg _ (Nat.le_refl _) w

theorem rlt_any (a b : Nat) (ha : rungN a ≤ 2139095040) (hb : rungN b ≤ 2139095040) : (FloatKind.f32.format.order a b == some Ordering.lt) = decide (srungZ a < srungZ b) := by
  show (Ieee.single.order a b == some Ordering.lt) = _
  rw [order_any, if_neg (by omega)]
  rcases Int.lt_trichotomy (srungZ a) (srungZ b) with h | h | h
  · rw [show compare (srungZ a) (srungZ b) = .lt from Int.compare_eq_lt.2 h, show decide (srungZ a < srungZ b) = true by simpa using h]; rfl
  · rw [show compare (srungZ a) (srungZ b) = .eq from Int.compare_eq_eq.2 h, show decide (srungZ a < srungZ b) = false by simp; omega]; rfl
  · rw [show compare (srungZ a) (srungZ b) = .gt from Int.compare_eq_gt.2 h, show decide (srungZ a < srungZ b) = false by simp; omega]; rfl

theorem req_any (a b : Nat) (ha : rungN a ≤ 2139095040) (hb : rungN b ≤ 2139095040) : (FloatKind.f32.format.order a b == some Ordering.eq) = decide (srungZ a = srungZ b) := by
  show (Ieee.single.order a b == some Ordering.eq) = _
  rw [order_any, if_neg (by omega)]
  rcases Int.lt_trichotomy (srungZ a) (srungZ b) with h | h | h
  · rw [show compare (srungZ a) (srungZ b) = .lt from Int.compare_eq_lt.2 h, show decide (srungZ a = srungZ b) = false by simp; omega]; rfl
  · rw [show compare (srungZ a) (srungZ b) = .eq from Int.compare_eq_eq.2 h, show decide (srungZ a = srungZ b) = true by simpa using h]; rfl
  · rw [show compare (srungZ a) (srungZ b) = .gt from Int.compare_eq_gt.2 h, show decide (srungZ a = srungZ b) = false by simp; omega]; rfl

theorem neg_high (n : Nat) (h : 2147483648 ≤ n) (h2 : n < 4294967296) : Op.negFloat .f32 n = n - 2147483648 := by
  have h3 := neg_low (n - 2147483648) (by omega)
  have h4 : n - 2147483648 + 2147483648 = n := by omega
  rw [h4] at h3
  have h5 : Op.negFloat .f32 n = Op.negFloat .f32 (Op.negFloat .f32 (n - 2147483648)) := by rw [h3]
  rw [h5]
  show (n - 2147483648) ^^^ 2147483648 ^^^ 2147483648 = _
  rw [Nat.xor_assoc, Nat.xor_self, Nat.xor_zero]

theorem srung_low (n : Nat) (h : n < 2147483648) : srungZ n = n ∧ rungN n = n := by
  unfold srungZ rungN
  rw [if_neg (by omega)]
  omega

/-- the halving: a real without sign -/
theorem half_step (lo hi : Nat) (h1 : lo < hi) (h2 : hi ≤ 2139095041) (hd : 1 < hi - lo) : lo < lo + (hi - lo) / 2 ∧ lo + (hi - lo) / 2 < hi := by omega

set_option maxHeartbeats 3200000 in
theorem number_any (x : Nat) (hx : x < 4294967296) (hn : nanB x = false) (w : World) : Calls Tryz.prog 19 #[.float .f32 x] w fun e w' => e = .returned (.int .u32 (rungN x : Nat)) ∧ w' = w := by
  have hr : rungN x ≤ 2139095040 := by simpa [nanB, rungN] using hn
  have hlt := rlt_any x 0 hr (by decide)
  rw [(srung_low 0 (by decide)).1] at hlt
  have key : ∀ y : Nat, rungN y = rungN x → srungZ y = (rungN x : Nat) → ∀ m : Nat, m ≤ 2139095040 → (FloatKind.f32.format.order m y == some Ordering.lt) = decide (m < rungN x) ∧ (FloatKind.f32.format.order m y == some Ordering.eq) = decide (m = rungN x) := fun y h1 h2 m hm => by
    have p1 : rungN m ≤ 2139095040 := by rw [(srung_low m (by omega)).2]; exact hm
    rw [rlt_any m y p1 (by rw [h1]; exact hr), req_any m y p1 (by rw [h1]; exact hr), (srung_low m (by omega)).1, h2]
    constructor
    · simp
    · simp; omega
  have hF := fun (m : Nat) (hm : m ≤ 2139095040) => float_any false m hm
  simp only [Bool.false_eq_true, if_false] at hF
  by_cases hb : srungZ x < ((0 : Nat) : Int)
  · have hx2 : 2147483648 ≤ x := by
      unfold srungZ at hb
      split at hb <;> omega
    have hng : ∀ w, (Op.unary .neg (.float .f32 x)).run Tryz.prog w = .ok (.float .f32 (x - 2147483648)) w := fun w => by
      show (pure (Value.float .f32 (Op.negFloat .f32 x)) : Sem Value).run Tryz.prog w = _
      rw [neg_high x hx2 hx]
      rfl
    have k2 := key (x - 2147483648) (by unfold rungN; omega) (by rw [(srung_low _ (by omega)).1]; unfold rungN; omega)
    rw [show decide (srungZ x < ((0 : Nat) : Int)) = true by simpa using hb] at hlt
    have HK : Hid (∀ m : Nat, m ≤ 2139095040 → (FloatKind.f32.format.order m (x - 2147483648) == some Ordering.lt) = decide (m < rungN x) ∧ (FloatKind.f32.format.order m (x - 2147483648) == some Ordering.eq) = decide (m = rungN x)) := k2
    clear key hb hx2 k2 hn
    generalize rungN x = r at *
    generalize x - 2147483648 = y at *
    have HF : Hid (∀ (m : Nat), m ≤ 2139095040 → ∀ (w : World), Calls Tryz.prog 32 #[.bool false, .int .u32 (m : Int)] w fun e w' => e = .returned (.float .f32 m) ∧ w' = w) := hF
    clear hF
    go_enter Tryz.func19, Tryz.ntmps19
    go_wp2
    go_loop [3, 4] (fun lv hv => ∃ lo hi : Nat, lv = .int .u32 (lo : Int) ∧ hv = .int .u32 (hi : Int) ∧ lo ≤ r ∧ r < hi ∧ hi ≤ 2139095041) (fun lv hv => (RowKit.intOf hv - RowKit.intOf lv).toNat)
    case atStart => exact ⟨0, 2139095041, rfl, rfl, Nat.zero_le _, by omega, Nat.le_refl _⟩
    case round =>
      obtain ⟨lo, hi, rfl, rfl, l1, l2, l3⟩ := hrel
      by_cases hd : lo + 1 < hi
      · have hdi : 1 < (hi : Int) - lo := by omega
        obtain ⟨m, hmid⟩ : ∃ m : Nat, m = lo + (hi - lo) / 2 := ⟨_, rfl⟩
        have hfm := HF.out m (by omega)
        obtain ⟨k1, k2⟩ := HK.out m (by omega)
        have hmz : (m : Int) = (lo : Int) + ((hi : Int) - lo) / 2 := by omega
        have HZ : Hid ((m : Int) = (lo : Int) + ((hi : Int) - lo) / 2 ∧ lo < m ∧ m < hi) := ⟨hmz, by omega, by omega⟩
        rw [hmz] at hfm
        clear hmz hmid
        rcases Nat.lt_trichotomy m r with hle | hle | hle
        · rw [show decide (m < r) = true by simpa using hle] at k1
          clear k2
          go_wp2_with (go_at_call 32; refine (hfm _).mono ?_; rintro e9 w9 ⟨rfl, hw9⟩; obtain rfl := hw9.symm)
          go_round
          case rel => exact ⟨m, hi, by rw [HZ.out.1], rfl, by omega, l2, l3⟩
          case measure => have := HZ.out; simp only [RowKit.intOf]; omega
        · rw [show decide (m < r) = false by simp; omega] at k1
          rw [show decide (m = r) = true by simpa using hle] at k2
          have HL : Hid (m = r) := hle
          clear hle
          go_wp2_with (go_at_call 32; refine (hfm _).mono ?_; rintro e9 w9 ⟨rfl, hw9⟩; obtain rfl := hw9.symm)
          go_round
          case rel => exact ⟨m, hi, by rw [HZ.out.1], rfl, by have := HL.out; omega, l2, l3⟩
          case measure => have := HZ.out; simp only [RowKit.intOf]; omega
        · rw [show decide (m < r) = false by simp; omega] at k1
          rw [show decide (m = r) = false by simp; omega] at k2
          go_wp2_with (go_at_call 32; refine (hfm _).mono ?_; rintro e9 w9 ⟨rfl, hw9⟩; obtain rfl := hw9.symm)
          go_round
          case rel => exact ⟨lo, m, rfl, by rw [HZ.out.1], l1, by omega, by have := HZ.out; omega⟩
          case measure => have := HZ.out; simp only [RowKit.intOf]; omega
      · have hdi : ¬ 1 < (hi : Int) - lo := by omega
        obtain rfl : lo = r := by omega
        go_wp2
        go_ret
        exact ⟨rfl, rfl⟩
  · rw [show decide (srungZ x < ((0 : Nat) : Int)) = false by simpa using hb] at hlt
    have k2 := key x rfl (by unfold srungZ at hb ⊢; split at hb <;> simp_all <;> omega)
    have HK : Hid (∀ m : Nat, m ≤ 2139095040 → (FloatKind.f32.format.order m x == some Ordering.lt) = decide (m < rungN x) ∧ (FloatKind.f32.format.order m x == some Ordering.eq) = decide (m = rungN x)) := k2
    clear key hb k2 hn
    generalize rungN x = r at *
    have HF : Hid (∀ (m : Nat), m ≤ 2139095040 → ∀ (w : World), Calls Tryz.prog 32 #[.bool false, .int .u32 (m : Int)] w fun e w' => e = .returned (.float .f32 m) ∧ w' = w) := hF
    clear hF
    go_enter Tryz.func19, Tryz.ntmps19
    go_wp2
    go_loop [3, 4] (fun lv hv => ∃ lo hi : Nat, lv = .int .u32 (lo : Int) ∧ hv = .int .u32 (hi : Int) ∧ lo ≤ r ∧ r < hi ∧ hi ≤ 2139095041) (fun lv hv => (RowKit.intOf hv - RowKit.intOf lv).toNat)
    case atStart => exact ⟨0, 2139095041, rfl, rfl, Nat.zero_le _, by omega, Nat.le_refl _⟩
    case round =>
      obtain ⟨lo, hi, rfl, rfl, l1, l2, l3⟩ := hrel
      by_cases hd : lo + 1 < hi
      · have hdi : 1 < (hi : Int) - lo := by omega
        obtain ⟨m, hmid⟩ : ∃ m : Nat, m = lo + (hi - lo) / 2 := ⟨_, rfl⟩
        have hfm := HF.out m (by omega)
        obtain ⟨k1, k2⟩ := HK.out m (by omega)
        have hmz : (m : Int) = (lo : Int) + ((hi : Int) - lo) / 2 := by omega
        have HZ : Hid ((m : Int) = (lo : Int) + ((hi : Int) - lo) / 2 ∧ lo < m ∧ m < hi) := ⟨hmz, by omega, by omega⟩
        rw [hmz] at hfm
        clear hmz hmid
        rcases Nat.lt_trichotomy m r with hle | hle | hle
        · rw [show decide (m < r) = true by simpa using hle] at k1
          clear k2
          go_wp2_with (go_at_call 32; refine (hfm _).mono ?_; rintro e9 w9 ⟨rfl, hw9⟩; obtain rfl := hw9.symm)
          go_round
          case rel => exact ⟨m, hi, by rw [HZ.out.1], rfl, by omega, l2, l3⟩
          case measure => have := HZ.out; simp only [RowKit.intOf]; omega
        · rw [show decide (m < r) = false by simp; omega] at k1
          rw [show decide (m = r) = true by simpa using hle] at k2
          have HL : Hid (m = r) := hle
          clear hle
          go_wp2_with (go_at_call 32; refine (hfm _).mono ?_; rintro e9 w9 ⟨rfl, hw9⟩; obtain rfl := hw9.symm)
          go_round
          case rel => exact ⟨m, hi, by rw [HZ.out.1], rfl, by have := HL.out; omega, l2, l3⟩
          case measure => have := HZ.out; simp only [RowKit.intOf]; omega
        · rw [show decide (m < r) = false by simp; omega] at k1
          rw [show decide (m = r) = false by simp; omega] at k2
          go_wp2_with (go_at_call 32; refine (hfm _).mono ?_; rintro e9 w9 ⟨rfl, hw9⟩; obtain rfl := hw9.symm)
          go_round
          case rel => exact ⟨lo, m, rfl, by rw [HZ.out.1], l1, by omega, by have := HZ.out; omega⟩
          case measure => have := HZ.out; simp only [RowKit.intOf]; omega
      · have hdi : ¬ 1 < (hi : Int) - lo := by omega
        obtain rfl : lo = r := by omega
        go_wp2
        go_ret
        exact ⟨rfl, rfl⟩

end Go.Proofs.YtnljpbpphdhnpaaGreatDoor


/- The document's Nearest. -/
namespace Go.Proofs.YtnljpbpphdhnpaaGreatDoor
open Go.RowKit Go.PlainAid

theorem at_le (n : Nat) (h : n ≤ 2139095040) (w : World) : Calls Tryz.prog 41 #[.int .u32 (n : Int)] w fun e w' => e = .returned (.tuple #[.int .u64 (atM n : Nat), .int .i64 (atE n)]) ∧ w' = w := by
  by_cases h1 : n < 2139095040
  · exact at_any n h1 w
  · obtain rfl : n = 2139095040 := by omega
    have hM : ((atM 2139095040 : Nat) : Int) = 8388608 := by decide
    have hE : atE 2139095040 = 105 := by decide
    rw [hM, hE]
    go_enter Tryz.func41, Tryz.ntmps41
    go_wp2
    go_ret2
    exact ⟨rfl, rfl⟩
theorem at_bounds (n : Nat) (h : n ≤ 2139095040) : atM n < 16777216 ∧ -149 ≤ atE n ∧ atE n ≤ 105 := by
  unfold atM atE
  split <;> omega

/-- n is the float below A over B, or the last one -/
def LowB (A B n : Nat) : Prop := n ≤ 2139095040 ∧ valN n * B ≤ A * 2 ^ 149 ∧ (n = 2139095040 ∨ A * 2 ^ 149 < valN (n + 1) * B)
def nearB (A B n : Nat) : Nat := if n = 2139095040 then n else if upB (2 * (A * 2 ^ 149)) ((valN n + valN (n + 1)) * B) n = true then n + 1 else n

/-- how the halving stands -/
def Hal (A B lo hi : Nat) : Prop := lo < hi ∧ hi ≤ 2139095041 ∧ valN lo * B ≤ A * 2 ^ 149 ∧ (hi = 2139095041 ∨ A * 2 ^ 149 < valN hi * B)

set_option maxRecDepth 1000000 in
set_option maxHeartbeats 3200000 in
theorem nearest_any (fa fb : Value) (A B K L : Nat) (w : World) (ha : Big w fa A K) (hb : Big w fb B L) (hK : K ≤ 3000) (hL : L ≤ 3000) :
    Calls Tryz.prog 35 #[.agg #[fa, fb]] w fun r w' => ∃ n, LowB A B n ∧ r = .returned (.int .u32 ((nearB A B n : Nat) : Int)) ∧ Keep [] w w' := by
  obtain ⟨ao, na, ca, rfl⟩ := ha.sl
  obtain ⟨bo, nb, cb, rfl⟩ := hb.sl
  have hAg : ∀ (n : Nat) (wr : World), n ≤ 2139095040 → Keep [] w wr → _ := fun n wr hn kw => against_any (.slice ao na ca) (.slice bo nb cb) A B K L (atM n) (atE n) wr (ha.keep kw (Off.nil _)) (hb.keep kw (Off.nil _)) hK hL (by have := at_bounds n hn; omega) (by have := at_bounds n hn; omega) (by have := at_bounds n hn; omega)
  have hAh : ∀ (n : Nat) (wr : World), n ≤ 2139095040 → Keep [] w wr → _ := fun n wr hn kw => against_any (.slice ao na ca) (.slice bo nb cb) A B K L (2 * atM n + 1) (atE n - 1) wr (ha.keep kw (Off.nil _)) (hb.keep kw (Off.nil _)) hK hL (by have := at_bounds n hn; omega) (by have := at_bounds n hn; omega) (by have := at_bounds n hn; omega)
  simp only [against_val] at hAg
  simp only [against_half] at hAh
  have HG : Hid _ := hAg
  have HH : Hid _ := hAh
  clear hAg hAh ha hb
  go_enter Tryz.func35, Tryz.ntmps35
  go_wp2
  go_loopw [3, 4] (fun lv hv wr => ∃ lo hi : Nat, lv = .int .u32 (lo : Int) ∧ hv = .int .u32 (hi : Int) ∧ Hid (Hal A B lo hi) ∧ Hid (wr.cell? ⟨w.heap.size, 0, none⟩ = some (.slice ao na ca) ∧ wr.cell? ⟨w.heap.size, 1, none⟩ = some (.slice bo nb cb) ∧ Keep [] w wr)) (fun lv hv _ => (intOf hv - intOf lv).toNat)
  case atStart => exact ⟨0, 2139095041, rfl, rfl, (⟨by decide, Nat.le_refl _, by rw [valN_zero]; simp, .inl rfl⟩ : Hal A B 0 2139095041), (⟨by simp, by simp, Keep.alloc1 w _⟩ : _ ∧ _ ∧ _)⟩
  case round =>
    obtain ⟨lo, hi, rfl, rfl, HI, HC⟩ := hrel
    have hlh : lo < hi := HI.out.1
    have hh1 : hi ≤ 2139095041 := HI.out.2.1
    have hc0 := HC.out.1
    have hc1 := HC.out.2.1
    by_cases hd : lo + 1 < hi
    · have hdi : 1 < (hi : Int) - lo := by omega
      obtain ⟨m, hmid⟩ : ∃ m : Nat, m = lo + (hi - lo) / 2 := ⟨_, rfl⟩
      have hmle : m ≤ 2139095040 := by omega
      have hAt := at_le m hmle
      have hmz : (m : Int) = (lo : Int) + ((hi : Int) - lo) / 2 := by omega
      have HZ : Hid ((m : Int) = (lo : Int) + ((hi : Int) - lo) / 2 ∧ lo < m ∧ m < hi) := ⟨hmz, by omega, by omega⟩
      have hag := HG.out m wr hmle HC.out.2.2
      rw [hmz] at hAt
      clear hmz hmid
      have hbd := at_bounds m hmle
      have hM0 : Hid (0 ≤ (atM m : Int) ∧ (atM m : Int) ≤ 16777216) := show 0 ≤ (atM m : Int) ∧ (atM m : Int) ≤ 16777216 by omega
      by_cases hc : valN m * B ≤ A * 2 ^ 149
      · have hge : (0 : Int) ≤ cmpI ((A * 2 ^ 149 : Nat) : Int) ((valN m * B : Nat) : Int) := by unfold cmpI; split; omega; split <;> omega
        have HJ : Hid (Hal A B m hi) := (⟨HZ.out.2.2, hh1, hc, HI.out.2.2.2⟩ : Hal A B m hi)
        clear hc
        generalize cmpI ((A * 2 ^ 149 : Nat) : Int) ((valN m * B : Nat) : Int) = z at *
        generalize ((atM m : Nat) : Int) = M at *
        generalize atE m = E at *
        go_wp2_with (first
          | (go_at_call 41; refine (hAt _).mono ?_; rintro e9 w9 ⟨rfl, hw9⟩; obtain rfl := hw9.symm)
          | (go_at_call 42; refine hag.mono ?_; rintro e9 w8 ⟨rfl, hk8⟩))
        have HC2 : Hid (w8.cell? ⟨w.heap.size, 0, none⟩ = some (.slice ao na ca) ∧ w8.cell? ⟨w.heap.size, 1, none⟩ = some (.slice bo nb cb) ∧ Keep [] w w8) := ⟨hk8.cell' HC.out.1 (by simp), hk8.cell' HC.out.2.1 (by simp), HC.out.2.2.trans' hk8⟩
        clear hk8
        go_roundw
        case rel => exact ⟨m, hi, by rw [HZ.out.1], rfl, HJ, HC2⟩
        case measure => have := HZ.out; simp only [intOf]; omega
      · have hge : ¬ (0 : Int) ≤ cmpI ((A * 2 ^ 149 : Nat) : Int) ((valN m * B : Nat) : Int) := by unfold cmpI; rw [if_pos (by omega)]; decide
        have HJ : Hid (Hal A B lo m) := (⟨HZ.out.2.1, by omega, HI.out.2.2.1, .inr (by omega)⟩ : Hal A B lo m)
        clear hc
        generalize cmpI ((A * 2 ^ 149 : Nat) : Int) ((valN m * B : Nat) : Int) = z at *
        generalize ((atM m : Nat) : Int) = M at *
        generalize atE m = E at *
        go_wp2_with (first
          | (go_at_call 41; refine (hAt _).mono ?_; rintro e9 w9 ⟨rfl, hw9⟩; obtain rfl := hw9.symm)
          | (go_at_call 42; refine hag.mono ?_; rintro e9 w8 ⟨rfl, hk8⟩))
        have HC2 : Hid (w8.cell? ⟨w.heap.size, 0, none⟩ = some (.slice ao na ca) ∧ w8.cell? ⟨w.heap.size, 1, none⟩ = some (.slice bo nb cb) ∧ Keep [] w w8) := ⟨hk8.cell' HC.out.1 (by simp), hk8.cell' HC.out.2.1 (by simp), HC.out.2.2.trans' hk8⟩
        clear hk8
        go_roundw
        case rel => exact ⟨lo, m, rfl, by rw [HZ.out.1], HJ, HC2⟩
        case measure => have := HZ.out; simp only [intOf]; omega
    · have hdi : ¬ 1 < (hi : Int) - lo := by omega
      have hhi : hi = lo + 1 := by omega
      have HLow : Hid (LowB A B lo) := (⟨by omega, HI.out.2.2.1, by
        rcases HI.out.2.2.2 with h | h
        · exact .inl (by omega)
        · exact .inr (by rw [← hhi]; exact h)⟩ : LowB A B lo)
      clear HI HG hd
      by_cases ho : lo = 2139095040
      · have HN : Hid (nearB A B lo = lo) := show nearB A B lo = lo by unfold nearB; rw [if_pos ho]
        have t0 : ((lo : Int) == 2139095040) = true := by simp; omega
        clear HH hhi ho
        go_wp2
        go_ret
        exact ⟨lo, HLow.out, by rw [HN.out]; rfl, HC.out.2.2⟩
      · have hlo : lo ≤ 2139095040 := HLow.out.1
        have hAt := at_le lo hlo
        have hah := HH.out lo wr hlo HC.out.2.2
        rw [show ((2 * atM lo + 1 : Nat) : Int) = 2 * ((atM lo : Nat) : Int) + 1 by omega] at hah
        have hbd := at_bounds lo hlo
        have t0 : ((lo : Int) == 2139095040) = false := by simp; omega
        have hM0 : (0 : Int) ≤ ((atM lo : Nat) : Int) ∧ ((atM lo : Nat) : Int) < 16777216 := by omega
        have hE0 : -149 ≤ atE lo ∧ atE lo ≤ 105 := hbd.2
        have hln : (lo : Int) ≤ 2139095039 := by omega
        clear HH hhi hbd
        have hnear : nearB A B lo = if upB (2 * (A * 2 ^ 149)) ((valN lo + valN (lo + 1)) * B) lo = true then lo + 1 else lo := by unfold nearB; rw [if_neg ho]
        unfold upB at hnear
        generalize hS : (valN lo + valN (lo + 1)) * B = S at hnear hah
        generalize hV2 : 2 * (A * 2 ^ 149) = V2 at hnear hah
        have HS : Hid ((valN lo + valN (lo + 1)) * B = S ∧ 2 * (A * 2 ^ 149) = V2) := ⟨hS, hV2⟩
        clear hS hV2
        generalize ((atM lo : Nat) : Int) = M at *
        generalize atE lo = E at *
        obtain ⟨hM1, hM2⟩ := hM0
        obtain ⟨hE1, hE2⟩ := hE0
        rcases Nat.lt_trichotomy S V2 with c1 | c1 | c1
        · have hz : cmpI (V2 : Nat) (S : Nat) = 1 := by unfold cmpI; rw [if_neg (by omega), if_pos (by omega)]
          rw [hz] at hah
          have HN : Hid (((nearB A B lo : Nat) : Int) = (lo : Int) + 1) := show ((nearB A B lo : Nat) : Int) = (lo : Int) + 1 by rw [hnear, decide_eq_true c1, Bool.true_or, if_pos rfl]; omega
          clear hnear hz c1 ho
          go_wp2_with (first
            | (go_at_call 41; refine (hAt _).mono ?_; rintro e9 w9 ⟨rfl, hw9⟩; obtain rfl := hw9.symm)
            | (go_at_call 42; refine hah.mono ?_; rintro e9 w8 ⟨rfl, hk8⟩))
          go_ret
          refine ⟨lo, HLow.out, ?_, HC.out.2.2.trans' hk8⟩
          rw [HN.out]
          rfl
        · have hz : cmpI (V2 : Nat) (S : Nat) = 0 := by unfold cmpI; rw [if_neg (by omega), if_neg (by omega)]
          rw [hz] at hah
          by_cases hp : lo % 2 = 1
          · have HN : Hid (((nearB A B lo : Nat) : Int) = (lo : Int) + 1) := show ((nearB A B lo : Nat) : Int) = (lo : Int) + 1 by rw [hnear, decide_eq_true c1.symm, decide_eq_true hp, Bool.and_true, Bool.or_true, if_pos rfl]; omega
            have t1 : ((lo : Int) % 2 == 1) = true := by simp; omega
            clear hnear hz c1 ho
            go_wp2_with (first
              | (go_at_call 41; refine (hAt _).mono ?_; rintro e9 w9 ⟨rfl, hw9⟩; obtain rfl := hw9.symm)
              | (go_at_call 42; refine hah.mono ?_; rintro e9 w8 ⟨rfl, hk8⟩))
            go_ret
            refine ⟨lo, HLow.out, ?_, HC.out.2.2.trans' hk8⟩
            rw [HN.out]
            rfl
          · have HN : Hid (((nearB A B lo : Nat) : Int) = (lo : Int)) := show ((nearB A B lo : Nat) : Int) = (lo : Int) by rw [hnear, decide_eq_false hp, Bool.and_false, Bool.or_false, decide_eq_false (show ¬ S < V2 by omega), if_neg (by decide)]
            have t1 : ((lo : Int) % 2 == 1) = false := by simp; omega
            clear hnear hz c1 ho
            go_wp2_with (first
              | (go_at_call 41; refine (hAt _).mono ?_; rintro e9 w9 ⟨rfl, hw9⟩; obtain rfl := hw9.symm)
              | (go_at_call 42; refine hah.mono ?_; rintro e9 w8 ⟨rfl, hk8⟩))
            go_ret
            refine ⟨lo, HLow.out, ?_, HC.out.2.2.trans' hk8⟩
            rw [HN.out]
            rfl
        · have hz : cmpI (V2 : Nat) (S : Nat) = -1 := by unfold cmpI; rw [if_pos (by omega)]
          rw [hz] at hah
          have HN : Hid (((nearB A B lo : Nat) : Int) = (lo : Int)) := show ((nearB A B lo : Nat) : Int) = (lo : Int) by rw [hnear, decide_eq_false (show ¬ S < V2 by omega), decide_eq_false (show ¬ V2 = S by omega), Bool.false_and, Bool.or_false, if_neg (by decide)]
          clear hnear hz c1 ho
          go_wp2_with (first
            | (go_at_call 41; refine (hAt _).mono ?_; rintro e9 w9 ⟨rfl, hw9⟩; obtain rfl := hw9.symm)
            | (go_at_call 42; refine hah.mono ?_; rintro e9 w8 ⟨rfl, hk8⟩))
          go_ret
          refine ⟨lo, HLow.out, ?_, HC.out.2.2.trans' hk8⟩
          rw [HN.out]
          rfl

/-- beside a whole number -/
theorem nearest_whole (fa fb : Value) (A K L : Nat) (w : World) (ha : Big w fa A K) (hb : Big w fb 1 L) (hK : K ≤ 3000) (hL : L ≤ 3000) :
    Calls Tryz.prog 35 #[.agg #[fa, fb]] w fun r w' => r = .returned (.int .u32 ((rndR (A * 2 ^ 149) : Nat) : Int)) ∧ Keep [] w w' := by
  refine (nearest_any fa fb A 1 K L w ha hb hK hL).mono ?_
  rintro e w' ⟨n, hl, he, hk⟩
  refine ⟨?_, hk⟩
  rw [he]
  have h1 : nearB A 1 n = nearN (A * 2 ^ 149) n := by unfold nearB nearN; rw [Nat.mul_one]
  have h2 : Low (A * 2 ^ 149) n := by
    unfold LowB at hl
    rw [Nat.mul_one, Nat.mul_one] at hl
    exact hl
  rw [h1, near_rnd _ _ h2]
end Go.Proofs.YtnljpbpphdhnpaaGreatDoor

