/- The digits as bytes. -/
import Derived.Test.YtnljpbpphdhnpaaGreatDoorFloE
import Derived.Test.YtnljpbpphdhnpaaGreatDoorTxM
import Derived.Test.YtnljpbpphdhnpaaGreatDoorRlA

namespace Go.Proofs.YtnljpbpphdhnpaaGreatDoor

/-- the m digits of a number -/
def decL (q m : Nat) : List UInt8 := (List.range m).map fun j => Lib.dg q (m - 1 - j)
theorem decL_len (q m : Nat) : (decL q m).length = m := by simp [decL]
theorem dg_shift (q z i : Nat) : Lib.dg (q * 10 ^ z) (i + z) = Lib.dg q i := by
  unfold Lib.dg
  rw [Nat.pow_add, Nat.mul_div_mul_right _ _ (Nat.pow_pos (by decide))]
theorem dg_shift2 (q i : Nat) : Lib.dg q (i + 1) = Lib.dg (q / 10) i := by
  unfold Lib.dg
  rw [Nat.pow_succ, Nat.mul_comm, ← Nat.div_div_eq_div_mul]
theorem decL_succ (q m : Nat) : decL q (m + 1) = decL (q / 10) m ++ [UInt8.ofNat (48 + q % 10)] := by
  unfold decL
  rw [List.range_succ, List.map_append]
  congr 1
  · apply List.map_congr_left
    intro j hj
    have hj := List.mem_range.1 hj
    rw [show m + 1 - 1 - j = m - 1 - j + 1 by omega]
    exact dg_shift2 q _
  · simp [Lib.dg]
theorem decL_one (q : Nat) (h : q < 10) : decL q 1 = [UInt8.ofNat (48 + q)] := by
  simp [decL, Lib.dg]
  rw [Nat.mod_eq_of_lt h]
theorem isD_told (n q s P : Nat) (h1 : 1 ≤ n) (h2 : n < 2139095040) (h : IsD n q s P) : digs n = decL q s ∧ exF n = (P : Int) - 60 + s - 1 := by
  obtain ⟨hs, c1, c2, c3, z, c4, c5⟩ := h
  obtain ⟨d1, d2⟩ := dF_bounds n h1 h2
  obtain ⟨m1, m2, m3, m4⟩ := ndN_ok (dF n) d1 d2
  obtain ⟨t1, t2, t3, t4⟩ := tzN_ok (dF n) d1 d2
  have hl := digs_len n h1 h2
  have hg := fun j => digs_get n j h1 h2
  have h10 : 0 < 10 ^ z := Nat.pow_pos (by decide)
  have hnd : ndN (dF n) = s + z := by
    have b1 : 10 ^ (s - 1 + z) ≤ dF n := by rw [c4, Nat.pow_add]; exact Nat.mul_le_mul_right _ c1
    have b2 : dF n < 10 ^ (s + z) := by rw [c4, Nat.pow_add]; exact Nat.mul_lt_mul_of_pos_right c2 h10
    have b3 : 10 ^ (ndN (dF n) - 1) < 10 ^ (s + z) := by omega
    have b4 : 10 ^ (s - 1 + z) < 10 ^ ndN (dF n) := by omega
    have b5 := (Nat.pow_lt_pow_iff_right (show 1 < 10 by decide)).1 b3
    have b6 := (Nat.pow_lt_pow_iff_right (show 1 < 10 by decide)).1 b4
    omega
  have htz : tzN (dF n) = z := by
    rcases Nat.lt_trichotomy (tzN (dF n)) z with h | h | h
    · exfalso
      refine t4 ?_
      clear t1 t2 t3 m3 m4 hnd hl hg
      generalize tzN (dF n) = T at *
      obtain ⟨i, rfl⟩ : ∃ i, z = T + 1 + i := ⟨z - T - 1, by omega⟩
      rw [c4, show q * 10 ^ (T + 1 + i) = q * 10 ^ i * 10 * 10 ^ T by rw [Nat.pow_add, Nat.pow_add, Nat.pow_one]; ac_rfl, Nat.mul_div_cancel _ (Nat.pow_pos (by decide))]
      exact Nat.mul_mod_left _ _
    · exact h
    · exfalso
      have := t3 z h
      rw [c4, Nat.mul_div_cancel _ h10] at this
      exact c3 this
  have hnF : ndF n = s := by unfold ndF; omega
  refine ⟨?_, by unfold exF; omega⟩
  apply List.ext_getElem?
  intro j
  rcases Nat.lt_or_ge j s with hj | hj
  · rw [hg j (by omega), hnd]
    unfold decL
    rw [List.getElem?_map, List.getElem?_range hj]
    show some _ = some _
    rw [c4, show s + z - 1 - j = s - 1 - j + z by omega, dg_shift]
  · rw [List.getElem?_eq_none (by omega), List.getElem?_eq_none (by rw [decL_len]; exact hj)]

end Go.Proofs.YtnljpbpphdhnpaaGreatDoor

/- The reference's At and Float: the real of a number. -/
namespace Go.Proofs.YtnljpbpphdhnpaaGreatDoor
open Go.RowKit Go.PlainAid Go.Lib

theorem at_any (n : Nat) (h : n < 2139095040) (w : World) : Calls Tryz.prog 41 #[.int .u32 (n : Int)] w fun e w' => e = .returned (.tuple #[.int .u64 (atM n : Nat), .int .i64 (atE n)]) ∧ w' = w := by
  by_cases hs : n < 8388608
  · have h1 : (n : Int) < 8388608 := by omega
    have hM : atM n = n := by unfold atM; rw [if_pos hs]
    have hE : atE n = -149 := by unfold atE; rw [if_pos hs]
    rw [hM, hE]
    go_enter Tryz.func41, Tryz.ntmps41
    go_wp2
    go_ret2
    refine ⟨?_, rfl⟩
    go_num
  · have h1 : ¬ (n : Int) < 8388608 := by omega
    have hM : atM n = 8388608 + n % 8388608 := by unfold atM; rw [if_neg hs]
    have hE : atE n = (n / 8388608 : Nat) - 150 := by unfold atE; rw [if_neg hs]
    rw [hM, hE]
    go_enter Tryz.func41, Tryz.ntmps41
    go_wp2
    go_ret2
    refine ⟨?_, rfl⟩
    go_num


theorem u64f64 (m : Nat) (w : World) : (convert 65 80 (.int .u64 (m : Int))).run Tryz.prog w = .ok (.float .f64 (floatOfInt .f64 (m : Int))) w := run_convert_int_float w 65 80 .u64 .f64 m (by kernel_rfl) Tryz.underlying80

theorem neg_low (n : Nat) (h : n < 2147483648) : Op.negFloat .f32 n = n + 2147483648 := by
  show n ^^^ 2147483648 = _
  rw [show (2147483648 : Nat) = 2 ^ 31 from rfl]
  have h2 : n ^^^ 2 ^ 31 = n ||| 2 ^ 31 := by
    apply Nat.eq_of_testBit_eq
    intro i
    rw [Nat.testBit_xor, Nat.testBit_or, Nat.testBit_two_pow]
    by_cases hi : 31 = i
    · subst hi
      rw [Nat.testBit_lt_two_pow (show n < 2 ^ 31 from h)]
      rfl
    · rw [show decide (31 = i) = false by simpa using hi]
      cases n.testBit i <;> rfl
  have h3 := Nat.two_pow_add_eq_or_of_lt (show n < 2 ^ 31 from h) 1
  rw [Nat.mul_one] at h3
  rw [h2, Nat.or_comm, ← h3]
  omega

set_option maxHeartbeats 1600000 in
theorem float_low (neg : Bool) (n : Nat) (h : n < 2139095040) (w : World) : Calls Tryz.prog 32 #[.bool neg, .int .u32 (n : Int)] w fun e w' => e = .returned (.float .f32 (if neg then n + 2147483648 else n)) ∧ w' = w := by
  have hA := at_any n h
  have h1 : ¬ (2139095040 ≤ (n : Int)) := by omega
  have hc := u64f64 (atM n)
  rw [fD_start] at hc
  have hm : ∀ (k : Int), 0 ≤ k → k < 104 → ∀ w, (binOp .mul 80 (.float .f64 (fD n k)) (.float .f64 4611686018427387904)).run Tryz.prog w = .ok (.float .f64 (fD n (k + 1))) w := fun k p q w => run_float_arith w .mul 80 .f64 _ _ _ (fD_mul n k p q)
  have hd : ∀ (k : Int), -149 ≤ k → k ≤ 104 → ∀ w, (binOp .quo 80 (.float .f64 (fD n k)) (.float .f64 4611686018427387904)).run Tryz.prog w = .ok (.float .f64 (fD n (k - 1))) w := fun k p q w => run_float_arith w .quo 80 .f64 _ _ _ (fD_div n k p q)
  have he : ∀ w, (convert 80 22 (.float .f64 (fD n (atE n)))).run Tryz.prog w = .ok (.float .f32 n) w := fun w => run_convert_float_float w 80 22 .f64 .f32 _ _ (by kernel_rfl) Tryz.underlying22 (fD_end n h)
  have hn := neg_low n (by omega)
  have a1 := atE_lo n
  have a2 := atE_hi n h
  generalize atE n = E at *
  generalize atM n = M at *
  generalize fD n = F at *
  have HM : Hid (∀ (k : Int), 0 ≤ k → k < 104 → ∀ w, (binOp .mul 80 (.float .f64 (F k)) (.float .f64 4611686018427387904)).run Tryz.prog w = .ok (.float .f64 (F (k + 1))) w) := hm
  have HD : Hid (∀ (k : Int), -149 ≤ k → k ≤ 104 → ∀ w, (binOp .quo 80 (.float .f64 (F k)) (.float .f64 4611686018427387904)).run Tryz.prog w = .ok (.float .f64 (F (k - 1))) w) := hd
  have HE : Hid (∀ w, (convert 80 22 (.float .f64 (F E))).run Tryz.prog w = .ok (.float .f32 n) w) := he
  have HN : Hid (Op.negFloat .f32 n = n + 2147483648) := hn
  clear hm hd he hn h
  go_enter Tryz.func32, Tryz.ntmps32
  go_wp2_with (first | (go_at_call 41; refine (hA _).mono ?_; rintro e9 w9 ⟨rfl, hw9⟩; obtain rfl := hw9.symm))
  go_loop [9, 10] (fun fv iv => ∃ k : Nat, iv = .int .i64 (k : Int) ∧ fv = .float .f64 (F (k : Int)) ∧ (k = 0 ∨ (k : Int) ≤ E)) (fun _ iv => (E - RowKit.intOf iv).toNat)
  case atStart => exact ⟨0, rfl, rfl, .inl rfl⟩
  case round =>
    obtain ⟨k, rfl, rfl, hk⟩ := hrel
    by_cases hlt : (k : Int) < E
    · have hmk := HM.out (k : Int) (by omega) (by omega)
      go_wp2
      go_round
      case rel => exact ⟨k + 1, by go_num, rfl, .inr (by omega)⟩
      case measure => simp [RowKit.intOf]; omega
    · go_wp2
      go_loop [9, 11] (fun fv iv => ∃ i : Int, iv = .int .i64 i ∧ E ≤ i ∧ (i ≤ 0 ∨ i = E) ∧ fv = .float .f64 (F ((k : Int) + E - i))) (fun _ iv => (- RowKit.intOf iv).toNat)
      case atStart => exact ⟨E, rfl, by omega, .inr rfl, by rw [show (k : Int) + E - E = k by omega]⟩
      case round =>
        obtain ⟨i, rfl, hi1, hi2, rfl⟩ := hrel
        by_cases hi : i < 0
        · have hdk := HD.out ((k : Int) + E - i) (by omega) (by omega)
          go_wp2
          go_round
          case rel => exact ⟨i + 1, by go_num, by omega, .inl (by omega), by rw [show (k : Int) + E - i - 1 = k + E - (i + 1) by omega]⟩
          case measure => simp [RowKit.intOf]; omega
        · have hce := HE.out
          rw [show (k : Int) + E - i = E by omega]
          have hng : ∀ w, (Op.unary .neg (.float .f32 n)).run Tryz.prog w = .ok (.float .f32 (n + 2147483648)) w := fun w => by
            show (pure (Value.float .f32 (Op.negFloat .f32 n)) : Sem Value).run Tryz.prog w = _
            rw [HN.out]
            rfl
          cases neg
          · go_wp2
            go_ret
            exact ⟨rfl, rfl⟩
          · go_wp2
            go_ret
            exact ⟨rfl, rfl⟩

end Go.Proofs.YtnljpbpphdhnpaaGreatDoor


/- The reference's Float at every number, Number, IsNan, Below, Same. -/
namespace Go.Proofs.YtnljpbpphdhnpaaGreatDoor
open Go.RowKit Go.PlainAid Go.Lib

set_option maxHeartbeats 1600000 in
theorem float_over (neg : Bool) (n : Nat) (h : 2139095040 ≤ n) (w : World) : Calls Tryz.prog 32 #[.bool neg, .int .u32 (n : Int)] w fun e w' => e = .returned (.float .f32 (if neg then 4286578688 else 2139095040)) ∧ w' = w := by
  have h1 : 2139095040 ≤ (n : Int) := by omega
  have hq : ∀ w, (binOp .quo 22 (.float .f32 1065353216) (.float .f32 0)).run Tryz.prog w = .ok (.float .f32 2139095040) w := fun w => run_float_arith w .quo 22 .f32 _ _ _ (by decide)
  have hng : ∀ w, (Op.unary .neg (.float .f32 2139095040)).run Tryz.prog w = .ok (.float .f32 4286578688) w := fun w => rfl
  cases neg
  · go_enter Tryz.func32, Tryz.ntmps32
    go_wp2
    go_ret
    exact ⟨rfl, rfl⟩
  · go_enter Tryz.func32, Tryz.ntmps32
    go_wp2
    go_ret
    exact ⟨rfl, rfl⟩

/-- Float of a number up to the infinite one's -/
theorem float_any (neg : Bool) (n : Nat) (h : n ≤ 2139095040) (w : World) : Calls Tryz.prog 32 #[.bool neg, .int .u32 (n : Int)] w fun e w' => e = .returned (.float .f32 (if neg then n + 2147483648 else n)) ∧ w' = w := by
  by_cases h1 : n < 2139095040
  · exact float_low neg n h1 w
  · obtain rfl : n = 2139095040 := by omega
    exact float_over neg _ (Nat.le_refl _) w

theorem rlt_any (a b : Nat) (ha : rungN a ≤ 2139095040) (hb : rungN b ≤ 2139095040) : (FloatKind.f32.format.order a b == some Ordering.lt) = decide (srungZ a < srungZ b) := by
  show (Ieee.single.order a b == some Ordering.lt) = _
  rw [order_any, if_neg (by omega)]
  rcases Int.lt_trichotomy (srungZ a) (srungZ b) with h | h | h
  · rw [show compare (srungZ a) (srungZ b) = .lt from Int.compare_eq_lt.2 h, show decide (srungZ a < srungZ b) = true by simpa using h]; rfl
  · rw [show compare (srungZ a) (srungZ b) = .eq from Int.compare_eq_eq.2 h, show decide (srungZ a < srungZ b) = false by simp; omega]; rfl
  · rw [show compare (srungZ a) (srungZ b) = .gt from Int.compare_eq_gt.2 h, show decide (srungZ a < srungZ b) = false by simp; omega]; rfl

theorem req_any (a b : Nat) (ha : rungN a ≤ 2139095040) (hb : rungN b ≤ 2139095040) : (FloatKind.f32.format.order a b == some Ordering.eq) = decide (srungZ a = srungZ b) := by
  show (Ieee.single.order a b == some Ordering.eq) = _
  rw [order_any, if_neg (by omega)]
  rcases Int.lt_trichotomy (srungZ a) (srungZ b) with h | h | h
  · rw [show compare (srungZ a) (srungZ b) = .lt from Int.compare_eq_lt.2 h, show decide (srungZ a = srungZ b) = false by simp; omega]; rfl
  · rw [show compare (srungZ a) (srungZ b) = .eq from Int.compare_eq_eq.2 h, show decide (srungZ a = srungZ b) = true by simpa using h]; rfl
  · rw [show compare (srungZ a) (srungZ b) = .gt from Int.compare_eq_gt.2 h, show decide (srungZ a = srungZ b) = false by simp; omega]; rfl

theorem neg_high (n : Nat) (h : 2147483648 ≤ n) (h2 : n < 4294967296) : Op.negFloat .f32 n = n - 2147483648 := by
  have h3 := neg_low (n - 2147483648) (by omega)
  have h4 : n - 2147483648 + 2147483648 = n := by omega
  rw [h4] at h3
  have h5 : Op.negFloat .f32 n = Op.negFloat .f32 (Op.negFloat .f32 (n - 2147483648)) := by rw [h3]
  rw [h5]
  show (n - 2147483648) ^^^ 2147483648 ^^^ 2147483648 = _
  rw [Nat.xor_assoc, Nat.xor_self, Nat.xor_zero]

theorem srung_low (n : Nat) (h : n < 2147483648) : srungZ n = n ∧ rungN n = n := by
  unfold srungZ rungN
  rw [if_neg (by omega)]
  omega

/-- the halving: a real without sign -/
theorem half_step (lo hi : Nat) (h1 : lo < hi) (h2 : hi ≤ 2139095041) (hd : 1 < hi - lo) : lo < lo + (hi - lo) / 2 ∧ lo + (hi - lo) / 2 < hi := by omega

set_option maxHeartbeats 3200000 in
theorem number_any (x : Nat) (hx : x < 4294967296) (hn : nanB x = false) (w : World) : Calls Tryz.prog 19 #[.float .f32 x] w fun e w' => e = .returned (.int .u32 (rungN x : Nat)) ∧ w' = w := by
  have hr : rungN x ≤ 2139095040 := by simpa [nanB, rungN] using hn
  have hlt := rlt_any x 0 hr (by decide)
  rw [(srung_low 0 (by decide)).1] at hlt
  have key : ∀ y : Nat, rungN y = rungN x → srungZ y = (rungN x : Nat) → ∀ m : Nat, m ≤ 2139095040 → (FloatKind.f32.format.order m y == some Ordering.lt) = decide (m < rungN x) ∧ (FloatKind.f32.format.order m y == some Ordering.eq) = decide (m = rungN x) := fun y h1 h2 m hm => by
    have p1 : rungN m ≤ 2139095040 := by rw [(srung_low m (by omega)).2]; exact hm
    rw [rlt_any m y p1 (by rw [h1]; exact hr), req_any m y p1 (by rw [h1]; exact hr), (srung_low m (by omega)).1, h2]
    constructor
    · simp
    · simp; omega
  have hF := fun (m : Nat) (hm : m ≤ 2139095040) => float_any false m hm
  simp only [Bool.false_eq_true, if_false] at hF
  by_cases hb : srungZ x < ((0 : Nat) : Int)
  · have hx2 : 2147483648 ≤ x := by
      unfold srungZ at hb
      split at hb <;> omega
    have hng : ∀ w, (Op.unary .neg (.float .f32 x)).run Tryz.prog w = .ok (.float .f32 (x - 2147483648)) w := fun w => by
      show (pure (Value.float .f32 (Op.negFloat .f32 x)) : Sem Value).run Tryz.prog w = _
      rw [neg_high x hx2 hx]
      rfl
    have k2 := key (x - 2147483648) (by unfold rungN; omega) (by rw [(srung_low _ (by omega)).1]; unfold rungN; omega)
    rw [show decide (srungZ x < ((0 : Nat) : Int)) = true by simpa using hb] at hlt
    have HK : Hid (∀ m : Nat, m ≤ 2139095040 → (FloatKind.f32.format.order m (x - 2147483648) == some Ordering.lt) = decide (m < rungN x) ∧ (FloatKind.f32.format.order m (x - 2147483648) == some Ordering.eq) = decide (m = rungN x)) := k2
    clear key hb hx2 k2 hn
    generalize rungN x = r at *
    generalize x - 2147483648 = y at *
    have HF : Hid (∀ (m : Nat), m ≤ 2139095040 → ∀ (w : World), Calls Tryz.prog 32 #[.bool false, .int .u32 (m : Int)] w fun e w' => e = .returned (.float .f32 m) ∧ w' = w) := hF
    clear hF
    go_enter Tryz.func19, Tryz.ntmps19
    go_wp2
    go_loop [3, 4] (fun lv hv => ∃ lo hi : Nat, lv = .int .u32 (lo : Int) ∧ hv = .int .u32 (hi : Int) ∧ lo ≤ r ∧ r < hi ∧ hi ≤ 2139095041) (fun lv hv => (RowKit.intOf hv - RowKit.intOf lv).toNat)
    case atStart => exact ⟨0, 2139095041, rfl, rfl, Nat.zero_le _, by omega, Nat.le_refl _⟩
    case round =>
      obtain ⟨lo, hi, rfl, rfl, l1, l2, l3⟩ := hrel
      by_cases hd : lo + 1 < hi
      · have hdi : 1 < (hi : Int) - lo := by omega
        obtain ⟨m, hmid⟩ : ∃ m : Nat, m = lo + (hi - lo) / 2 := ⟨_, rfl⟩
        have hfm := HF.out m (by omega)
        obtain ⟨k1, k2⟩ := HK.out m (by omega)
        have hmz : (m : Int) = (lo : Int) + ((hi : Int) - lo) / 2 := by omega
        have HZ : Hid ((m : Int) = (lo : Int) + ((hi : Int) - lo) / 2 ∧ lo < m ∧ m < hi) := ⟨hmz, by omega, by omega⟩
        rw [hmz] at hfm
        clear hmz hmid
        rcases Nat.lt_trichotomy m r with hle | hle | hle
        · rw [show decide (m < r) = true by simpa using hle] at k1
          clear k2
          go_wp2_with (go_at_call 32; refine (hfm _).mono ?_; rintro e9 w9 ⟨rfl, hw9⟩; obtain rfl := hw9.symm)
          go_round
          case rel => exact ⟨m, hi, by rw [HZ.out.1], rfl, by omega, l2, l3⟩
          case measure => have := HZ.out; simp only [RowKit.intOf]; omega
        · rw [show decide (m < r) = false by simp; omega] at k1
          rw [show decide (m = r) = true by simpa using hle] at k2
          have HL : Hid (m = r) := hle
          clear hle
          go_wp2_with (go_at_call 32; refine (hfm _).mono ?_; rintro e9 w9 ⟨rfl, hw9⟩; obtain rfl := hw9.symm)
          go_round
          case rel => exact ⟨m, hi, by rw [HZ.out.1], rfl, by have := HL.out; omega, l2, l3⟩
          case measure => have := HZ.out; simp only [RowKit.intOf]; omega
        · rw [show decide (m < r) = false by simp; omega] at k1
          rw [show decide (m = r) = false by simp; omega] at k2
          go_wp2_with (go_at_call 32; refine (hfm _).mono ?_; rintro e9 w9 ⟨rfl, hw9⟩; obtain rfl := hw9.symm)
          go_round
          case rel => exact ⟨lo, m, rfl, by rw [HZ.out.1], l1, by omega, by have := HZ.out; omega⟩
          case measure => have := HZ.out; simp only [RowKit.intOf]; omega
      · have hdi : ¬ 1 < (hi : Int) - lo := by omega
        obtain rfl : lo = r := by omega
        go_wp2
        go_ret
        exact ⟨rfl, rfl⟩
  · rw [show decide (srungZ x < ((0 : Nat) : Int)) = false by simpa using hb] at hlt
    have k2 := key x rfl (by unfold srungZ at hb ⊢; split at hb <;> simp_all <;> omega)
    have HK : Hid (∀ m : Nat, m ≤ 2139095040 → (FloatKind.f32.format.order m x == some Ordering.lt) = decide (m < rungN x) ∧ (FloatKind.f32.format.order m x == some Ordering.eq) = decide (m = rungN x)) := k2
    clear key hb k2 hn
    generalize rungN x = r at *
    have HF : Hid (∀ (m : Nat), m ≤ 2139095040 → ∀ (w : World), Calls Tryz.prog 32 #[.bool false, .int .u32 (m : Int)] w fun e w' => e = .returned (.float .f32 m) ∧ w' = w) := hF
    clear hF
    go_enter Tryz.func19, Tryz.ntmps19
    go_wp2
    go_loop [3, 4] (fun lv hv => ∃ lo hi : Nat, lv = .int .u32 (lo : Int) ∧ hv = .int .u32 (hi : Int) ∧ lo ≤ r ∧ r < hi ∧ hi ≤ 2139095041) (fun lv hv => (RowKit.intOf hv - RowKit.intOf lv).toNat)
    case atStart => exact ⟨0, 2139095041, rfl, rfl, Nat.zero_le _, by omega, Nat.le_refl _⟩
    case round =>
      obtain ⟨lo, hi, rfl, rfl, l1, l2, l3⟩ := hrel
      by_cases hd : lo + 1 < hi
      · have hdi : 1 < (hi : Int) - lo := by omega
        obtain ⟨m, hmid⟩ : ∃ m : Nat, m = lo + (hi - lo) / 2 := ⟨_, rfl⟩
        have hfm := HF.out m (by omega)
        obtain ⟨k1, k2⟩ := HK.out m (by omega)
        have hmz : (m : Int) = (lo : Int) + ((hi : Int) - lo) / 2 := by omega
        have HZ : Hid ((m : Int) = (lo : Int) + ((hi : Int) - lo) / 2 ∧ lo < m ∧ m < hi) := ⟨hmz, by omega, by omega⟩
        rw [hmz] at hfm
        clear hmz hmid
        rcases Nat.lt_trichotomy m r with hle | hle | hle
        · rw [show decide (m < r) = true by simpa using hle] at k1
          clear k2
          go_wp2_with (go_at_call 32; refine (hfm _).mono ?_; rintro e9 w9 ⟨rfl, hw9⟩; obtain rfl := hw9.symm)
          go_round
          case rel => exact ⟨m, hi, by rw [HZ.out.1], rfl, by omega, l2, l3⟩
          case measure => have := HZ.out; simp only [RowKit.intOf]; omega
        · rw [show decide (m < r) = false by simp; omega] at k1
          rw [show decide (m = r) = true by simpa using hle] at k2
          have HL : Hid (m = r) := hle
          clear hle
          go_wp2_with (go_at_call 32; refine (hfm _).mono ?_; rintro e9 w9 ⟨rfl, hw9⟩; obtain rfl := hw9.symm)
          go_round
          case rel => exact ⟨m, hi, by rw [HZ.out.1], rfl, by have := HL.out; omega, l2, l3⟩
          case measure => have := HZ.out; simp only [RowKit.intOf]; omega
        · rw [show decide (m < r) = false by simp; omega] at k1
          rw [show decide (m = r) = false by simp; omega] at k2
          go_wp2_with (go_at_call 32; refine (hfm _).mono ?_; rintro e9 w9 ⟨rfl, hw9⟩; obtain rfl := hw9.symm)
          go_round
          case rel => exact ⟨lo, m, rfl, by rw [HZ.out.1], l1, by omega, by have := HZ.out; omega⟩
          case measure => have := HZ.out; simp only [RowKit.intOf]; omega
      · have hdi : ¬ 1 < (hi : Int) - lo := by omega
        obtain rfl : lo = r := by omega
        go_wp2
        go_ret
        exact ⟨rfl, rfl⟩

end Go.Proofs.YtnljpbpphdhnpaaGreatDoor

