/- The reference's At and Float: the real of a number. -/
import Derived.Test.YtppimacfeelneaaFloE
namespace Go.Proofs.Ytppimacfeelneaa
open Go.RowKit Go.PlainAid Go.Lib

theorem at_any (n : Nat) (h : n < 2139095040) (w : World) : Calls Try.prog 79 #[.int .u32 (n : Int)] w fun e w' => e = .returned (.tuple #[.int .u64 (atM n : Nat), .int .i64 (atE n)]) ∧ w' = w := by
  by_cases hs : n < 8388608
  · have h1 : (n : Int) < 8388608 := by omega
    have hM : atM n = n := by unfold atM; rw [if_pos hs]
    have hE : atE n = -149 := by unfold atE; rw [if_pos hs]
    rw [hM, hE]
    go_enter Try.func79, Try.ntmps79
    go_wp2
    go_ret2
    refine ⟨?_, rfl⟩
    go_num
  · have h1 : ¬ (n : Int) < 8388608 := by omega
    have hM : atM n = 8388608 + n % 8388608 := by unfold atM; rw [if_neg hs]
    have hE : atE n = (n / 8388608 : Nat) - 150 := by unfold atE; rw [if_neg hs]
    rw [hM, hE]
    go_enter Try.func79, Try.ntmps79
    go_wp2
    go_ret2
    refine ⟨?_, rfl⟩
    go_num


theorem u64f64 (m : Nat) (w : World) : (convert 90 144 (.int .u64 (m : Int))).run Try.prog w = .ok (.float .f64 (floatOfInt .f64 (m : Int))) w := run_convert_int_float w 90 144 .u64 .f64 m (by kernel_rfl) Try.underlying144

theorem neg_low (n : Nat) (h : n < 2147483648) : Op.negFloat .f32 n = n + 2147483648 := by
  show n ^^^ 2147483648 = _
  rw [show (2147483648 : Nat) = 2 ^ 31 from rfl]
  have h2 : n ^^^ 2 ^ 31 = n ||| 2 ^ 31 := by
    apply Nat.eq_of_testBit_eq
    intro i
    rw [Nat.testBit_xor, Nat.testBit_or, Nat.testBit_two_pow]
    by_cases hi : 31 = i
    · subst hi
      rw [Nat.testBit_lt_two_pow (show n < 2 ^ 31 from h)]
      rfl
    · rw [show decide (31 = i) = false by simpa using hi]
      cases n.testBit i <;> rfl
  have h3 := Nat.two_pow_add_eq_or_of_lt (show n < 2 ^ 31 from h) 1
  rw [Nat.mul_one] at h3
  rw [h2, Nat.or_comm, ← h3]
  omega

set_option maxHeartbeats 1600000 in
theorem float_low (neg : Bool) (n : Nat) (h : n < 2139095040) (w : World) : Calls Try.prog 117 #[.bool neg, .int .u32 (n : Int)] w fun e w' => e = .returned (.float .f32 (if neg then n + 2147483648 else n)) ∧ w' = w := by
  have hA := at_any n h
  have h1 : ¬ (2139095040 ≤ (n : Int)) := by omega
  have hc := u64f64 (atM n)
  rw [fD_start] at hc
  have hm : ∀ (k : Int), 0 ≤ k → k < 104 → ∀ w, (binOp .mul 144 (.float .f64 (fD n k)) (.float .f64 4611686018427387904)).run Try.prog w = .ok (.float .f64 (fD n (k + 1))) w := fun k p q w => run_float_arith w .mul 144 .f64 _ _ _ (fD_mul n k p q)
  have hd : ∀ (k : Int), -149 ≤ k → k ≤ 104 → ∀ w, (binOp .quo 144 (.float .f64 (fD n k)) (.float .f64 4611686018427387904)).run Try.prog w = .ok (.float .f64 (fD n (k - 1))) w := fun k p q w => run_float_arith w .quo 144 .f64 _ _ _ (fD_div n k p q)
  have he : ∀ w, (convert 144 26 (.float .f64 (fD n (atE n)))).run Try.prog w = .ok (.float .f32 n) w := fun w => run_convert_float_float w 144 26 .f64 .f32 _ _ (by kernel_rfl) Try.underlying26 (fD_end n h)
  have hn := neg_low n (by omega)
  have a1 := atE_lo n
  have a2 := atE_hi n h
  generalize atE n = E at *
  generalize atM n = M at *
  generalize fD n = F at *
  have HM : Hid (∀ (k : Int), 0 ≤ k → k < 104 → ∀ w, (binOp .mul 144 (.float .f64 (F k)) (.float .f64 4611686018427387904)).run Try.prog w = .ok (.float .f64 (F (k + 1))) w) := hm
  have HD : Hid (∀ (k : Int), -149 ≤ k → k ≤ 104 → ∀ w, (binOp .quo 144 (.float .f64 (F k)) (.float .f64 4611686018427387904)).run Try.prog w = .ok (.float .f64 (F (k - 1))) w) := hd
  have HE : Hid (∀ w, (convert 144 26 (.float .f64 (F E))).run Try.prog w = .ok (.float .f32 n) w) := he
  have HN : Hid (Op.negFloat .f32 n = n + 2147483648) := hn
  clear hm hd he hn h
  go_enter Try.func117, Try.ntmps117
  go_wp2_with (first | (go_at_call 79; refine (hA _).mono ?_; rintro e9 w9 ⟨rfl, hw9⟩; obtain rfl := hw9.symm))
  go_loop [9, 10] (fun fv iv => ∃ k : Nat, iv = .int .i64 (k : Int) ∧ fv = .float .f64 (F (k : Int)) ∧ (k = 0 ∨ (k : Int) ≤ E)) (fun _ iv => (E - intOf iv).toNat)
  case atStart => exact ⟨0, rfl, rfl, .inl rfl⟩
  case round =>
    obtain ⟨k, rfl, rfl, hk⟩ := hrel
    by_cases hlt : (k : Int) < E
    · have hmk := HM.out (k : Int) (by omega) (by omega)
      go_wp2
      go_round
      case rel => exact ⟨k + 1, by go_num, rfl, .inr (by omega)⟩
      case measure => simp [intOf]; omega
    · go_wp2
      go_loop [9, 11] (fun fv iv => ∃ i : Int, iv = .int .i64 i ∧ E ≤ i ∧ (i ≤ 0 ∨ i = E) ∧ fv = .float .f64 (F ((k : Int) + E - i))) (fun _ iv => (- intOf iv).toNat)
      case atStart => exact ⟨E, rfl, by omega, .inr rfl, by rw [show (k : Int) + E - E = k by omega]⟩
      case round =>
        obtain ⟨i, rfl, hi1, hi2, rfl⟩ := hrel
        by_cases hi : i < 0
        · have hdk := HD.out ((k : Int) + E - i) (by omega) (by omega)
          go_wp2
          go_round
          case rel => exact ⟨i + 1, by go_num, by omega, .inl (by omega), by rw [show (k : Int) + E - i - 1 = k + E - (i + 1) by omega]⟩
          case measure => simp [intOf]; omega
        · have hce := HE.out
          rw [show (k : Int) + E - i = E by omega]
          have hng : ∀ w, (Op.unary .neg (.float .f32 n)).run Try.prog w = .ok (.float .f32 (n + 2147483648)) w := fun w => by
            show (pure (Value.float .f32 (Op.negFloat .f32 n)) : Sem Value).run Try.prog w = _
            rw [HN.out]
            rfl
          cases neg
          · go_wp2
            go_ret
            exact ⟨rfl, rfl⟩
          · go_wp2
            go_ret
            exact ⟨rfl, rfl⟩

end Go.Proofs.Ytppimacfeelneaa
