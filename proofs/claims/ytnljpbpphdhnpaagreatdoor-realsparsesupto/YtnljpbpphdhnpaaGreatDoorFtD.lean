/- The library's ftoa32 in the form e, for every float32 above 0. -/
import Derived.Test.YtnljpbpphdhnpaaGreatDoorFtC
namespace Go.Proofs.YtnljpbpphdhnpaaGreatDoor
open Go.RowKit Go.PlainAid

theorem TabR.keep {W W2 : World} (h : TabR W) (k : Keep [] W W2) : TabR W2 := fun j hj => ⟨k.cell' (h j hj).1 (by simp), k.cell' (h j hj).2 (by simp)⟩
theorem setDigits_n (n b : Nat) (w : World) (hD : (1 ≤ dF n ∧ dF n < 1073741824) ∧ (tzN (dF n) < ndN (dF n) ∧ tzN (dF n) < 10 ∧ (∀ i, i < tzN (dF n) → dF n / 10 ^ i % 10 = 0) ∧ dF n / 10 ^ tzN (dF n) % 10 ≠ 0) ∧ (1 ≤ ndN (dF n) ∧ ndN (dF n) ≤ 10 ∧ dF n < 10 ^ ndN (dF n)) ∧ -60 ≤ pF n ∧ pF n ≤ 60)
    (hZ : ∀ j, j < 32 → w.cell? ⟨b, j, none⟩ = some (.int .u8 0) ∧ w.frozen? ⟨b, j, none⟩ = false) :
    Calls Tryz.prog 139 #[.slice (some ⟨b, 0, none⟩) 32 32, .int .u64 (dF n : Nat), .int .i64 (pF n), .int .i64 (ndN (dF n) : Nat)] w fun e w' =>
      e = .returned (.tuple #[.int .i64 (exF n + 1), .int .i64 ((ndF n : Nat) : Int)]) ∧ Keep [b] w w' ∧ (∀ j, j < ndN (dF n) → w'.cell? ⟨b, j, none⟩ = some (.int .u8 ((Lib.dg (dF n) (ndN (dF n) - 1 - j)).toNat : Int))) ∧ (∀ j, ndN (dF n) ≤ j → j < 32 → w'.cell? ⟨b, j, none⟩ = some (.int .u8 0)) := by
  have h := setDigits_tz b (ndN (dF n)) (tzN (dF n)) (dF n) (pF n) w hD.2.1.1 hD.2.1.2.1 (by omega) hD.2.2.1.2.2 (by omega) hD.2.1.2.2.1 hD.2.1.2.2.2 (by omega) (by omega) hZ
  rw [show exF n + 1 = (ndN (dF n) : Int) + pF n by unfold exF; omega]
  exact h
theorem fmtE_n (n b : Nat) (w0 w : World) (v : Value) (hF : Fm w0 w v [] b 32 (digD n)) (h1 : 1 ≤ ndF n ∧ ndF n ≤ 10) (hE : -100 < exF n ∧ exF n < 100) :
    Calls Tryz.prog 137 #[v, .bool false, .slice (some ⟨b, 0, none⟩) 32 32, .int .i64 (exF n + 1), .int .i64 (ndF n : Nat), .int .i64 ((ndF n : Int) - 1), .int .u8 101, .bool true] w fun e w' =>
      ∃ v', e = .returned v' ∧ Fm w0 w' v' (txtE n) b 32 (digD n) := by
  have h := fmtE_all w0 w v [] b 32 (digD n) (ndF n) (exF n) hF (by decide) (by rw [digD_len]; decide) h1.1 (by rw [digD_len]; omega) (by decide) hE
  rw [digD_len, show ((ndF n - 1 : Nat) : Int) = (ndF n : Int) - 1 by omega] at h
  exact h

set_option maxRecDepth 1000000 in
set_option maxHeartbeats 4000000 in
theorem ftoa32_nrm (n : Nat) (h1 : 1 ≤ n) (h2 : n < 2139095040) (hn : 8388608 ≤ n) (w0 w : World) (v : Value) (hT : TabR w) (hU : TabU w) (hrow : Row w v []) (hk : Keep [] w0 w) (hf : Fresh w0 w v) :
    Calls Tryz.prog 108 #[v, .float .f32 n, .int .u8 101, .int .i64 (-1)] w fun e w' => ∃ v', e = .returned v' ∧ Row w' v' (txtE n) ∧ Keep [] w0 w' := by
  have hb := run_sbits n
  obtain ⟨a1, a2, a3, a4, _⟩ := at_facts n h1 h2
  obtain ⟨d1, d2⟩ := dF_bounds n h1 h2
  obtain ⟨t1, t2, t3, t4⟩ := tzN_ok (dF n) d1 d2
  obtain ⟨m1, m2, m3, m4⟩ := ndN_ok (dF n) d1 d2
  have hp := pF_bounds n h1 h2
  have hE : atE n = ((n / 8388608 : Nat) : Int) - 150 := by unfold atE; rw [if_neg (by omega)]
  have hM : atM n = 8388608 + n % 8388608 := by unfold atM; rw [if_neg (by omega)]
  obtain ⟨q, hq⟩ : ∃ q : Int, q = ((n / 8388608 : Nat) : Int) := ⟨_, rfl⟩
  obtain ⟨rr, hrr⟩ : ∃ r : Int, r = ((n % 8388608 : Nat) : Int) := ⟨_, rfl⟩
  have f1 : (n : Int) / 8388608 = q := by omega
  have f5 : bits .and .i64 q 255 = q := by rw [hq]; exact and255 _ (by omega)
  have f2 : bits .and .u64 (n : Int) 8388607 = rr := by rw [hrr]; exact and23 n (by omega)
  have f6 : bits .or .u64 rr 8388608 = ((atM n : Nat) : Int) := by rw [hrr, or23 _ (by omega), hM]
  have f8 : (q == 255) = false := by simp; omega
  have f9 : (q == 0) = false := by simp; omega
  have hqb : 1 ≤ q ∧ q ≤ 254 := by omega
  have f3 : (((atM n : Nat) : Int) == 0) = false := by simp; omega
  have f0 : (n : Int) / 2147483648 = 0 := by omega
  have hsl : upF n ≤ 63 := by unfold upF; omega
  have hl1 := Nat.log2_self_le (show atM n ≠ 0 by omega)
  have hl2 : atM n < 2 ^ ((atM n).log2 + 1) := Nat.lt_log2_self
  have hlog : (atM n).log2 < 24 := (Nat.log2_lt (by omega)).2 (by omega)
  have hlen : (Lib.bitLen ((atM n : Nat) : Int).toNat : Int) = 64 - ((upF n : Nat) : Int) := by
    rw [Int.toNat_natCast, bitLen_log (atM n) (by omega) (by omega)]
    unfold upF
    omega
  have hL := len64_at ((atM n : Nat) : Int) (by omega) (by omega) _ hlen
  have hmul : atM n * 2 ^ upF n < 18446744073709551616 := by
    have e1 : 2 ^ ((atM n).log2 + 1) * 2 ^ upF n = 18446744073709551616 := by
      rw [← Nat.pow_add, show (atM n).log2 + 1 + upF n = 64 by unfold upF; omega]
    rw [← e1]
    exact Nat.mul_lt_mul_of_pos_right hl2 (Nat.two_pow_pos _)
  obtain ⟨mm, hmm⟩ : ∃ x : Int, x = ((atM n * 2 ^ upF n : Nat) : Int) := ⟨_, rfl⟩
  have f10 : IntKind.u64.wrap (((atM n : Nat) : Int) * 2 ^ upF n) = mm := by
    rw [hmm]
    have e2 : ((atM n : Nat) : Int) * 2 ^ upF n = ((atM n * 2 ^ upF n : Nat) : Int) := by
      skip
      norm_cast
    rw [e2]
    exact u64_small _ (by omega) (by omega)
  have f11 : (64 : Int) - (64 - ((upF n : Nat) : Int)) = ((upF n : Nat) : Int) := by omega
  have hsi : (0 : Int) ≤ ((upF n : Nat) : Int) ∧ ((upF n : Nat) : Int) ≤ 63 := by omega
  have HR : Hid (Row w v [] ∧ Keep [] w0 w ∧ Fresh w0 w v) := ⟨hrow, hk, hf⟩
  have HT : Hid (TabR w ∧ TabU w) := ⟨hT, hU⟩
  have HS : Hid (∀ w, TabR w → Calls Tryz.prog 138 #[.int .u64 mm, .int .i64 (atE n - (upF n : Int))] w fun r w' => r = .returned (.tuple #[.int .u64 ((dF n : Nat) : Int), .int .i64 (pF n)]) ∧ ∃ (o : Obj) (k : Nat), w' = (w.alloc o).drewN k) := fun w hT => by
    rw [hmm]
    exact short_all n h1 h2 w hT
  have hEs : q + -127 - ((upF n : Nat) : Int) - 23 = atE n - ((upF n : Nat) : Int) := by rw [hE]; omega
  have HE : Hid (q + -127 - ((upF n : Nat) : Int) - 23 = atE n - ((upF n : Nat) : Int)) := hEs
  have HD : Hid ((1 ≤ dF n ∧ dF n < 1073741824) ∧ (tzN (dF n) < ndN (dF n) ∧ tzN (dF n) < 10 ∧ (∀ i, i < tzN (dF n) → dF n / 10 ^ i % 10 = 0) ∧ dF n / 10 ^ tzN (dF n) % 10 ≠ 0) ∧ (1 ≤ ndN (dF n) ∧ ndN (dF n) ≤ 10 ∧ dF n < 10 ^ ndN (dF n)) ∧ -60 ≤ pF n ∧ pF n ≤ 60) := ⟨⟨d1, d2⟩, ⟨t1, t2, t3, t4⟩, ⟨m1, m2, m4⟩, hp⟩
  clear hrow hk hf hT hU h1 h2 a1 a2 a3 a4 d1 d2 t1 t2 t3 t4 m1 m2 m3 m4 hp hl1 hl2 hlog hlen hmul hE hM hsl hn hEs hmm hq hrr
  go_enter Tryz.func108, Tryz.ntmps108
  go_wp2
  go_quiet (fail)
  go_wp2_with (first
    | (go_at_call 129; refine (hL _).mono ?_; rintro e9 w9 ⟨rfl, hw9⟩; obtain rfl := hw9.symm))
  rw [HE.out]
  refine (HS.out _ (HT.out.1.keep (((Keep.refl [] w).drewN nq).alloc _))).mono ?_
  rintro e9 w2 ⟨rfl, o9, k9, hw2⟩
  have HW : Hid _ := after_short2 w0 w w2 v nq k9 o9 HR.out.1 HR.out.2.1 HR.out.2.2 HT.out.2 hw2
  clear hw2
  go_wp2_with fail
  go_region_held3 (fun _ => True) (exact trivial)
    (first
    | (go_at_call 105; refine (numDigits_any (dF n) HD.out.1.1 HD.out.1.2 w2.drew HW.out.2.2.2.1).mono ?_; rintro e9 w9 ⟨rfl, hw9⟩; obtain rfl := hw9.symm)
    | (go_at_call 139; refine (setDigits_n n w.heap.size w2.drew HD.out HW.out.2.2.2.2.1).mono ?_; rintro e9 w3 ⟨rfl, g1, g2, g3⟩; have HX : Hid _ := after_set2 n w0 w2 w3 v w.heap.size HW.out.1 HW.out.2.1 HW.out.2.2.1 HR.out.2.1.size HW.out.2.2.2.2.2.2 ⟨g1.os, g1.tape, g1.output, g1.size, g1.block⟩ g2 g3; clear g1 g2 g3))
  have hz1 : 1 ≤ ((ndF n : Nat) : Int) ∧ ((ndF n : Nat) : Int) ≤ 10 := by
    have := HD.out.2.1.1
    have := HD.out.2.2.1.2.1
    unfold ndF
    omega
  have HZ : Hid (1 ≤ ndF n ∧ ndF n ≤ 10) := ⟨by omega, by omega⟩
  have HEX : Hid (-100 < exF n ∧ exF n < 100) := by
    have h1 := HD.out.2.2.1
    have h2 := HD.out.2.2.2
    show -100 < exF n ∧ exF n < 100
    unfold exF
    omega
  go_wp2_with fail
  rw [show max (((ndF n : Nat) : Int) - 1) 0 = ((ndF n : Nat) : Int) - 1 by omega]
  refine (fmtE_n n w.heap.size w0 w3 v HX.out HZ.out HEX.out).mono ?_
  rintro e9 w4 ⟨v4, rfl, hF4⟩
  have HY : Hid _ := hF4
  clear hF4
  go_wp2_with fail
  go_ret
  exact ⟨_, rfl, HY.out.row, HY.out.keep⟩

set_option maxRecDepth 1000000 in
set_option maxHeartbeats 4000000 in
theorem ftoa32_sub (n : Nat) (h1 : 1 ≤ n) (h2 : n < 2139095040) (hn : n < 8388608) (w0 w : World) (v : Value) (hT : TabR w) (hU : TabU w) (hrow : Row w v []) (hk : Keep [] w0 w) (hf : Fresh w0 w v) :
    Calls Tryz.prog 108 #[v, .float .f32 n, .int .u8 101, .int .i64 (-1)] w fun e w' => ∃ v', e = .returned v' ∧ Row w' v' (txtE n) ∧ Keep [] w0 w' := by
  have hb := run_sbits n
  obtain ⟨a1, a2, a3, a4, _⟩ := at_facts n h1 h2
  obtain ⟨d1, d2⟩ := dF_bounds n h1 h2
  obtain ⟨t1, t2, t3, t4⟩ := tzN_ok (dF n) d1 d2
  obtain ⟨m1, m2, m3, m4⟩ := ndN_ok (dF n) d1 d2
  have hp := pF_bounds n h1 h2
  have hE : atE n = -149 := ((at_facts n h1 h2).2.2.2.2.2.1 hn).2
  have hM : atM n = n := ((at_facts n h1 h2).2.2.2.2.2.1 hn).1
  have f1 : (n : Int) / 8388608 = 0 := by omega
  have f5 : bits .and .i64 0 255 = 0 := by decide
  have f2 : bits .and .u64 (n : Int) 8388607 = (n : Int) := by rw [and23 n (by omega)]; omega
  have f3 : ((n : Int) == 0) = false := by simp; omega
  have f0 : (n : Int) / 2147483648 = 0 := by omega
  have hsl : upF n ≤ 63 := by unfold upF; omega
  have hl1 := Nat.log2_self_le (show atM n ≠ 0 by omega)
  have hl2 : atM n < 2 ^ ((atM n).log2 + 1) := Nat.lt_log2_self
  have hlog : (atM n).log2 < 24 := (Nat.log2_lt (by omega)).2 (by omega)
  have hlen : (Lib.bitLen (n : Int).toNat : Int) = 64 - ((upF n : Nat) : Int) := by
    have hc : (n : Int) = ((atM n : Nat) : Int) := by omega
    rw [hc]
    rw [Int.toNat_natCast, bitLen_log (atM n) (by omega) (by omega)]
    unfold upF
    omega
  have hL := len64_at (n : Int) (by omega) (by omega) _ hlen
  have hmul : atM n * 2 ^ upF n < 18446744073709551616 := by
    have e1 : 2 ^ ((atM n).log2 + 1) * 2 ^ upF n = 18446744073709551616 := by
      rw [← Nat.pow_add, show (atM n).log2 + 1 + upF n = 64 by unfold upF; omega]
    rw [← e1]
    exact Nat.mul_lt_mul_of_pos_right hl2 (Nat.two_pow_pos _)
  obtain ⟨mm, hmm⟩ : ∃ x : Int, x = ((atM n * 2 ^ upF n : Nat) : Int) := ⟨_, rfl⟩
  have f10 : IntKind.u64.wrap ((n : Int) * 2 ^ upF n) = mm := by
    rw [hmm]
    have e2 : (n : Int) * 2 ^ upF n = ((atM n * 2 ^ upF n : Nat) : Int) := by
      rw [hM]
      norm_cast
    rw [e2]
    exact u64_small _ (by omega) (by omega)
  have f11 : (64 : Int) - (64 - ((upF n : Nat) : Int)) = ((upF n : Nat) : Int) := by omega
  have hsi : (0 : Int) ≤ ((upF n : Nat) : Int) ∧ ((upF n : Nat) : Int) ≤ 63 := by omega
  have HR : Hid (Row w v [] ∧ Keep [] w0 w ∧ Fresh w0 w v) := ⟨hrow, hk, hf⟩
  have HT : Hid (TabR w ∧ TabU w) := ⟨hT, hU⟩
  have HS : Hid (∀ w, TabR w → Calls Tryz.prog 138 #[.int .u64 mm, .int .i64 (atE n - (upF n : Int))] w fun r w' => r = .returned (.tuple #[.int .u64 ((dF n : Nat) : Int), .int .i64 (pF n)]) ∧ ∃ (o : Obj) (k : Nat), w' = (w.alloc o).drewN k) := fun w hT => by
    rw [hmm]
    exact short_all n h1 h2 w hT
  have hEs : (-126 : Int) - ((upF n : Nat) : Int) - 23 = atE n - ((upF n : Nat) : Int) := by rw [hE]; omega
  have HE : Hid ((-126 : Int) - ((upF n : Nat) : Int) - 23 = atE n - ((upF n : Nat) : Int)) := hEs
  have HD : Hid ((1 ≤ dF n ∧ dF n < 1073741824) ∧ (tzN (dF n) < ndN (dF n) ∧ tzN (dF n) < 10 ∧ (∀ i, i < tzN (dF n) → dF n / 10 ^ i % 10 = 0) ∧ dF n / 10 ^ tzN (dF n) % 10 ≠ 0) ∧ (1 ≤ ndN (dF n) ∧ ndN (dF n) ≤ 10 ∧ dF n < 10 ^ ndN (dF n)) ∧ -60 ≤ pF n ∧ pF n ≤ 60) := ⟨⟨d1, d2⟩, ⟨t1, t2, t3, t4⟩, ⟨m1, m2, m4⟩, hp⟩
  clear hrow hk hf hT hU h1 h2 a1 a2 a3 a4 d1 d2 t1 t2 t3 t4 m1 m2 m3 m4 hp hl1 hl2 hlog hlen hmul hE hM hsl hn hEs hmm
  go_enter Tryz.func108, Tryz.ntmps108
  go_wp2
  go_quiet (fail)
  go_wp2_with (first
    | (go_at_call 129; refine (hL _).mono ?_; rintro e9 w9 ⟨rfl, hw9⟩; obtain rfl := hw9.symm))
  rw [HE.out]
  refine (HS.out _ (HT.out.1.keep (((Keep.refl [] w).drewN nq).alloc _))).mono ?_
  rintro e9 w2 ⟨rfl, o9, k9, hw2⟩
  have HW : Hid _ := after_short2 w0 w w2 v nq k9 o9 HR.out.1 HR.out.2.1 HR.out.2.2 HT.out.2 hw2
  clear hw2
  go_wp2_with fail
  go_region_held3 (fun _ => True) (exact trivial)
    (first
    | (go_at_call 105; refine (numDigits_any (dF n) HD.out.1.1 HD.out.1.2 w2.drew HW.out.2.2.2.1).mono ?_; rintro e9 w9 ⟨rfl, hw9⟩; obtain rfl := hw9.symm)
    | (go_at_call 139; refine (setDigits_n n w.heap.size w2.drew HD.out HW.out.2.2.2.2.1).mono ?_; rintro e9 w3 ⟨rfl, g1, g2, g3⟩; have HX : Hid _ := after_set2 n w0 w2 w3 v w.heap.size HW.out.1 HW.out.2.1 HW.out.2.2.1 HR.out.2.1.size HW.out.2.2.2.2.2.2 ⟨g1.os, g1.tape, g1.output, g1.size, g1.block⟩ g2 g3; clear g1 g2 g3))
  have hz1 : 1 ≤ ((ndF n : Nat) : Int) ∧ ((ndF n : Nat) : Int) ≤ 10 := by
    have := HD.out.2.1.1
    have := HD.out.2.2.1.2.1
    unfold ndF
    omega
  have HZ : Hid (1 ≤ ndF n ∧ ndF n ≤ 10) := ⟨by omega, by omega⟩
  have HEX : Hid (-100 < exF n ∧ exF n < 100) := by
    have h1 := HD.out.2.2.1
    have h2 := HD.out.2.2.2
    show -100 < exF n ∧ exF n < 100
    unfold exF
    omega
  go_wp2_with fail
  rw [show max (((ndF n : Nat) : Int) - 1) 0 = ((ndF n : Nat) : Int) - 1 by omega]
  refine (fmtE_n n w.heap.size w0 w3 v HX.out HZ.out HEX.out).mono ?_
  rintro e9 w4 ⟨v4, rfl, hF4⟩
  have HY : Hid _ := hF4
  clear hF4
  go_wp2_with fail
  go_ret
  exact ⟨_, rfl, HY.out.row, HY.out.keep⟩
end Go.Proofs.YtnljpbpphdhnpaaGreatDoor
