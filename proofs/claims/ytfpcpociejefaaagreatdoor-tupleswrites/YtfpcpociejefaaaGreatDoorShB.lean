/- The library's shortFloat, for every float32. -/
import Derived.Test.YtfpcpociejefaaaGreatDoorShA
import Derived.Lib.RabinKarpLaws
namespace Go.Proofs.YtfpcpociejefaaaGreatDoor
open Go.RowKit Go.PlainAid
theorem and_odd (M o : Nat) (h : M % 2 = o) (hM : M < 9223372036854775808) : bits .and .i64 (M : Int) 1 = (o : Int) := by
 rw [_root_.Go.Proofs.and_one M hM, h]
theorem tup2 {a b c d : Int} (h : a = b) (g : c = d) : Value.tuple #[.int .u64 a, .int .i64 c] = Value.tuple #[.int .u64 b, .int .i64 d] := by rw [h, g]
/-- the digits, and whether the last one was struck -/
def shD (ul uh um o : Nat) : Nat × Nat :=
 if (ul + o + 3) / 4 ≤ (uh - o) / 4 / 10 * 10 then ((uh - o) / 4 / 10, 1)
 else if (ul + o + 3) / 4 < (uh - o) / 4 then (rndU um, 0) else ((ul + o + 3) / 4, 0)
set_option maxRecDepth 1000000 in
set_option maxHeartbeats 4000000 in
theorem short_N0 (m M : Nat) (e : Int) (j s ul uh um : Nat) (h63 : 9223372036854775808 ≤ m) (hmt : m + 549755813888 + 4 ≤ 18446744073709551616) (hmM : m / 1099511627776 = M) (hM : M % 2 = 0) (he : -189 ≤ e ∧ e ≤ 64) (hns : m ≠ 9223372036854775808)
  (hj : (j : Int) = 31 - ((e + 40) * 78913 / 262144)) (hj77 : j < 77) (hs : (s : Int) = -(e + lpR j + 3)) (hs64 : s < 64)
  (hul : uscN (m - 549755813888) (hiR j) (loR j) s = ul) (huh : uscN (m + 549755813888) (hiR j) (loR j) s = uh) (hum : uscN m (hiR j) (loR j) s = um) (bl : 1 ≤ ul ∧ ul ≤ 1000000000) (bh : 1 ≤ uh ∧ uh ≤ 1000000000) (bm : 1 ≤ um ∧ um ≤ 1000000000)
  (w : World) (c0 : w.cell? ⟨11, (317 + j) * 2, none⟩ = some (.int .u64 (hiR j : Int))) (c1 : w.cell? ⟨11, (317 + j) * 2 + 1, none⟩ = some (.int .u64 (loR j : Int))) :
  Calls Tryz.prog 186 #[.int .u64 (m : Int), .int .i64 e] w fun r w' => r = .returned (.tuple #[.int .u64 ((shD ul uh um 0).1 : Int), .int .i64 (31 - (j : Int) + ((shD ul uh um 0).2 : Int))]) ∧ ∃ n, w' = (w.alloc (preO (hiR j) (loR j) s)).drewN n := by
 obtain ⟨a1, a2, a3, a4, a5, a6⟩ := row_facts j hj77
 clear a6
 have hlog := log10_any (e + 40) (by omega)
 have hl2 := log2_neg ((j : Int) - 31) (by omega)
 have hlp : ((j : Int) - 31) * 108853 / 32768 = lpR j := rfl
 rw [hlp] at hl2
 have hP := fun x0 x1 x2 => prescale_any (317 + j) e ((j : Int) - 31) (lpR j) (hiR j : Int) (loR j : Int) x0 x1 x2 214 w (by omega) (by omega) (by omega) (by omega) c0 c1
 rw [← hs] at hP
 clear hs
 have hle : ∀ x : Nat, x * loR j ≤ x * hiR j * 18446744073709551616 := fun x => by
  rw [Nat.mul_assoc]
  exact Nat.mul_le_mul_left _ a3
 have hU1 := usc_nat (m - 549755813888) (hiR j) (loR j) s (by omega) a1 a2 hs64 (hle _) w 0
 have hU2 := fun n => usc_nat (m + 549755813888) (hiR j) (loR j) s (by omega) a1 a2 hs64 (hle _) w n
 have hU3 := fun n => usc_nat m (hiR j) (loR j) s (by omega) a1 a2 hs64 (hle _) w n
 rw [hul, show ((m - 549755813888 : Nat) : Int) = (m : Int) - 549755813888 by omega] at hU1
 rw [huh, show ((m + 549755813888 : Nat) : Int) = (m : Int) + 549755813888 by omega] at hU2
 rw [hum] at hU3
 have hn1 := nudge_0 (ul : Int) (by omega)
 have hn2 := nudge_0 (uh : Int) (by omega)
 have hce := ceil_any ((ul : Int)) (by omega)
 have hfl := floor_any ((uh : Int)) (by omega)
 have hro := round_any (um : Int) ((um / 4 % 2 : Nat) : Int) ((rndU um : Nat) : Int) (by omega) (by rw [show (um : Int) / 4 = ((um / 4 : Nat) : Int) by omega]; exact and_one _ (by omega)) (by omega) (by unfold rndU; omega)
 have hodd : bits .and .i64 ((m : Int) / 1099511627776) 1 = 0 := by
  rw [show (m : Int) / 1099511627776 = (M : Int) by omega]
  exact and_odd M 0 hM (by omega)
 have hlv : -100 ≤ ((e + 40) * 78913 / 262144) ∧ ((e + 40) * 78913 / 262144) ≤ 100 := by omega
 have hjj : -((e + 40) * 78913 / 262144) = (j : Int) - 31 := by omega
 generalize ((e + 40) * 78913 / 262144) = lv at *
 have hjl : lv = 31 - (j : Int) := by omega
 subst hjl
 clear hj
 have ht1 : ((m : Int) == 9223372036854775808) = false := by rw [beq_eq_false_iff_ne]; omega
 have ht2 : decide (-189 ≤ e) = true := decide_eq_true he.1
 clear hns
 clear hul huh hum hle hlp c0 c1 hmM hM a1 a2 a3 a4 a5
 go_enter Tryz.func186, Tryz.ntmps186
 go_wp2_with fail
 refine (hlog _).mono ?_
 rintro e9 w9 ⟨rfl, hw9⟩
 obtain rfl := hw9.symm
 clear hlog
 go_wp2_with fail
 refine (hl2 _).mono ?_
 rintro e9 w9 ⟨rfl, hw9⟩
 obtain rfl := hw9.symm
 clear hl2
 go_wp2_with fail
 refine (hP _ _ _).mono ?_
 rintro e9 w9 ⟨rfl, hw9⟩
 obtain rfl := hw9.symm
 go_wp2_with fail
 refine hU1.mono ?_
 rintro e9 w9 ⟨rfl, n1, rfl⟩
 clear hU1 hP
 go_wp2_with fail
 refine (hn1 _).mono ?_
 rintro e9 w9 ⟨rfl, hw9⟩
 obtain rfl := hw9.symm
 clear hn1
 go_wp2_with fail
 refine (hce _).mono ?_
 rintro e9 w9 ⟨rfl, hw9⟩
 obtain rfl := hw9.symm
 clear hce
 go_wp2_with fail
 refine (hU2 _).mono ?_
 rintro e9 w9 ⟨rfl, n2, rfl⟩
 clear hU2
 go_wp2_with fail
 refine (hn2 _).mono ?_
 rintro e9 w9 ⟨rfl, hw9⟩
 obtain rfl := hw9.symm
 clear hn2
 go_wp2_with fail
 refine (hfl _).mono ?_
 rintro e9 w9 ⟨rfl, hw9⟩
 obtain rfl := hw9.symm
 clear hfl
 by_cases hA : (ul + 0 + 3) / 4 ≤ (uh - 0) / 4 / 10 * 10
 ·have hD : Hid (shD ul uh um 0 = ((uh - 0) / 4 / 10, 1)) := by show _ = _; unfold shD; rw [if_pos hA]
  have gA : decide (((ul : Int) + 3) / 4 ≤ (uh : Int) / 4 / 10 * 10) = true := decide_eq_true (by omega)
  clear hA hU3 hro
  go_wp2_with fail
  go_ret2
  exact ⟨by rw [hD.out]; exact congrArg Ending.returned (tup2 (by dsimp only <;> omega) (by dsimp only <;> omega)), _, rfl⟩
 ·have gA : decide (((ul : Int) + 3) / 4 ≤ (uh : Int) / 4 / 10 * 10) = false := decide_eq_false (by omega)
  by_cases hB : (ul + 0 + 3) / 4 < (uh - 0) / 4
  ·have hD : Hid (shD ul uh um 0 = (rndU um, 0)) := by show _ = _; unfold shD; rw [if_neg hA, if_pos hB]
   have gB : decide (((ul : Int) + 3) / 4 < (uh : Int) / 4) = true := decide_eq_true (by omega)
   clear hA hB
   go_wp2_with fail
   refine (hU3 _).mono ?_
   rintro e9 w9 ⟨rfl, n3, rfl⟩
   clear hU3
   go_wp2_with fail
   refine (hro _).mono ?_
   rintro e9 w9 ⟨rfl, hw9⟩
   obtain rfl := hw9.symm
   clear hro
   go_wp2_with fail
   go_ret2
   exact ⟨by rw [hD.out]; exact congrArg Ending.returned (tup2 (by dsimp only <;> omega) (by dsimp only <;> omega)), _, rfl⟩
  ·have hD : Hid (shD ul uh um 0 = ((ul + 0 + 3) / 4, 0)) := by show _ = _; unfold shD; rw [if_neg hA, if_neg hB]
   have gB : decide (((ul : Int) + 3) / 4 < (uh : Int) / 4) = false := decide_eq_false (by omega)
   clear hA hB hU3 hro
   go_wp2_with fail
   go_ret2
   exact ⟨by rw [hD.out]; exact congrArg Ending.returned (tup2 (by dsimp only <;> omega) (by dsimp only <;> omega)), _, rfl⟩
set_option maxRecDepth 1000000 in
set_option maxHeartbeats 4000000 in
theorem short_N1 (m M : Nat) (e : Int) (j s ul uh um : Nat) (h63 : 9223372036854775808 ≤ m) (hmt : m + 549755813888 + 4 ≤ 18446744073709551616) (hmM : m / 1099511627776 = M) (hM : M % 2 = 1) (he : -189 ≤ e ∧ e ≤ 64) (_hns : m ≠ 9223372036854775808)
  (hj : (j : Int) = 31 - ((e + 40) * 78913 / 262144)) (hj77 : j < 77) (hs : (s : Int) = -(e + lpR j + 3)) (hs64 : s < 64)
  (hul : uscN (m - 549755813888) (hiR j) (loR j) s = ul) (huh : uscN (m + 549755813888) (hiR j) (loR j) s = uh) (hum : uscN m (hiR j) (loR j) s = um) (bl : 1 ≤ ul ∧ ul ≤ 1000000000) (bh : 1 ≤ uh ∧ uh ≤ 1000000000) (bm : 1 ≤ um ∧ um ≤ 1000000000)
  (w : World) (c0 : w.cell? ⟨11, (317 + j) * 2, none⟩ = some (.int .u64 (hiR j : Int))) (c1 : w.cell? ⟨11, (317 + j) * 2 + 1, none⟩ = some (.int .u64 (loR j : Int))) :
  Calls Tryz.prog 186 #[.int .u64 (m : Int), .int .i64 e] w fun r w' => r = .returned (.tuple #[.int .u64 ((shD ul uh um 1).1 : Int), .int .i64 (31 - (j : Int) + ((shD ul uh um 1).2 : Int))]) ∧ ∃ n, w' = (w.alloc (preO (hiR j) (loR j) s)).drewN n := by
 obtain ⟨a1, a2, a3, a4, a5, a6⟩ := row_facts j hj77
 clear a6
 have hlog := log10_any (e + 40) (by omega)
 have hl2 := log2_neg ((j : Int) - 31) (by omega)
 have hlp : ((j : Int) - 31) * 108853 / 32768 = lpR j := rfl
 rw [hlp] at hl2
 have hP := fun x0 x1 x2 => prescale_any (317 + j) e ((j : Int) - 31) (lpR j) (hiR j : Int) (loR j : Int) x0 x1 x2 214 w (by omega) (by omega) (by omega) (by omega) c0 c1
 rw [← hs] at hP
 clear hs
 have hle : ∀ x : Nat, x * loR j ≤ x * hiR j * 18446744073709551616 := fun x => by
  rw [Nat.mul_assoc]
  exact Nat.mul_le_mul_left _ a3
 have hU1 := usc_nat (m - 549755813888) (hiR j) (loR j) s (by omega) a1 a2 hs64 (hle _) w 0
 have hU2 := fun n => usc_nat (m + 549755813888) (hiR j) (loR j) s (by omega) a1 a2 hs64 (hle _) w n
 have hU3 := fun n => usc_nat m (hiR j) (loR j) s (by omega) a1 a2 hs64 (hle _) w n
 rw [hul, show ((m - 549755813888 : Nat) : Int) = (m : Int) - 549755813888 by omega] at hU1
 rw [huh, show ((m + 549755813888 : Nat) : Int) = (m : Int) + 549755813888 by omega] at hU2
 rw [hum] at hU3
 have hn1 := nudge_1 (ul : Int) (by omega)
 have hn2 := nudge_m (uh : Int) (by omega)
 have hce := ceil_any ((ul : Int) + 1) (by omega)
 have hfl := floor_any ((uh : Int) - 1) (by omega)
 have hro := round_any (um : Int) ((um / 4 % 2 : Nat) : Int) ((rndU um : Nat) : Int) (by omega) (by rw [show (um : Int) / 4 = ((um / 4 : Nat) : Int) by omega]; exact and_one _ (by omega)) (by omega) (by unfold rndU; omega)
 have hodd : bits .and .i64 ((m : Int) / 1099511627776) 1 = 1 := by
  rw [show (m : Int) / 1099511627776 = (M : Int) by omega]
  exact and_odd M 1 hM (by omega)
 have hlv : -100 ≤ ((e + 40) * 78913 / 262144) ∧ ((e + 40) * 78913 / 262144) ≤ 100 := by omega
 have hjj : -((e + 40) * 78913 / 262144) = (j : Int) - 31 := by omega
 generalize ((e + 40) * 78913 / 262144) = lv at *
 have hjl : lv = 31 - (j : Int) := by omega
 subst hjl
 clear hj
 have ht1 : ((m : Int) == 9223372036854775808) = false := by rw [beq_eq_false_iff_ne]; omega
 have ht2 : decide (-189 ≤ e) = true := decide_eq_true he.1
 clear _hns
 clear hul huh hum hle hlp c0 c1 hmM hM a1 a2 a3 a4 a5
 go_enter Tryz.func186, Tryz.ntmps186
 go_wp2_with fail
 refine (hlog _).mono ?_
 rintro e9 w9 ⟨rfl, hw9⟩
 obtain rfl := hw9.symm
 clear hlog
 go_wp2_with fail
 refine (hl2 _).mono ?_
 rintro e9 w9 ⟨rfl, hw9⟩
 obtain rfl := hw9.symm
 clear hl2
 go_wp2_with fail
 refine (hP _ _ _).mono ?_
 rintro e9 w9 ⟨rfl, hw9⟩
 obtain rfl := hw9.symm
 go_wp2_with fail
 refine hU1.mono ?_
 rintro e9 w9 ⟨rfl, n1, rfl⟩
 clear hU1 hP
 go_wp2_with fail
 refine (hn1 _).mono ?_
 rintro e9 w9 ⟨rfl, hw9⟩
 obtain rfl := hw9.symm
 clear hn1
 go_wp2_with fail
 refine (hce _).mono ?_
 rintro e9 w9 ⟨rfl, hw9⟩
 obtain rfl := hw9.symm
 clear hce
 go_wp2_with fail
 refine (hU2 _).mono ?_
 rintro e9 w9 ⟨rfl, n2, rfl⟩
 clear hU2
 go_wp2_with fail
 refine (hn2 _).mono ?_
 rintro e9 w9 ⟨rfl, hw9⟩
 obtain rfl := hw9.symm
 clear hn2
 go_wp2_with fail
 refine (hfl _).mono ?_
 rintro e9 w9 ⟨rfl, hw9⟩
 obtain rfl := hw9.symm
 clear hfl
 by_cases hA : (ul + 1 + 3) / 4 ≤ (uh - 1) / 4 / 10 * 10
 ·have hD : Hid (shD ul uh um 1 = ((uh - 1) / 4 / 10, 1)) := by show _ = _; unfold shD; rw [if_pos hA]
  have gA : decide (((ul : Int) + 1 + 3) / 4 ≤ ((uh : Int) - 1) / 4 / 10 * 10) = true := decide_eq_true (by omega)
  clear hA hU3 hro
  go_wp2_with fail
  go_ret2
  exact ⟨by rw [hD.out]; exact congrArg Ending.returned (tup2 (by dsimp only <;> omega) (by dsimp only <;> omega)), _, rfl⟩
 ·have gA : decide (((ul : Int) + 1 + 3) / 4 ≤ ((uh : Int) - 1) / 4 / 10 * 10) = false := decide_eq_false (by omega)
  by_cases hB : (ul + 1 + 3) / 4 < (uh - 1) / 4
  ·have hD : Hid (shD ul uh um 1 = (rndU um, 0)) := by show _ = _; unfold shD; rw [if_neg hA, if_pos hB]
   have gB : decide (((ul : Int) + 1 + 3) / 4 < ((uh : Int) - 1) / 4) = true := decide_eq_true (by omega)
   clear hA hB
   go_wp2_with fail
   refine (hU3 _).mono ?_
   rintro e9 w9 ⟨rfl, n3, rfl⟩
   clear hU3
   go_wp2_with fail
   refine (hro _).mono ?_
   rintro e9 w9 ⟨rfl, hw9⟩
   obtain rfl := hw9.symm
   clear hro
   go_wp2_with fail
   go_ret2
   exact ⟨by rw [hD.out]; exact congrArg Ending.returned (tup2 (by dsimp only <;> omega) (by dsimp only <;> omega)), _, rfl⟩
  ·have hD : Hid (shD ul uh um 1 = ((ul + 1 + 3) / 4, 0)) := by show _ = _; unfold shD; rw [if_neg hA, if_neg hB]
   have gB : decide (((ul : Int) + 1 + 3) / 4 < ((uh : Int) - 1) / 4) = false := decide_eq_false (by omega)
   clear hA hB hU3 hro
   go_wp2_with fail
   go_ret2
   exact ⟨by rw [hD.out]; exact congrArg Ending.returned (tup2 (by dsimp only <;> omega) (by dsimp only <;> omega)), _, rfl⟩
set_option maxRecDepth 1000000 in
set_option maxHeartbeats 4000000 in
theorem short_L0 (m M : Nat) (e : Int) (j s ul uh um : Nat) (h63 : 9223372036854775808 ≤ m) (hmt : m + 549755813888 + 4 ≤ 18446744073709551616) (hmM : m / 1099511627776 = M) (hM : M % 2 = 0) (he : -189 ≤ e ∧ e ≤ 64) (hll : m = 9223372036854775808 ∧ e = -189)
  (hj : (j : Int) = 31 - ((e + 40) * 78913 / 262144)) (hj77 : j < 77) (hs : (s : Int) = -(e + lpR j + 3)) (hs64 : s < 64)
  (hul : uscN (m - 549755813888) (hiR j) (loR j) s = ul) (huh : uscN (m + 549755813888) (hiR j) (loR j) s = uh) (hum : uscN m (hiR j) (loR j) s = um) (bl : 1 ≤ ul ∧ ul ≤ 1000000000) (bh : 1 ≤ uh ∧ uh ≤ 1000000000) (bm : 1 ≤ um ∧ um ≤ 1000000000)
  (w : World) (c0 : w.cell? ⟨11, (317 + j) * 2, none⟩ = some (.int .u64 (hiR j : Int))) (c1 : w.cell? ⟨11, (317 + j) * 2 + 1, none⟩ = some (.int .u64 (loR j : Int))) :
  Calls Tryz.prog 186 #[.int .u64 (m : Int), .int .i64 e] w fun r w' => r = .returned (.tuple #[.int .u64 ((shD ul uh um 0).1 : Int), .int .i64 (31 - (j : Int) + ((shD ul uh um 0).2 : Int))]) ∧ ∃ n, w' = (w.alloc (preO (hiR j) (loR j) s)).drewN n := by
 obtain ⟨a1, a2, a3, a4, a5, a6⟩ := row_facts j hj77
 clear a6
 have hlog := log10_any (e + 40) (by omega)
 have hl2 := log2_neg ((j : Int) - 31) (by omega)
 have hlp : ((j : Int) - 31) * 108853 / 32768 = lpR j := rfl
 rw [hlp] at hl2
 have hP := fun x0 x1 x2 => prescale_any (317 + j) e ((j : Int) - 31) (lpR j) (hiR j : Int) (loR j : Int) x0 x1 x2 214 w (by omega) (by omega) (by omega) (by omega) c0 c1
 rw [← hs] at hP
 clear hs
 have hle : ∀ x : Nat, x * loR j ≤ x * hiR j * 18446744073709551616 := fun x => by
  rw [Nat.mul_assoc]
  exact Nat.mul_le_mul_left _ a3
 have hU1 := usc_nat (m - 549755813888) (hiR j) (loR j) s (by omega) a1 a2 hs64 (hle _) w 0
 have hU2 := fun n => usc_nat (m + 549755813888) (hiR j) (loR j) s (by omega) a1 a2 hs64 (hle _) w n
 have hU3 := fun n => usc_nat m (hiR j) (loR j) s (by omega) a1 a2 hs64 (hle _) w n
 rw [hul, show ((m - 549755813888 : Nat) : Int) = (m : Int) - 549755813888 by omega] at hU1
 rw [huh, show ((m + 549755813888 : Nat) : Int) = (m : Int) + 549755813888 by omega] at hU2
 rw [hum] at hU3
 have hn1 := nudge_0 (ul : Int) (by omega)
 have hn2 := nudge_0 (uh : Int) (by omega)
 have hce := ceil_any ((ul : Int)) (by omega)
 have hfl := floor_any ((uh : Int)) (by omega)
 have hro := round_any (um : Int) ((um / 4 % 2 : Nat) : Int) ((rndU um : Nat) : Int) (by omega) (by rw [show (um : Int) / 4 = ((um / 4 : Nat) : Int) by omega]; exact and_one _ (by omega)) (by omega) (by unfold rndU; omega)
 have hodd : bits .and .i64 ((m : Int) / 1099511627776) 1 = 0 := by
  rw [show (m : Int) / 1099511627776 = (M : Int) by omega]
  exact and_odd M 0 hM (by omega)
 have hlv : -100 ≤ ((e + 40) * 78913 / 262144) ∧ ((e + 40) * 78913 / 262144) ≤ 100 := by omega
 have hjj : -((e + 40) * 78913 / 262144) = (j : Int) - 31 := by omega
 generalize ((e + 40) * 78913 / 262144) = lv at *
 have hjl : lv = 31 - (j : Int) := by omega
 subst hjl
 clear hj
 have ht1 : ((m : Int) == 9223372036854775808) = true := by rw [beq_iff_eq]; omega
 have ht2 : decide (-189 ≤ e) = true := decide_eq_true he.1
 have ht3 : decide (-189 < e) = false := decide_eq_false (by omega)
 clear hll
 clear hul huh hum hle hlp c0 c1 hmM hM a1 a2 a3 a4 a5
 go_enter Tryz.func186, Tryz.ntmps186
 go_wp2_with fail
 refine (hlog _).mono ?_
 rintro e9 w9 ⟨rfl, hw9⟩
 obtain rfl := hw9.symm
 clear hlog
 go_wp2_with fail
 refine (hl2 _).mono ?_
 rintro e9 w9 ⟨rfl, hw9⟩
 obtain rfl := hw9.symm
 clear hl2
 go_wp2_with fail
 refine (hP _ _ _).mono ?_
 rintro e9 w9 ⟨rfl, hw9⟩
 obtain rfl := hw9.symm
 go_wp2_with fail
 refine hU1.mono ?_
 rintro e9 w9 ⟨rfl, n1, rfl⟩
 clear hU1 hP
 go_wp2_with fail
 refine (hn1 _).mono ?_
 rintro e9 w9 ⟨rfl, hw9⟩
 obtain rfl := hw9.symm
 clear hn1
 go_wp2_with fail
 refine (hce _).mono ?_
 rintro e9 w9 ⟨rfl, hw9⟩
 obtain rfl := hw9.symm
 clear hce
 go_wp2_with fail
 refine (hU2 _).mono ?_
 rintro e9 w9 ⟨rfl, n2, rfl⟩
 clear hU2
 go_wp2_with fail
 refine (hn2 _).mono ?_
 rintro e9 w9 ⟨rfl, hw9⟩
 obtain rfl := hw9.symm
 clear hn2
 go_wp2_with fail
 refine (hfl _).mono ?_
 rintro e9 w9 ⟨rfl, hw9⟩
 obtain rfl := hw9.symm
 clear hfl
 by_cases hA : (ul + 0 + 3) / 4 ≤ (uh - 0) / 4 / 10 * 10
 ·have hD : Hid (shD ul uh um 0 = ((uh - 0) / 4 / 10, 1)) := by show _ = _; unfold shD; rw [if_pos hA]
  have gA : decide (((ul : Int) + 3) / 4 ≤ (uh : Int) / 4 / 10 * 10) = true := decide_eq_true (by omega)
  clear hA hU3 hro
  go_wp2_with fail
  go_ret2
  exact ⟨by rw [hD.out]; exact congrArg Ending.returned (tup2 (by dsimp only <;> omega) (by dsimp only <;> omega)), _, rfl⟩
 ·have gA : decide (((ul : Int) + 3) / 4 ≤ (uh : Int) / 4 / 10 * 10) = false := decide_eq_false (by omega)
  by_cases hB : (ul + 0 + 3) / 4 < (uh - 0) / 4
  ·have hD : Hid (shD ul uh um 0 = (rndU um, 0)) := by show _ = _; unfold shD; rw [if_neg hA, if_pos hB]
   have gB : decide (((ul : Int) + 3) / 4 < (uh : Int) / 4) = true := decide_eq_true (by omega)
   clear hA hB
   go_wp2_with fail
   refine (hU3 _).mono ?_
   rintro e9 w9 ⟨rfl, n3, rfl⟩
   clear hU3
   go_wp2_with fail
   refine (hro _).mono ?_
   rintro e9 w9 ⟨rfl, hw9⟩
   obtain rfl := hw9.symm
   clear hro
   go_wp2_with fail
   go_ret2
   exact ⟨by rw [hD.out]; exact congrArg Ending.returned (tup2 (by dsimp only <;> omega) (by dsimp only <;> omega)), _, rfl⟩
  ·have hD : Hid (shD ul uh um 0 = ((ul + 0 + 3) / 4, 0)) := by show _ = _; unfold shD; rw [if_neg hA, if_neg hB]
   have gB : decide (((ul : Int) + 3) / 4 < (uh : Int) / 4) = false := decide_eq_false (by omega)
   clear hA hB hU3 hro
   go_wp2_with fail
   go_ret2
   exact ⟨by rw [hD.out]; exact congrArg Ending.returned (tup2 (by dsimp only <;> omega) (by dsimp only <;> omega)), _, rfl⟩
set_option maxRecDepth 1000000 in
set_option maxHeartbeats 4000000 in
theorem short_S0 (m M : Nat) (e : Int) (j s ul uh um : Nat) (h63 : 9223372036854775808 ≤ m) (hmt : m + 549755813888 + 4 ≤ 18446744073709551616) (hmM : m / 1099511627776 = M) (hM : M % 2 = 0) (he : -189 ≤ e ∧ e ≤ 64) (hsk : m = 9223372036854775808 ∧ -189 < e)
  (hj : (j : Int) = 31 - (((e + 40) * 631305 - 261663) / 2097152)) (hj77 : j < 77) (hs : (s : Int) = -(e + lpR j + 3)) (hs64 : s < 64)
  (hul : uscN (m - 274877906944) (hiR j) (loR j) s = ul) (huh : uscN (m + 549755813888) (hiR j) (loR j) s = uh) (hum : uscN m (hiR j) (loR j) s = um) (bl : 1 ≤ ul ∧ ul ≤ 1000000000) (bh : 1 ≤ uh ∧ uh ≤ 1000000000) (bm : 1 ≤ um ∧ um ≤ 1000000000)
  (w : World) (c0 : w.cell? ⟨11, (317 + j) * 2, none⟩ = some (.int .u64 (hiR j : Int))) (c1 : w.cell? ⟨11, (317 + j) * 2 + 1, none⟩ = some (.int .u64 (loR j : Int))) :
  Calls Tryz.prog 186 #[.int .u64 (m : Int), .int .i64 e] w fun r w' => r = .returned (.tuple #[.int .u64 ((shD ul uh um 0).1 : Int), .int .i64 (31 - (j : Int) + ((shD ul uh um 0).2 : Int))]) ∧ ∃ n, w' = (w.alloc (preO (hiR j) (loR j) s)).drewN n := by
 obtain ⟨a1, a2, a3, a4, a5, a6⟩ := row_facts j hj77
 clear a6
 have hlog := skew_any (e + 40) (by omega)
 have hl2 := log2_neg ((j : Int) - 31) (by omega)
 have hlp : ((j : Int) - 31) * 108853 / 32768 = lpR j := rfl
 rw [hlp] at hl2
 have hP := fun x0 x1 x2 => prescale_any (317 + j) e ((j : Int) - 31) (lpR j) (hiR j : Int) (loR j : Int) x0 x1 x2 214 w (by omega) (by omega) (by omega) (by omega) c0 c1
 rw [← hs] at hP
 clear hs
 have hle : ∀ x : Nat, x * loR j ≤ x * hiR j * 18446744073709551616 := fun x => by
  rw [Nat.mul_assoc]
  exact Nat.mul_le_mul_left _ a3
 have hU1 := usc_nat (m - 274877906944) (hiR j) (loR j) s (by omega) a1 a2 hs64 (hle _) w 0
 have hU2 := fun n => usc_nat (m + 549755813888) (hiR j) (loR j) s (by omega) a1 a2 hs64 (hle _) w n
 have hU3 := fun n => usc_nat m (hiR j) (loR j) s (by omega) a1 a2 hs64 (hle _) w n
 rw [hul, show ((m - 274877906944 : Nat) : Int) = (m : Int) - 274877906944 by omega] at hU1
 rw [huh, show ((m + 549755813888 : Nat) : Int) = (m : Int) + 549755813888 by omega] at hU2
 rw [hum] at hU3
 have hn1 := nudge_0 (ul : Int) (by omega)
 have hn2 := nudge_0 (uh : Int) (by omega)
 have hce := ceil_any ((ul : Int)) (by omega)
 have hfl := floor_any ((uh : Int)) (by omega)
 have hro := round_any (um : Int) ((um / 4 % 2 : Nat) : Int) ((rndU um : Nat) : Int) (by omega) (by rw [show (um : Int) / 4 = ((um / 4 : Nat) : Int) by omega]; exact and_one _ (by omega)) (by omega) (by unfold rndU; omega)
 have hodd : bits .and .i64 ((m : Int) / 1099511627776) 1 = 0 := by
  rw [show (m : Int) / 1099511627776 = (M : Int) by omega]
  exact and_odd M 0 hM (by omega)
 have hlv : -100 ≤ (((e + 40) * 631305 - 261663) / 2097152) ∧ (((e + 40) * 631305 - 261663) / 2097152) ≤ 100 := by omega
 have hjj : -(((e + 40) * 631305 - 261663) / 2097152) = (j : Int) - 31 := by omega
 generalize (((e + 40) * 631305 - 261663) / 2097152) = lv at *
 have hjl : lv = 31 - (j : Int) := by omega
 subst hjl
 clear hj
 have ht1 : ((m : Int) == 9223372036854775808) = true := by rw [beq_iff_eq]; omega
 have ht2 : decide (-189 < e) = true := decide_eq_true hsk.2
 clear hsk
 clear hul huh hum hle hlp c0 c1 hmM hM a1 a2 a3 a4 a5
 go_enter Tryz.func186, Tryz.ntmps186
 go_wp2_with fail
 refine (hlog _).mono ?_
 rintro e9 w9 ⟨rfl, hw9⟩
 obtain rfl := hw9.symm
 clear hlog
 go_wp2_with fail
 refine (hl2 _).mono ?_
 rintro e9 w9 ⟨rfl, hw9⟩
 obtain rfl := hw9.symm
 clear hl2
 go_wp2_with fail
 refine (hP _ _ _).mono ?_
 rintro e9 w9 ⟨rfl, hw9⟩
 obtain rfl := hw9.symm
 go_wp2_with fail
 refine hU1.mono ?_
 rintro e9 w9 ⟨rfl, n1, rfl⟩
 clear hU1 hP
 go_wp2_with fail
 refine (hn1 _).mono ?_
 rintro e9 w9 ⟨rfl, hw9⟩
 obtain rfl := hw9.symm
 clear hn1
 go_wp2_with fail
 refine (hce _).mono ?_
 rintro e9 w9 ⟨rfl, hw9⟩
 obtain rfl := hw9.symm
 clear hce
 go_wp2_with fail
 refine (hU2 _).mono ?_
 rintro e9 w9 ⟨rfl, n2, rfl⟩
 clear hU2
 go_wp2_with fail
 refine (hn2 _).mono ?_
 rintro e9 w9 ⟨rfl, hw9⟩
 obtain rfl := hw9.symm
 clear hn2
 go_wp2_with fail
 refine (hfl _).mono ?_
 rintro e9 w9 ⟨rfl, hw9⟩
 obtain rfl := hw9.symm
 clear hfl
 by_cases hA : (ul + 0 + 3) / 4 ≤ (uh - 0) / 4 / 10 * 10
 ·have hD : Hid (shD ul uh um 0 = ((uh - 0) / 4 / 10, 1)) := by show _ = _; unfold shD; rw [if_pos hA]
  have gA : decide (((ul : Int) + 3) / 4 ≤ (uh : Int) / 4 / 10 * 10) = true := decide_eq_true (by omega)
  clear hA hU3 hro
  go_wp2_with fail
  go_ret2
  exact ⟨by rw [hD.out]; exact congrArg Ending.returned (tup2 (by dsimp only <;> omega) (by dsimp only <;> omega)), _, rfl⟩
 ·have gA : decide (((ul : Int) + 3) / 4 ≤ (uh : Int) / 4 / 10 * 10) = false := decide_eq_false (by omega)
  by_cases hB : (ul + 0 + 3) / 4 < (uh - 0) / 4
  ·have hD : Hid (shD ul uh um 0 = (rndU um, 0)) := by show _ = _; unfold shD; rw [if_neg hA, if_pos hB]
   have gB : decide (((ul : Int) + 3) / 4 < (uh : Int) / 4) = true := decide_eq_true (by omega)
   clear hA hB
   go_wp2_with fail
   refine (hU3 _).mono ?_
   rintro e9 w9 ⟨rfl, n3, rfl⟩
   clear hU3
   go_wp2_with fail
   refine (hro _).mono ?_
   rintro e9 w9 ⟨rfl, hw9⟩
   obtain rfl := hw9.symm
   clear hro
   go_wp2_with fail
   go_ret2
   exact ⟨by rw [hD.out]; exact congrArg Ending.returned (tup2 (by dsimp only <;> omega) (by dsimp only <;> omega)), _, rfl⟩
  ·have hD : Hid (shD ul uh um 0 = ((ul + 0 + 3) / 4, 0)) := by show _ = _; unfold shD; rw [if_neg hA, if_neg hB]
   have gB : decide (((ul : Int) + 3) / 4 < (uh : Int) / 4) = false := decide_eq_false (by omega)
   clear hA hB hU3 hro
   go_wp2_with fail
   go_ret2
   exact ⟨by rw [hD.out]; exact congrArg Ending.returned (tup2 (by dsimp only <;> omega) (by dsimp only <;> omega)), _, rfl⟩
end Go.Proofs.YtfpcpociejefaaaGreatDoor
