/- The library's shortFloat, for the float32s below the least normal one. -/
import Derived.Test.YtnljpbpphdhnpaaGreatDoorShB
namespace Go.Proofs.YtnljpbpphdhnpaaGreatDoor
open Go.RowKit Go.PlainAid

theorem wrap64_nat (M : Nat) (h : M < 9223372036854775808) : wrap64 ((M : Nat) : Int) = (M : Int) := by unfold wrap64; omega

set_option maxRecDepth 1000000 in
set_option maxHeartbeats 4000000 in
theorem short_U0 (m M z xl xh : Nat) (e : Int) (s ul uh um : Nat) (hz : 41 ≤ z ∧ z ≤ 63) (he : e = -149 - (z : Int)) (hne : m ≠ 9223372036854775808) (hxl : xl + 2 ^ (z - 1) = m) (hxh : m + 2 ^ (z - 1) = xh) (hxt : xh + 4 ≤ 18446744073709551616) (hmM : m / 2 ^ z = M) (hM : M % 2 = 0) (hML : M < 8388608)
    (hs : (s : Int) = -(e + 149 + 3)) (hs64 : s < 64)
    (hul : uscN xl (hiR 76) (loR 76) s = ul) (huh : uscN xh (hiR 76) (loR 76) s = uh) (hum : uscN m (hiR 76) (loR 76) s = um) (bl : 1 ≤ ul ∧ ul ≤ 1000000000) (bh : 1 ≤ uh ∧ uh ≤ 1000000000) (bm : 1 ≤ um ∧ um ≤ 1000000000)
    (w : World) (c0 : w.cell? ⟨15, 393 * 2, none⟩ = some (.int .u64 (hiR 76 : Int))) (c1 : w.cell? ⟨15, 393 * 2 + 1, none⟩ = some (.int .u64 (loR 76 : Int))) :
    Calls Tryz.prog 138 #[.int .u64 (m : Int), .int .i64 e] w fun r w' => r = .returned (.tuple #[.int .u64 ((shD ul uh um 0).1 : Int), .int .i64 (-45 + ((shD ul uh um 0).2 : Int))]) ∧ ∃ n, w' = (w.alloc (preO (hiR 76) (loR 76) s)).drewN n := by
  obtain ⟨a1, a2, a3, a4, a5, a6⟩ := row_facts 76 (by decide)
  clear a6
  have hlog := log10_any (-149) (by omega)
  have hl2 := log2_neg 45 (by omega)
  have hP := fun x0 x1 x2 => prescale_any 393 e 45 149 (hiR 76 : Int) (loR 76 : Int) x0 x1 x2 208 w (by omega) (by omega) (by omega) (by omega) c0 c1
  rw [← hs] at hP
  clear hs
  have hle : ∀ x : Nat, x * loR 76 ≤ x * hiR 76 * 18446744073709551616 := fun x => by
    rw [Nat.mul_assoc]
    exact Nat.mul_le_mul_left _ a3
  have hpz : ((2 : Int) ^ (z - 1)) = ((2 ^ (z - 1) : Nat) : Int) := by norm_cast
  have hpz2 : ((2 : Int) ^ z) = ((2 ^ z : Nat) : Int) := by norm_cast
  have hzp : 0 < 2 ^ (z - 1) := Nat.two_pow_pos _
  have hU1 := usc_nat xl (hiR 76) (loR 76) s (by omega) a1 a2 hs64 (hle _) w 0
  have hU2 := fun n => usc_nat xh (hiR 76) (loR 76) s (by omega) a1 a2 hs64 (hle _) w n
  have hU3 := fun n => usc_nat m (hiR 76) (loR 76) s (by omega) a1 a2 hs64 (hle _) w n
  rw [hul] at hU1
  rw [huh] at hU2
  rw [hum] at hU3
  have hn1 := nudge_0 (ul : Int) (by omega)
  have hn2 := nudge_0 (uh : Int) (by omega)
  have hce := ceil_any ((ul : Int)) (by omega)
  have hfl := floor_any ((uh : Int)) (by omega)
  have hro := round_any (um : Int) ((um / 4 % 2 : Nat) : Int) ((rndU um : Nat) : Int) (by omega) (by rw [show (um : Int) / 4 = ((um / 4 : Nat) : Int) by omega]; exact and_one _ (by omega)) (by omega) (by unfold rndU; omega)
  have r0 : IntKind.u64.wrap ((2 : Int) ^ (z - 1)) = ((2 ^ (z - 1) : Nat) : Int) := by rw [hpz]; exact u64_small _ (by omega) (by omega)
  have r1 : IntKind.u64.wrap ((m : Int) - IntKind.u64.wrap ((2 : Int) ^ (z - 1))) = (xl : Int) := by rw [r0]; rw [u64_small _ (by omega) (by omega)]; omega
  have r2 : IntKind.u64.wrap ((m : Int) + IntKind.u64.wrap ((2 : Int) ^ (z - 1))) = (xh : Int) := by rw [r0]; rw [u64_small _ (by omega) (by omega)]; omega
  have r3 : bits .and .i64 (wrap64 ((m : Int) / 2 ^ z)) 1 = 0 := by
    rw [hpz2, show (m : Int) / ((2 ^ z : Nat) : Int) = ((m / 2 ^ z : Nat) : Int) from rfl, hmM, wrap64_nat M (by omega)]
    exact and_odd M 0 hM (by omega)
  have hE1 : (40 : Int) + (-189 - e) = (z : Int) := by omega
  have hE2 : e + (z : Int) = -149 := by omega
  have he2 : -212 ≤ e ∧ e ≤ -190 := by omega
  have ht2 : decide (-189 < e) = false := decide_eq_false (by omega)
  have ht3 : decide (-189 ≤ e) = false := decide_eq_false (by omega)
  have hzz : 41 ≤ (z : Int) ∧ (z : Int) ≤ 63 := by omega
  have ht1 : ((m : Int) == 9223372036854775808) = false := by rw [beq_eq_false_iff_ne]; omega
  clear hne
  clear he hul huh hum hle c0 c1 hmM hM a1 a2 a3 a4 a5 hxl hxh hxt hpz hpz2 hzp r0 hML
  go_enter Tryz.func138, Tryz.ntmps138
  go_wp2_with fail
  refine (hlog _).mono ?_
  rintro e9 w9 ⟨rfl, hw9⟩
  obtain rfl := hw9.symm
  clear hlog
  go_wp2_with fail
  refine (hl2 _).mono ?_
  rintro e9 w9 ⟨rfl, hw9⟩
  obtain rfl := hw9.symm
  clear hl2
  go_wp2_with fail
  refine (hP _ _ _).mono ?_
  rintro e9 w9 ⟨rfl, hw9⟩
  obtain rfl := hw9.symm
  go_wp2_with fail
  refine hU1.mono ?_
  rintro e9 w9 ⟨rfl, n1, rfl⟩
  clear hU1 hP
  go_wp2_with fail
  refine (hn1 _).mono ?_
  rintro e9 w9 ⟨rfl, hw9⟩
  obtain rfl := hw9.symm
  clear hn1
  go_wp2_with fail
  refine (hce _).mono ?_
  rintro e9 w9 ⟨rfl, hw9⟩
  obtain rfl := hw9.symm
  clear hce
  go_wp2_with fail
  refine (hU2 _).mono ?_
  rintro e9 w9 ⟨rfl, n2, rfl⟩
  clear hU2
  go_wp2_with fail
  refine (hn2 _).mono ?_
  rintro e9 w9 ⟨rfl, hw9⟩
  obtain rfl := hw9.symm
  clear hn2
  go_wp2_with fail
  refine (hfl _).mono ?_
  rintro e9 w9 ⟨rfl, hw9⟩
  obtain rfl := hw9.symm
  clear hfl
  by_cases hA : (ul + 0 + 3) / 4 ≤ (uh - 0) / 4 / 10 * 10
  · have hD : Hid (shD ul uh um 0 = ((uh - 0) / 4 / 10, 1)) := by show _ = _; unfold shD; rw [if_pos hA]
    have gA : decide (((ul : Int) + 3) / 4 ≤ (uh : Int) / 4 / 10 * 10) = true := decide_eq_true (by omega)
    clear hA hU3 hro
    go_wp2_with fail
    go_ret2
    exact ⟨by rw [hD.out]; exact congrArg Ending.returned (tup2 (by dsimp only <;> omega) (by dsimp only <;> omega)), _, rfl⟩
  · have gA : decide (((ul : Int) + 3) / 4 ≤ (uh : Int) / 4 / 10 * 10) = false := decide_eq_false (by omega)
    by_cases hB : (ul + 0 + 3) / 4 < (uh - 0) / 4
    · have hD : Hid (shD ul uh um 0 = (rndU um, 0)) := by show _ = _; unfold shD; rw [if_neg hA, if_pos hB]
      have gB : decide (((ul : Int) + 3) / 4 < (uh : Int) / 4) = true := decide_eq_true (by omega)
      clear hA hB
      go_wp2_with fail
      refine (hU3 _).mono ?_
      rintro e9 w9 ⟨rfl, n3, rfl⟩
      clear hU3
      go_wp2_with fail
      refine (hro _).mono ?_
      rintro e9 w9 ⟨rfl, hw9⟩
      obtain rfl := hw9.symm
      clear hro
      go_wp2_with fail
      go_ret2
      exact ⟨by rw [hD.out]; exact congrArg Ending.returned (tup2 (by dsimp only <;> omega) (by dsimp only <;> omega)), _, rfl⟩
    · have hD : Hid (shD ul uh um 0 = ((ul + 0 + 3) / 4, 0)) := by show _ = _; unfold shD; rw [if_neg hA, if_neg hB]
      have gB : decide (((ul : Int) + 3) / 4 < (uh : Int) / 4) = false := decide_eq_false (by omega)
      clear hA hB hU3 hro
      go_wp2_with fail
      go_ret2
      exact ⟨by rw [hD.out]; exact congrArg Ending.returned (tup2 (by dsimp only <;> omega) (by dsimp only <;> omega)), _, rfl⟩

set_option maxRecDepth 1000000 in
set_option maxHeartbeats 4000000 in
theorem short_U1 (m M z xl xh : Nat) (e : Int) (s ul uh um : Nat) (hz : 41 ≤ z ∧ z ≤ 63) (he : e = -149 - (z : Int)) (hne : m ≠ 9223372036854775808) (hxl : xl + 2 ^ (z - 1) = m) (hxh : m + 2 ^ (z - 1) = xh) (hxt : xh + 4 ≤ 18446744073709551616) (hmM : m / 2 ^ z = M) (hM : M % 2 = 1) (hML : M < 8388608)
    (hs : (s : Int) = -(e + 149 + 3)) (hs64 : s < 64)
    (hul : uscN xl (hiR 76) (loR 76) s = ul) (huh : uscN xh (hiR 76) (loR 76) s = uh) (hum : uscN m (hiR 76) (loR 76) s = um) (bl : 1 ≤ ul ∧ ul ≤ 1000000000) (bh : 1 ≤ uh ∧ uh ≤ 1000000000) (bm : 1 ≤ um ∧ um ≤ 1000000000)
    (w : World) (c0 : w.cell? ⟨15, 393 * 2, none⟩ = some (.int .u64 (hiR 76 : Int))) (c1 : w.cell? ⟨15, 393 * 2 + 1, none⟩ = some (.int .u64 (loR 76 : Int))) :
    Calls Tryz.prog 138 #[.int .u64 (m : Int), .int .i64 e] w fun r w' => r = .returned (.tuple #[.int .u64 ((shD ul uh um 1).1 : Int), .int .i64 (-45 + ((shD ul uh um 1).2 : Int))]) ∧ ∃ n, w' = (w.alloc (preO (hiR 76) (loR 76) s)).drewN n := by
  obtain ⟨a1, a2, a3, a4, a5, a6⟩ := row_facts 76 (by decide)
  clear a6
  have hlog := log10_any (-149) (by omega)
  have hl2 := log2_neg 45 (by omega)
  have hP := fun x0 x1 x2 => prescale_any 393 e 45 149 (hiR 76 : Int) (loR 76 : Int) x0 x1 x2 208 w (by omega) (by omega) (by omega) (by omega) c0 c1
  rw [← hs] at hP
  clear hs
  have hle : ∀ x : Nat, x * loR 76 ≤ x * hiR 76 * 18446744073709551616 := fun x => by
    rw [Nat.mul_assoc]
    exact Nat.mul_le_mul_left _ a3
  have hpz : ((2 : Int) ^ (z - 1)) = ((2 ^ (z - 1) : Nat) : Int) := by norm_cast
  have hpz2 : ((2 : Int) ^ z) = ((2 ^ z : Nat) : Int) := by norm_cast
  have hzp : 0 < 2 ^ (z - 1) := Nat.two_pow_pos _
  have hU1 := usc_nat xl (hiR 76) (loR 76) s (by omega) a1 a2 hs64 (hle _) w 0
  have hU2 := fun n => usc_nat xh (hiR 76) (loR 76) s (by omega) a1 a2 hs64 (hle _) w n
  have hU3 := fun n => usc_nat m (hiR 76) (loR 76) s (by omega) a1 a2 hs64 (hle _) w n
  rw [hul] at hU1
  rw [huh] at hU2
  rw [hum] at hU3
  have hn1 := nudge_1 (ul : Int) (by omega)
  have hn2 := nudge_m (uh : Int) (by omega)
  have hce := ceil_any ((ul : Int) + 1) (by omega)
  have hfl := floor_any ((uh : Int) - 1) (by omega)
  have hro := round_any (um : Int) ((um / 4 % 2 : Nat) : Int) ((rndU um : Nat) : Int) (by omega) (by rw [show (um : Int) / 4 = ((um / 4 : Nat) : Int) by omega]; exact and_one _ (by omega)) (by omega) (by unfold rndU; omega)
  have r0 : IntKind.u64.wrap ((2 : Int) ^ (z - 1)) = ((2 ^ (z - 1) : Nat) : Int) := by rw [hpz]; exact u64_small _ (by omega) (by omega)
  have r1 : IntKind.u64.wrap ((m : Int) - IntKind.u64.wrap ((2 : Int) ^ (z - 1))) = (xl : Int) := by rw [r0]; rw [u64_small _ (by omega) (by omega)]; omega
  have r2 : IntKind.u64.wrap ((m : Int) + IntKind.u64.wrap ((2 : Int) ^ (z - 1))) = (xh : Int) := by rw [r0]; rw [u64_small _ (by omega) (by omega)]; omega
  have r3 : bits .and .i64 (wrap64 ((m : Int) / 2 ^ z)) 1 = 1 := by
    rw [hpz2, show (m : Int) / ((2 ^ z : Nat) : Int) = ((m / 2 ^ z : Nat) : Int) from rfl, hmM, wrap64_nat M (by omega)]
    exact and_odd M 1 hM (by omega)
  have hE1 : (40 : Int) + (-189 - e) = (z : Int) := by omega
  have hE2 : e + (z : Int) = -149 := by omega
  have he2 : -212 ≤ e ∧ e ≤ -190 := by omega
  have ht2 : decide (-189 < e) = false := decide_eq_false (by omega)
  have ht3 : decide (-189 ≤ e) = false := decide_eq_false (by omega)
  have hzz : 41 ≤ (z : Int) ∧ (z : Int) ≤ 63 := by omega
  have ht1 : ((m : Int) == 9223372036854775808) = false := by rw [beq_eq_false_iff_ne]; omega
  clear hne
  clear he hul huh hum hle c0 c1 hmM hM a1 a2 a3 a4 a5 hxl hxh hxt hpz hpz2 hzp r0 hML
  go_enter Tryz.func138, Tryz.ntmps138
  go_wp2_with fail
  refine (hlog _).mono ?_
  rintro e9 w9 ⟨rfl, hw9⟩
  obtain rfl := hw9.symm
  clear hlog
  go_wp2_with fail
  refine (hl2 _).mono ?_
  rintro e9 w9 ⟨rfl, hw9⟩
  obtain rfl := hw9.symm
  clear hl2
  go_wp2_with fail
  refine (hP _ _ _).mono ?_
  rintro e9 w9 ⟨rfl, hw9⟩
  obtain rfl := hw9.symm
  go_wp2_with fail
  refine hU1.mono ?_
  rintro e9 w9 ⟨rfl, n1, rfl⟩
  clear hU1 hP
  go_wp2_with fail
  refine (hn1 _).mono ?_
  rintro e9 w9 ⟨rfl, hw9⟩
  obtain rfl := hw9.symm
  clear hn1
  go_wp2_with fail
  refine (hce _).mono ?_
  rintro e9 w9 ⟨rfl, hw9⟩
  obtain rfl := hw9.symm
  clear hce
  go_wp2_with fail
  refine (hU2 _).mono ?_
  rintro e9 w9 ⟨rfl, n2, rfl⟩
  clear hU2
  go_wp2_with fail
  refine (hn2 _).mono ?_
  rintro e9 w9 ⟨rfl, hw9⟩
  obtain rfl := hw9.symm
  clear hn2
  go_wp2_with fail
  refine (hfl _).mono ?_
  rintro e9 w9 ⟨rfl, hw9⟩
  obtain rfl := hw9.symm
  clear hfl
  by_cases hA : (ul + 1 + 3) / 4 ≤ (uh - 1) / 4 / 10 * 10
  · have hD : Hid (shD ul uh um 1 = ((uh - 1) / 4 / 10, 1)) := by show _ = _; unfold shD; rw [if_pos hA]
    have gA : decide (((ul : Int) + 1 + 3) / 4 ≤ ((uh : Int) - 1) / 4 / 10 * 10) = true := decide_eq_true (by omega)
    clear hA hU3 hro
    go_wp2_with fail
    go_ret2
    exact ⟨by rw [hD.out]; exact congrArg Ending.returned (tup2 (by dsimp only <;> omega) (by dsimp only <;> omega)), _, rfl⟩
  · have gA : decide (((ul : Int) + 1 + 3) / 4 ≤ ((uh : Int) - 1) / 4 / 10 * 10) = false := decide_eq_false (by omega)
    by_cases hB : (ul + 1 + 3) / 4 < (uh - 1) / 4
    · have hD : Hid (shD ul uh um 1 = (rndU um, 0)) := by show _ = _; unfold shD; rw [if_neg hA, if_pos hB]
      have gB : decide (((ul : Int) + 1 + 3) / 4 < ((uh : Int) - 1) / 4) = true := decide_eq_true (by omega)
      clear hA hB
      go_wp2_with fail
      refine (hU3 _).mono ?_
      rintro e9 w9 ⟨rfl, n3, rfl⟩
      clear hU3
      go_wp2_with fail
      refine (hro _).mono ?_
      rintro e9 w9 ⟨rfl, hw9⟩
      obtain rfl := hw9.symm
      clear hro
      go_wp2_with fail
      go_ret2
      exact ⟨by rw [hD.out]; exact congrArg Ending.returned (tup2 (by dsimp only <;> omega) (by dsimp only <;> omega)), _, rfl⟩
    · have hD : Hid (shD ul uh um 1 = ((ul + 1 + 3) / 4, 0)) := by show _ = _; unfold shD; rw [if_neg hA, if_neg hB]
      have gB : decide (((ul : Int) + 1 + 3) / 4 < ((uh : Int) - 1) / 4) = false := decide_eq_false (by omega)
      clear hA hB hU3 hro
      go_wp2_with fail
      go_ret2
      exact ⟨by rw [hD.out]; exact congrArg Ending.returned (tup2 (by dsimp only <;> omega) (by dsimp only <;> omega)), _, rfl⟩

set_option maxRecDepth 1000000 in
set_option maxHeartbeats 4000000 in
theorem short_V0 (m M z xl xh : Nat) (e : Int) (s ul uh um : Nat) (hz : 41 ≤ z ∧ z ≤ 63) (he : e = -149 - (z : Int)) (hme : m = 9223372036854775808) (hxl : xl + 2 ^ (z - 1) = m) (hxh : m + 2 ^ (z - 1) = xh) (hxt : xh + 4 ≤ 18446744073709551616) (hmM : m / 2 ^ z = M) (hM : M % 2 = 0) (hML : M < 8388608)
    (hs : (s : Int) = -(e + 149 + 3)) (hs64 : s < 64)
    (hul : uscN xl (hiR 76) (loR 76) s = ul) (huh : uscN xh (hiR 76) (loR 76) s = uh) (hum : uscN m (hiR 76) (loR 76) s = um) (bl : 1 ≤ ul ∧ ul ≤ 1000000000) (bh : 1 ≤ uh ∧ uh ≤ 1000000000) (bm : 1 ≤ um ∧ um ≤ 1000000000)
    (w : World) (c0 : w.cell? ⟨15, 393 * 2, none⟩ = some (.int .u64 (hiR 76 : Int))) (c1 : w.cell? ⟨15, 393 * 2 + 1, none⟩ = some (.int .u64 (loR 76 : Int))) :
    Calls Tryz.prog 138 #[.int .u64 (m : Int), .int .i64 e] w fun r w' => r = .returned (.tuple #[.int .u64 ((shD ul uh um 0).1 : Int), .int .i64 (-45 + ((shD ul uh um 0).2 : Int))]) ∧ ∃ n, w' = (w.alloc (preO (hiR 76) (loR 76) s)).drewN n := by
  obtain ⟨a1, a2, a3, a4, a5, a6⟩ := row_facts 76 (by decide)
  clear a6
  have hlog := log10_any (-149) (by omega)
  have hl2 := log2_neg 45 (by omega)
  have hP := fun x0 x1 x2 => prescale_any 393 e 45 149 (hiR 76 : Int) (loR 76 : Int) x0 x1 x2 208 w (by omega) (by omega) (by omega) (by omega) c0 c1
  rw [← hs] at hP
  clear hs
  have hle : ∀ x : Nat, x * loR 76 ≤ x * hiR 76 * 18446744073709551616 := fun x => by
    rw [Nat.mul_assoc]
    exact Nat.mul_le_mul_left _ a3
  have hpz : ((2 : Int) ^ (z - 1)) = ((2 ^ (z - 1) : Nat) : Int) := by norm_cast
  have hpz2 : ((2 : Int) ^ z) = ((2 ^ z : Nat) : Int) := by norm_cast
  have hzp : 0 < 2 ^ (z - 1) := Nat.two_pow_pos _
  have hU1 := usc_nat xl (hiR 76) (loR 76) s (by omega) a1 a2 hs64 (hle _) w 0
  have hU2 := fun n => usc_nat xh (hiR 76) (loR 76) s (by omega) a1 a2 hs64 (hle _) w n
  have hU3 := fun n => usc_nat m (hiR 76) (loR 76) s (by omega) a1 a2 hs64 (hle _) w n
  rw [hul] at hU1
  rw [huh] at hU2
  rw [hum] at hU3
  have hn1 := nudge_0 (ul : Int) (by omega)
  have hn2 := nudge_0 (uh : Int) (by omega)
  have hce := ceil_any ((ul : Int)) (by omega)
  have hfl := floor_any ((uh : Int)) (by omega)
  have hro := round_any (um : Int) ((um / 4 % 2 : Nat) : Int) ((rndU um : Nat) : Int) (by omega) (by rw [show (um : Int) / 4 = ((um / 4 : Nat) : Int) by omega]; exact and_one _ (by omega)) (by omega) (by unfold rndU; omega)
  have r0 : IntKind.u64.wrap ((2 : Int) ^ (z - 1)) = ((2 ^ (z - 1) : Nat) : Int) := by rw [hpz]; exact u64_small _ (by omega) (by omega)
  have r1 : IntKind.u64.wrap ((m : Int) - IntKind.u64.wrap ((2 : Int) ^ (z - 1))) = (xl : Int) := by rw [r0]; rw [u64_small _ (by omega) (by omega)]; omega
  have r2 : IntKind.u64.wrap ((m : Int) + IntKind.u64.wrap ((2 : Int) ^ (z - 1))) = (xh : Int) := by rw [r0]; rw [u64_small _ (by omega) (by omega)]; omega
  have r3 : bits .and .i64 (wrap64 ((m : Int) / 2 ^ z)) 1 = 0 := by
    rw [hpz2, show (m : Int) / ((2 ^ z : Nat) : Int) = ((m / 2 ^ z : Nat) : Int) from rfl, hmM, wrap64_nat M (by omega)]
    exact and_odd M 0 hM (by omega)
  have hE1 : (40 : Int) + (-189 - e) = (z : Int) := by omega
  have hE2 : e + (z : Int) = -149 := by omega
  have he2 : -212 ≤ e ∧ e ≤ -190 := by omega
  have ht2 : decide (-189 < e) = false := decide_eq_false (by omega)
  have ht3 : decide (-189 ≤ e) = false := decide_eq_false (by omega)
  have hzz : 41 ≤ (z : Int) ∧ (z : Int) ≤ 63 := by omega
  have ht1 : ((m : Int) == 9223372036854775808) = true := by rw [beq_iff_eq]; omega
  clear hme
  clear he hul huh hum hle c0 c1 hmM hM a1 a2 a3 a4 a5 hxl hxh hxt hpz hpz2 hzp r0 hML
  go_enter Tryz.func138, Tryz.ntmps138
  go_wp2_with fail
  refine (hlog _).mono ?_
  rintro e9 w9 ⟨rfl, hw9⟩
  obtain rfl := hw9.symm
  clear hlog
  go_wp2_with fail
  refine (hl2 _).mono ?_
  rintro e9 w9 ⟨rfl, hw9⟩
  obtain rfl := hw9.symm
  clear hl2
  go_wp2_with fail
  refine (hP _ _ _).mono ?_
  rintro e9 w9 ⟨rfl, hw9⟩
  obtain rfl := hw9.symm
  go_wp2_with fail
  refine hU1.mono ?_
  rintro e9 w9 ⟨rfl, n1, rfl⟩
  clear hU1 hP
  go_wp2_with fail
  refine (hn1 _).mono ?_
  rintro e9 w9 ⟨rfl, hw9⟩
  obtain rfl := hw9.symm
  clear hn1
  go_wp2_with fail
  refine (hce _).mono ?_
  rintro e9 w9 ⟨rfl, hw9⟩
  obtain rfl := hw9.symm
  clear hce
  go_wp2_with fail
  refine (hU2 _).mono ?_
  rintro e9 w9 ⟨rfl, n2, rfl⟩
  clear hU2
  go_wp2_with fail
  refine (hn2 _).mono ?_
  rintro e9 w9 ⟨rfl, hw9⟩
  obtain rfl := hw9.symm
  clear hn2
  go_wp2_with fail
  refine (hfl _).mono ?_
  rintro e9 w9 ⟨rfl, hw9⟩
  obtain rfl := hw9.symm
  clear hfl
  by_cases hA : (ul + 0 + 3) / 4 ≤ (uh - 0) / 4 / 10 * 10
  · have hD : Hid (shD ul uh um 0 = ((uh - 0) / 4 / 10, 1)) := by show _ = _; unfold shD; rw [if_pos hA]
    have gA : decide (((ul : Int) + 3) / 4 ≤ (uh : Int) / 4 / 10 * 10) = true := decide_eq_true (by omega)
    clear hA hU3 hro
    go_wp2_with fail
    go_ret2
    exact ⟨by rw [hD.out]; exact congrArg Ending.returned (tup2 (by dsimp only <;> omega) (by dsimp only <;> omega)), _, rfl⟩
  · have gA : decide (((ul : Int) + 3) / 4 ≤ (uh : Int) / 4 / 10 * 10) = false := decide_eq_false (by omega)
    by_cases hB : (ul + 0 + 3) / 4 < (uh - 0) / 4
    · have hD : Hid (shD ul uh um 0 = (rndU um, 0)) := by show _ = _; unfold shD; rw [if_neg hA, if_pos hB]
      have gB : decide (((ul : Int) + 3) / 4 < (uh : Int) / 4) = true := decide_eq_true (by omega)
      clear hA hB
      go_wp2_with fail
      refine (hU3 _).mono ?_
      rintro e9 w9 ⟨rfl, n3, rfl⟩
      clear hU3
      go_wp2_with fail
      refine (hro _).mono ?_
      rintro e9 w9 ⟨rfl, hw9⟩
      obtain rfl := hw9.symm
      clear hro
      go_wp2_with fail
      go_ret2
      exact ⟨by rw [hD.out]; exact congrArg Ending.returned (tup2 (by dsimp only <;> omega) (by dsimp only <;> omega)), _, rfl⟩
    · have hD : Hid (shD ul uh um 0 = ((ul + 0 + 3) / 4, 0)) := by show _ = _; unfold shD; rw [if_neg hA, if_neg hB]
      have gB : decide (((ul : Int) + 3) / 4 < (uh : Int) / 4) = false := decide_eq_false (by omega)
      clear hA hB hU3 hro
      go_wp2_with fail
      go_ret2
      exact ⟨by rw [hD.out]; exact congrArg Ending.returned (tup2 (by dsimp only <;> omega) (by dsimp only <;> omega)), _, rfl⟩

set_option maxRecDepth 1000000 in
set_option maxHeartbeats 4000000 in
theorem short_V1 (m M z xl xh : Nat) (e : Int) (s ul uh um : Nat) (hz : 41 ≤ z ∧ z ≤ 63) (he : e = -149 - (z : Int)) (hme : m = 9223372036854775808) (hxl : xl + 2 ^ (z - 1) = m) (hxh : m + 2 ^ (z - 1) = xh) (hxt : xh + 4 ≤ 18446744073709551616) (hmM : m / 2 ^ z = M) (hM : M % 2 = 1) (hML : M < 8388608)
    (hs : (s : Int) = -(e + 149 + 3)) (hs64 : s < 64)
    (hul : uscN xl (hiR 76) (loR 76) s = ul) (huh : uscN xh (hiR 76) (loR 76) s = uh) (hum : uscN m (hiR 76) (loR 76) s = um) (bl : 1 ≤ ul ∧ ul ≤ 1000000000) (bh : 1 ≤ uh ∧ uh ≤ 1000000000) (bm : 1 ≤ um ∧ um ≤ 1000000000)
    (w : World) (c0 : w.cell? ⟨15, 393 * 2, none⟩ = some (.int .u64 (hiR 76 : Int))) (c1 : w.cell? ⟨15, 393 * 2 + 1, none⟩ = some (.int .u64 (loR 76 : Int))) :
    Calls Tryz.prog 138 #[.int .u64 (m : Int), .int .i64 e] w fun r w' => r = .returned (.tuple #[.int .u64 ((shD ul uh um 1).1 : Int), .int .i64 (-45 + ((shD ul uh um 1).2 : Int))]) ∧ ∃ n, w' = (w.alloc (preO (hiR 76) (loR 76) s)).drewN n := by
  obtain ⟨a1, a2, a3, a4, a5, a6⟩ := row_facts 76 (by decide)
  clear a6
  have hlog := log10_any (-149) (by omega)
  have hl2 := log2_neg 45 (by omega)
  have hP := fun x0 x1 x2 => prescale_any 393 e 45 149 (hiR 76 : Int) (loR 76 : Int) x0 x1 x2 208 w (by omega) (by omega) (by omega) (by omega) c0 c1
  rw [← hs] at hP
  clear hs
  have hle : ∀ x : Nat, x * loR 76 ≤ x * hiR 76 * 18446744073709551616 := fun x => by
    rw [Nat.mul_assoc]
    exact Nat.mul_le_mul_left _ a3
  have hpz : ((2 : Int) ^ (z - 1)) = ((2 ^ (z - 1) : Nat) : Int) := by norm_cast
  have hpz2 : ((2 : Int) ^ z) = ((2 ^ z : Nat) : Int) := by norm_cast
  have hzp : 0 < 2 ^ (z - 1) := Nat.two_pow_pos _
  have hU1 := usc_nat xl (hiR 76) (loR 76) s (by omega) a1 a2 hs64 (hle _) w 0
  have hU2 := fun n => usc_nat xh (hiR 76) (loR 76) s (by omega) a1 a2 hs64 (hle _) w n
  have hU3 := fun n => usc_nat m (hiR 76) (loR 76) s (by omega) a1 a2 hs64 (hle _) w n
  rw [hul] at hU1
  rw [huh] at hU2
  rw [hum] at hU3
  have hn1 := nudge_1 (ul : Int) (by omega)
  have hn2 := nudge_m (uh : Int) (by omega)
  have hce := ceil_any ((ul : Int) + 1) (by omega)
  have hfl := floor_any ((uh : Int) - 1) (by omega)
  have hro := round_any (um : Int) ((um / 4 % 2 : Nat) : Int) ((rndU um : Nat) : Int) (by omega) (by rw [show (um : Int) / 4 = ((um / 4 : Nat) : Int) by omega]; exact and_one _ (by omega)) (by omega) (by unfold rndU; omega)
  have r0 : IntKind.u64.wrap ((2 : Int) ^ (z - 1)) = ((2 ^ (z - 1) : Nat) : Int) := by rw [hpz]; exact u64_small _ (by omega) (by omega)
  have r1 : IntKind.u64.wrap ((m : Int) - IntKind.u64.wrap ((2 : Int) ^ (z - 1))) = (xl : Int) := by rw [r0]; rw [u64_small _ (by omega) (by omega)]; omega
  have r2 : IntKind.u64.wrap ((m : Int) + IntKind.u64.wrap ((2 : Int) ^ (z - 1))) = (xh : Int) := by rw [r0]; rw [u64_small _ (by omega) (by omega)]; omega
  have r3 : bits .and .i64 (wrap64 ((m : Int) / 2 ^ z)) 1 = 1 := by
    rw [hpz2, show (m : Int) / ((2 ^ z : Nat) : Int) = ((m / 2 ^ z : Nat) : Int) from rfl, hmM, wrap64_nat M (by omega)]
    exact and_odd M 1 hM (by omega)
  have hE1 : (40 : Int) + (-189 - e) = (z : Int) := by omega
  have hE2 : e + (z : Int) = -149 := by omega
  have he2 : -212 ≤ e ∧ e ≤ -190 := by omega
  have ht2 : decide (-189 < e) = false := decide_eq_false (by omega)
  have ht3 : decide (-189 ≤ e) = false := decide_eq_false (by omega)
  have hzz : 41 ≤ (z : Int) ∧ (z : Int) ≤ 63 := by omega
  have ht1 : ((m : Int) == 9223372036854775808) = true := by rw [beq_iff_eq]; omega
  clear hme
  clear he hul huh hum hle c0 c1 hmM hM a1 a2 a3 a4 a5 hxl hxh hxt hpz hpz2 hzp r0 hML
  go_enter Tryz.func138, Tryz.ntmps138
  go_wp2_with fail
  refine (hlog _).mono ?_
  rintro e9 w9 ⟨rfl, hw9⟩
  obtain rfl := hw9.symm
  clear hlog
  go_wp2_with fail
  refine (hl2 _).mono ?_
  rintro e9 w9 ⟨rfl, hw9⟩
  obtain rfl := hw9.symm
  clear hl2
  go_wp2_with fail
  refine (hP _ _ _).mono ?_
  rintro e9 w9 ⟨rfl, hw9⟩
  obtain rfl := hw9.symm
  go_wp2_with fail
  refine hU1.mono ?_
  rintro e9 w9 ⟨rfl, n1, rfl⟩
  clear hU1 hP
  go_wp2_with fail
  refine (hn1 _).mono ?_
  rintro e9 w9 ⟨rfl, hw9⟩
  obtain rfl := hw9.symm
  clear hn1
  go_wp2_with fail
  refine (hce _).mono ?_
  rintro e9 w9 ⟨rfl, hw9⟩
  obtain rfl := hw9.symm
  clear hce
  go_wp2_with fail
  refine (hU2 _).mono ?_
  rintro e9 w9 ⟨rfl, n2, rfl⟩
  clear hU2
  go_wp2_with fail
  refine (hn2 _).mono ?_
  rintro e9 w9 ⟨rfl, hw9⟩
  obtain rfl := hw9.symm
  clear hn2
  go_wp2_with fail
  refine (hfl _).mono ?_
  rintro e9 w9 ⟨rfl, hw9⟩
  obtain rfl := hw9.symm
  clear hfl
  by_cases hA : (ul + 1 + 3) / 4 ≤ (uh - 1) / 4 / 10 * 10
  · have hD : Hid (shD ul uh um 1 = ((uh - 1) / 4 / 10, 1)) := by show _ = _; unfold shD; rw [if_pos hA]
    have gA : decide (((ul : Int) + 1 + 3) / 4 ≤ ((uh : Int) - 1) / 4 / 10 * 10) = true := decide_eq_true (by omega)
    clear hA hU3 hro
    go_wp2_with fail
    go_ret2
    exact ⟨by rw [hD.out]; exact congrArg Ending.returned (tup2 (by dsimp only <;> omega) (by dsimp only <;> omega)), _, rfl⟩
  · have gA : decide (((ul : Int) + 1 + 3) / 4 ≤ ((uh : Int) - 1) / 4 / 10 * 10) = false := decide_eq_false (by omega)
    by_cases hB : (ul + 1 + 3) / 4 < (uh - 1) / 4
    · have hD : Hid (shD ul uh um 1 = (rndU um, 0)) := by show _ = _; unfold shD; rw [if_neg hA, if_pos hB]
      have gB : decide (((ul : Int) + 1 + 3) / 4 < ((uh : Int) - 1) / 4) = true := decide_eq_true (by omega)
      clear hA hB
      go_wp2_with fail
      refine (hU3 _).mono ?_
      rintro e9 w9 ⟨rfl, n3, rfl⟩
      clear hU3
      go_wp2_with fail
      refine (hro _).mono ?_
      rintro e9 w9 ⟨rfl, hw9⟩
      obtain rfl := hw9.symm
      clear hro
      go_wp2_with fail
      go_ret2
      exact ⟨by rw [hD.out]; exact congrArg Ending.returned (tup2 (by dsimp only <;> omega) (by dsimp only <;> omega)), _, rfl⟩
    · have hD : Hid (shD ul uh um 1 = ((ul + 1 + 3) / 4, 0)) := by show _ = _; unfold shD; rw [if_neg hA, if_neg hB]
      have gB : decide (((ul : Int) + 1 + 3) / 4 < ((uh : Int) - 1) / 4) = false := decide_eq_false (by omega)
      clear hA hB hU3 hro
      go_wp2_with fail
      go_ret2
      exact ⟨by rw [hD.out]; exact congrArg Ending.returned (tup2 (by dsimp only <;> omega) (by dsimp only <;> omega)), _, rfl⟩
end Go.Proofs.YtnljpbpphdhnpaaGreatDoor
