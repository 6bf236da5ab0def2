/- The library's parseFloat32 for numbers times a power of ten that is told exactly: the nearest real. -/
import Derived.Test.YtnjbdaonmgadaaaGreatDoorPgB
import Derived.Test.YtnjbdaonmgadaaaGreatDoorWhM
namespace Go.Proofs.YtnjbdaonmgadaaaGreatDoor
open Go.RowKit Go.PlainAid

theorem or_self (u : Nat) (h : u < 18446744073709551616) : bits .or .u64 (u : Int) ((u % 2 : Nat) : Int) = (u : Int) := by
  have h1 := u64_or_nat u (u % 2) h (by omega)
  rw [h1]
  congr 1
  have : u % 2 = 0 ∨ u % 2 = 1 := by omega
  rcases this with e | e
  · rw [e, Nat.or_zero]
  · rw [e, lor_one]; omega
theorem or_less (u : Nat) (h : u < 18446744073709551616) : bits .or .u64 ((u : Int) / 2) ((u % 2 : Nat) : Int) = ((lessU u : Nat) : Int) := by
  have h1 := u64_or_nat (u / 2) (u % 2) (by omega) (by omega)
  rw [show (u : Int) / 2 = ((u / 2 : Nat) : Int) by omega, h1]
  congr 1
  unfold lessU
  have : u % 2 = 0 ∨ u % 2 = 1 := by omega
  rcases this with e | e
  · rw [e, Nat.or_zero, if_pos rfl]
  · rw [e, lor_one, if_neg (by omega)]
theorem or32_zero (m : Nat) (h : m < 4294967296) : bits .or .u32 0 (m : Int) = (m : Int) := by
  have := u32_or_nat 0 m (by decide) h
  rw [Nat.zero_or] at this
  exact this

set_option maxRecDepth 1000000 in
set_option maxHeartbeats 1000000 in
/-- the walk, by its two ways -/
theorem parse32_raw (d p b lp x u m R : Nat) (hi E A : Int) (y : Nat) (s : Nat) (ge : Bool) (w : World) (hb : 1 ≤ b ∧ b ≤ 64) (hlp : lp ≤ 59) 
    (hL : ∀ w, Calls Tryz.prog 60 #[.int .u64 (d : Int)] w fun e w' => e = .returned (.int .i64 (b : Int)) ∧ w' = w)
    (hG : ∀ w, Calls Tryz.prog 148 #[.int .i64 (p : Int)] w fun e w' => e = .returned (.int .i64 (lp : Int)) ∧ w' = w)
    (hP : ∀ x0 x1 x2 : Int, Calls Tryz.prog 149 #[.pointer (some ⟨w.heap.size, 0, none⟩), .int .i64 A, .int .i64 (p : Int), .int .i64 (lp : Int)] (w.alloc (.cells #[.int .u64 x0, .int .u64 x1, .int .i64 x2] 189)) fun e' w' => e' = .returned (.tuple #[]) ∧ w' = w.alloc (.cells #[.int .u64 hi, .int .u64 0, .int .i64 37] 189))
    (hU : Calls Tryz.prog 150 #[.int .u64 (x : Int), .pointer (some ⟨w.heap.size, 0, none⟩)] (w.alloc (.cells #[.int .u64 hi, .int .u64 0, .int .i64 37] 189)) fun e w' => e = .returned (.int .u64 (u : Int)) ∧ ∃ n, w' = (w.alloc (.cells #[.int .u64 hi, .int .u64 0, .int .i64 37] 189)).drewN n)
    (hE : min (149 : Int) (24 - (b : Int) - (lp : Int)) = E) (hA : E - (64 - (b : Int)) = A) (hEb : -200 ≤ E ∧ E ≤ 100)
    (hx : IntKind.u64.wrap ((d : Int) * 2 ^ (64 - b)) = (x : Int))
    (hge : decide ((67108862 : Int) ≤ (u : Int)) = ge) (hs : s = if ge then 1 else 0) (e1 : bits .and .u64 (u : Int) 1 = ((u % 2 : Nat) : Int)) (e2 : bits .or .u64 ((u : Int) / 2 ^ s) ((u % 2 : Nat) : Int) = (y : Int))
    (hR : ∀ w, Calls Tryz.prog 153 #[.int .u64 (y : Int)] w fun e w' => e = .returned (.int .u64 (m : Int)) ∧ w' = w) (hm : m < 16777216) (e3 : bits .or .u32 0 (m : Int) = (m : Int))
    (hK : ∀ w, Calls Tryz.prog 152 #[.int .u32 (m : Int), .int .i64 (-(E - (s : Int)))] w fun e w' => e = .returned (.tuple #[.float .f32 R, .nilIface]) ∧ w' = w) :
    Calls Tryz.prog 121 #[.int .u64 (d : Int), .int .i64 (p : Int), .int .u32 0] w fun e w' => e = .returned (.tuple #[.float .f32 R, .nilIface]) ∧ Below w.heap.size w w' := by
  obtain ⟨hb1, hb2⟩ := hb
  have hB := fun w => bool2i_any ge w
  obtain ⟨hE1, hE2⟩ := hEb
  have z3 : ((64 : Int) - (b : Int)).toNat = 64 - b := by omega
  have HZ : Hid (IntKind.u64.wrap ((d : Int) * 2 ^ (64 - b)) = (x : Int)) := hx
  have HB : Hid (∀ w, Calls Tryz.prog 61 #[.bool ge] w fun e w' => e = .returned (.int .i64 (if ge then 1 else 0)) ∧ w' = w) := hB
  have HS : Hid (decide ((67108862 : Int) ≤ (u : Int)) = ge ∧ bits .or .u64 ((u : Int) / 2 ^ s) ((u % 2 : Nat) : Int) = (y : Int) ∧ bits .and .u64 (u : Int) 1 = ((u % 2 : Nat) : Int)) := ⟨hge, e2, e1⟩
  have HH : Hid (s = if ge then 1 else 0) := hs
  have HE3 : Hid (bits .or .u32 0 (m : Int) = (m : Int)) := e3
  clear hx hB hge e2 hs e3 e1
  go_enter Tryz.func121, Tryz.ntmps121
  go_wp2_with fail
  refine (hL _).mono ?_
  rintro e9 w9 ⟨rfl, hw9⟩
  obtain rfl := hw9.symm
  clear hw9
  go_wp2_with fail
  refine (hG _).mono ?_
  rintro e9 w9 ⟨rfl, hw9⟩
  obtain rfl := hw9.symm
  clear hw9
  go_wp2_with fail
  refine (hP _ _ _).mono ?_
  rintro e9 w9 ⟨rfl, hw9⟩
  subst hw9
  have hx := HZ.out
  go_wp2_with fail
  refine hU.mono ?_
  rintro e9 w9 ⟨rfl, n9, rfl⟩
  clear hx
  go_wp2_with fail
  refine (unmin_p _).mono ?_
  rintro e9 w9 ⟨rfl, hw9⟩
  obtain rfl := hw9.symm
  clear hw9 hL hG hP hU
  have hge := HS.out.1
  go_wp2_with fail
  refine (HB.out _).mono ?_
  rintro e9 w9 ⟨rfl, hw9⟩
  obtain rfl := hw9.symm
  clear hw9 hge
  obtain ⟨hge, e2, e1⟩ := HS.out
  have hs := HH.out
  clear HS HH HB
  generalize hQ : ((u % 2 : Nat) : Int) = Q at *
  have HQ : Hid (((u % 2 : Nat) : Int) = Q) := hQ
  clear hQ hge
  have e3 := HE3.out
  cases ge
  · simp only [Bool.false_eq_true, if_false] at hs ⊢
    subst hs
    simp only [Int.pow_zero, Int.ediv_one] at e2
    have hm2 : (m : Int) ≤ 4294967295 := by omega
    go_wp2_with fail
    refine (hR _).mono ?_
    rintro e9 w9 ⟨rfl, hw9⟩
    obtain rfl := hw9.symm
    clear hw9
    simp only [Int.natCast_zero, Int.sub_zero] at hK
    go_wp2_with fail
    refine (hK _).mono ?_
    rintro e9 w9 ⟨rfl, hw9⟩
    obtain rfl := hw9.symm
    clear hw9
    go_wp2
    go_ret2
    exact ⟨rfl, below_drewN (by go_grown) _⟩
  · simp only [if_true] at hs ⊢
    subst hs
    simp only [Int.pow_succ, Int.pow_zero, Int.one_mul] at e2
    have hm2 : (m : Int) ≤ 4294967295 := by omega
    go_wp2_with fail
    refine (hR _).mono ?_
    rintro e9 w9 ⟨rfl, hw9⟩
    obtain rfl := hw9.symm
    clear hw9
    simp only [Int.natCast_one] at hK
    go_wp2_with fail
    refine (hK _).mono ?_
    rintro e9 w9 ⟨rfl, hw9⟩
    obtain rfl := hw9.symm
    clear hw9
    go_wp2
    go_ret2
    exact ⟨rfl, below_drewN (by go_grown) _⟩

/-- ten to the power p in the library's table -/
structure TabP (w : World) (p : Nat) : Prop where
  hi : w.cell? ⟨15, (348 + p) * 2, none⟩ = some (.int .u64 ((hiP p : Nat) : Int))
  lo : w.cell? ⟨15, (348 + p) * 2 + 1, none⟩ = some (.int .u64 0)

theorem scale_x (d p : Nat) (hd0 : 0 < d) (hd : d < 2 ^ 64) (hl : lpP p ≤ 59) :
    d * 2 ^ (64 - (d.log2 + 1)) * hiP p = d * 10 ^ p * 2 ^ (127 - (d.log2 + 1 + lpP p)) ∧ d.log2 < 64 := by
  have h1 : d.log2 < 64 := by rw [Nat.log2_lt (by omega)]; exact hd
  refine ⟨?_, h1⟩
  have e : (2 : Nat) ^ (127 - (d.log2 + 1 + lpP p)) = 2 ^ (64 - (d.log2 + 1)) * 2 ^ (63 - lpP p) := by
    rw [← Nat.pow_add]; congr 1; omega
  rw [e]
  unfold hiP
  generalize 2 ^ (64 - (d.log2 + 1)) = A
  generalize 2 ^ (63 - lpP p) = C
  generalize 10 ^ p = T
  rw [Nat.mul_mul_mul_comm]

theorem parse32_any (d p : Nat) (hd0 : 0 < d) (hd : d < 18446744073709551616) (hp : p ≤ 18) (w : World) (hT : TabP w p) :
    Calls Tryz.prog 121 #[.int .u64 (d : Int), .int .i64 (p : Int), .int .u32 0] w fun e w' => e = .returned (.tuple #[.float .f32 (rndR (d * 10 ^ p * P149)), .nilIface]) ∧ Below w.heap.size w w' := by
  obtain ⟨l1, l2, l3, l4⟩ := lp_facts p (by omega)
  obtain ⟨hx, hb⟩ := scale_x d p hd0 hd l1
  have d1 : 2 ^ d.log2 ≤ d := Nat.log2_self_le (by omega)
  have d2 : d < 2 ^ (d.log2 + 1) := Nat.lt_log2_self
  have hxlt : d * 2 ^ (64 - (d.log2 + 1)) < 18446744073709551616 := by
    have e : (18446744073709551616 : Nat) = 2 ^ (d.log2 + 1) * 2 ^ (64 - (d.log2 + 1)) := by
      rw [← Nat.pow_add, show d.log2 + 1 + (64 - (d.log2 + 1)) = 64 by omega]
    rw [e]
    exact Nat.mul_lt_mul_of_pos_right d2 (Nat.two_pow_pos _)
  have hN0 : 2 ^ (d.log2 + lpP p) ≤ d * 10 ^ p := by rw [Nat.pow_add]; exact Nat.mul_le_mul d1 l2
  have hN1 : 64 * (d * 10 ^ p) < 63 * (2 * 2 ^ (d.log2 + 1 + lpP p)) := by
    have h5 : d * (100 * 10 ^ p) < 2 ^ (d.log2 + 1) * (98 * 2 ^ (lpP p + 1)) := Nat.mul_lt_mul_of_lt_of_lt d2 l3
    have e5 : d * (100 * 10 ^ p) = 100 * (d * 10 ^ p) := by rw [Nat.mul_left_comm]
    have e6 : 2 ^ (d.log2 + 1) * (98 * 2 ^ (lpP p + 1)) = 196 * 2 ^ (d.log2 + 1 + lpP p) := by
      rw [Nat.pow_succ 2 (lpP p), Nat.pow_add 2 (d.log2 + 1) (lpP p), Nat.mul_left_comm, ← Nat.mul_assoc (2 ^ (d.log2 + 1)), Nat.mul_comm _ 2, ← Nat.mul_assoc]
    rw [e5, e6] at h5
    omega
  have hu : unr (d * 2 ^ (64 - (d.log2 + 1)) * hiP p) 101 = unr (d * 10 ^ p * P149) (d.log2 + 1 + lpP p + 123) := by
    have h6 := unr_scale (d * 2 ^ (64 - (d.log2 + 1)) * hiP p) 101 (d.log2 + 1 + lpP p + 22)
    rw [← h6, hx, Nat.mul_assoc, ← Nat.pow_add, show 127 - (d.log2 + 1 + lpP p) + (d.log2 + 1 + lpP p + 22) = 149 by omega, show 101 + (d.log2 + 1 + lpP p + 22) = d.log2 + 1 + lpP p + 123 by omega]
    rfl
  have hne1 : d * 2 ^ (64 - (d.log2 + 1)) * hiP p % 18446744073709551616 ≠ 1 := by
    rw [hx, show 127 - (d.log2 + 1 + lpP p) = (126 - (d.log2 + 1 + lpP p)) + 1 by omega, Nat.pow_succ, ← Nat.mul_assoc]
    omega
  have hP149 : 2 ^ 25 * 2 ^ (d.log2 + 1 + lpP p + 123) = 2 ^ (d.log2 + lpP p) * P149 := by
    unfold P149
    rw [← Nat.pow_add, ← Nat.pow_add]; congr 1; omega
  have g1 : 33554432 * 2 ^ (d.log2 + 1 + lpP p + 123) ≤ d * 10 ^ p * P149 := by
    rw [show (33554432 : Nat) = 2 ^ 25 by decide, hP149]; exact Nat.mul_le_mul_right _ hN0
  have g2 : 64 * (d * 10 ^ p * P149) < 63 * (134217728 * 2 ^ (d.log2 + 1 + lpP p + 123)) := by
    have e9 : 2 ^ (d.log2 + 1 + lpP p) = 2 * 2 ^ (d.log2 + lpP p) := by
      rw [show d.log2 + 1 + lpP p = (d.log2 + lpP p) + 1 by omega, Nat.pow_succ, Nat.mul_comm]
    rw [e9] at hN1
    have e7 : 134217728 * 2 ^ (d.log2 + 1 + lpP p + 123) = 4 * (2 ^ (d.log2 + lpP p) * P149) := by
      rw [← hP149, ← Nat.mul_assoc]
    rw [e7]
    generalize d * 10 ^ p = n at *
    generalize 2 ^ (d.log2 + lpP p) = t at *
    have h8 : 64 * n * P149 < 252 * t * P149 := Nat.mul_lt_mul_of_pos_right (by omega) p149_pos
    rw [Nat.mul_assoc, Nat.mul_assoc] at h8
    omega
  obtain ⟨q1, q2, q3, q4⟩ := rung_unr _ _ (by omega) g1 g2
  have hU := fun w => uscale_exact (d * 2 ^ (64 - (d.log2 + 1))) (hiP p) hxlt l4 hne1 w
  rw [hu] at hU
  have hLen := fun w => len64_at (d : Int) (by omega) (by omega) ((d.log2 + 1 : Nat) : Int) (by rw [Int.toNat_natCast, bitLen_log d hd0 hd]) w
  have hPre := fun x0 x1 x2 : Int => prescale_any (348 + p) (-40 - (lpP p : Int)) (p : Int) (lpP p : Int) ((hiP p : Nat) : Int) 0 x0 x1 x2 189 w (by omega) (by omega) (by omega) (by omega) hT.hi hT.lo
  rw [show -(-40 - (lpP p : Int) + (lpP p : Int) + 3) = 37 by omega] at hPre
  have hLg := fun w => log2_any p hp w
  have hxw : IntKind.u64.wrap ((d : Int) * 2 ^ (64 - (d.log2 + 1))) = ((d * 2 ^ (64 - (d.log2 + 1)) : Nat) : Int) := by
    have e8 : (d : Int) * 2 ^ (64 - (d.log2 + 1)) = ((d * 2 ^ (64 - (d.log2 + 1)) : Nat) : Int) := by
      rw [Int.natCast_mul, Int.natCast_pow]; rfl
    rw [e8, IntKind.wrap_u64]
    omega
  generalize hLL : d.log2 = L at *
  generalize lpP p = lp at *
  generalize d * 10 ^ p * P149 = X at *
  generalize d * 2 ^ (64 - (L + 1)) = x at *
  by_cases hc : unr X (L + 1 + lp + 123) < 67108862
  · obtain ⟨r1, r2, r3⟩ := q1 hc
    generalize unr X (L + 1 + lp + 123) = u at *
    refine parse32_raw d p (L + 1) lp x u (rndU u) (rndR X) ((hiP p : Nat) : Int) (24 - ((L + 1 : Nat) : Int) - (lp : Int)) (-40 - (lp : Int)) u 0 false w ⟨by omega, by omega⟩ l1 hLen hLg hPre (hU w) (by omega) (by omega) (by omega) hxw (decide_eq_false (by omega)) rfl (and_one u (by omega)) (by simpa using or_self u (by omega)) (round_nat u (by omega)) r2 (or32_zero _ (by omega)) ?_
    intro w
    have h9 := pack_any (rndU u) (-(24 - ((L + 1 : Nat) : Int) - (lp : Int) - ((0 : Nat) : Int))) (L + 1 + lp + 126) r1 r2 (by omega) (by omega) w
    rw [show rndU u - 8388608 + (L + 1 + lp + 126) * 8388608 = rndR X by omega] at h9
    exact h9
  · obtain ⟨r1, r2, r3⟩ := q2 (by omega)
    generalize unr X (L + 1 + lp + 123) = u at *
    have hlu : lessU u < 67108864 := by unfold lessU; split <;> omega
    refine parse32_raw d p (L + 1) lp x u (rndU (lessU u)) (rndR X) ((hiP p : Nat) : Int) (24 - ((L + 1 : Nat) : Int) - (lp : Int)) (-40 - (lp : Int)) (lessU u) 1 true w ⟨by omega, by omega⟩ l1 hLen hLg hPre (hU w) (by omega) (by omega) (by omega) hxw (decide_eq_true (by omega)) rfl (and_one u (by omega)) (by simpa using or_less u (by omega)) (round_nat _ (by omega)) r2 (or32_zero _ (by omega)) ?_
    intro w
    have h9 := pack_any (rndU (lessU u)) (-(24 - ((L + 1 : Nat) : Int) - (lp : Int) - ((1 : Nat) : Int))) (L + 1 + lp + 127) r1 r2 (by omega) (by omega) w
    rw [show rndU (lessU u) - 8388608 + (L + 1 + lp + 127) * 8388608 = rndR X by omega] at h9
    exact h9
end Go.Proofs.YtnjbdaonmgadaaaGreatDoor
