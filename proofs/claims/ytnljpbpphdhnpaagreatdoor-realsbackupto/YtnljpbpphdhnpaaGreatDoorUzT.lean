/- The library's parseFloat32 for numbers times a power of ten that is told exactly: the nearest real. -/
import Derived.Test.YtnljpbpphdhnpaaGreatDoorWhM
import Derived.Test.YtnljpbpphdhnpaaGreatDoorShA

namespace Go.Proofs.YtnljpbpphdhnpaaGreatDoor
open Go.RowKit Go.PlainAid

theorem or_self (u : Nat) (h : u < 18446744073709551616) : bits .or .u64 (u : Int) ((u % 2 : Nat) : Int) = (u : Int) := by
  have h1 := u64_or_nat u (u % 2) h (by omega)
  rw [h1]
  congr 1
  have : u % 2 = 0 ∨ u % 2 = 1 := by omega
  rcases this with e | e
  · rw [e, Nat.or_zero]
  · rw [e, lor_one]; omega
theorem or_less (u : Nat) (h : u < 18446744073709551616) : bits .or .u64 ((u : Int) / 2) ((u % 2 : Nat) : Int) = ((lessU u : Nat) : Int) := by
  have h1 := u64_or_nat (u / 2) (u % 2) (by omega) (by omega)
  rw [show (u : Int) / 2 = ((u / 2 : Nat) : Int) by omega, h1]
  congr 1
  unfold lessU
  have : u % 2 = 0 ∨ u % 2 = 1 := by omega
  rcases this with e | e
  · rw [e, Nat.or_zero, if_pos rfl]
  · rw [e, lor_one, if_neg (by omega)]
theorem or32_zero (m : Nat) (h : m < 4294967296) : bits .or .u32 0 (m : Int) = (m : Int) := by
  have := u32_or_nat 0 m (by decide) h
  rw [Nat.zero_or] at this
  exact this

set_option maxRecDepth 1000000 in
set_option maxHeartbeats 1000000 in
/-- the walk, by its two ways -/
theorem parse32_raw (d p b lp x u m R : Nat) (hi E A : Int) (y : Nat) (s : Nat) (ge : Bool) (w : World) (hb : 1 ≤ b ∧ b ≤ 64) (hlp : lp ≤ 59) 
    (hL : ∀ w, Calls Tryz.prog 129 #[.int .u64 (d : Int)] w fun e w' => e = .returned (.int .i64 (b : Int)) ∧ w' = w)
    (hG : ∀ w, Calls Tryz.prog 172 #[.int .i64 (p : Int)] w fun e w' => e = .returned (.int .i64 (lp : Int)) ∧ w' = w)
    (hP : ∀ x0 x1 x2 : Int, Calls Tryz.prog 171 #[.pointer (some ⟨w.heap.size, 0, none⟩), .int .i64 A, .int .i64 (p : Int), .int .i64 (lp : Int)] (w.alloc (.cells #[.int .u64 x0, .int .u64 x1, .int .i64 x2] 208)) fun e' w' => e' = .returned (.tuple #[]) ∧ w' = w.alloc (.cells #[.int .u64 hi, .int .u64 0, .int .i64 37] 208))
    (hU : Calls Tryz.prog 173 #[.int .u64 (x : Int), .pointer (some ⟨w.heap.size, 0, none⟩)] (w.alloc (.cells #[.int .u64 hi, .int .u64 0, .int .i64 37] 208)) fun e w' => e = .returned (.int .u64 (u : Int)) ∧ ∃ n, w' = (w.alloc (.cells #[.int .u64 hi, .int .u64 0, .int .i64 37] 208)).drewN n)
    (hE : min (149 : Int) (24 - (b : Int) - (lp : Int)) = E) (hA : E - (64 - (b : Int)) = A) (hEb : -200 ≤ E ∧ E ≤ 100)
    (hx : IntKind.u64.wrap ((d : Int) * 2 ^ (64 - b)) = (x : Int))
    (hge : decide ((67108862 : Int) ≤ (u : Int)) = ge) (hs : s = if ge then 1 else 0) (e1 : bits .and .u64 (u : Int) 1 = ((u % 2 : Nat) : Int)) (e2 : bits .or .u64 ((u : Int) / 2 ^ s) ((u % 2 : Nat) : Int) = (y : Int))
    (hR : ∀ w, Calls Tryz.prog 177 #[.int .u64 (y : Int)] w fun e w' => e = .returned (.int .u64 (m : Int)) ∧ w' = w) (hm : m < 16777216) (e3 : bits .or .u32 0 (m : Int) = (m : Int))
    (hK : ∀ w, Calls Tryz.prog 190 #[.int .u32 (m : Int), .int .i64 (-(E - (s : Int)))] w fun e w' => e = .returned (.tuple #[.float .f32 R, .nilIface]) ∧ w' = w) :
    Calls Tryz.prog 158 #[.int .u64 (d : Int), .int .i64 (p : Int), .int .u32 0] w fun e w' => e = .returned (.tuple #[.float .f32 R, .nilIface]) ∧ Below w.heap.size w w' := by
  obtain ⟨hb1, hb2⟩ := hb
  have hB := fun w => bool2i_any ge w
  obtain ⟨hE1, hE2⟩ := hEb
  have z3 : ((64 : Int) - (b : Int)).toNat = 64 - b := by omega
  have HZ : Hid (IntKind.u64.wrap ((d : Int) * 2 ^ (64 - b)) = (x : Int)) := hx
  have HB : Hid (∀ w, Calls Tryz.prog 130 #[.bool ge] w fun e w' => e = .returned (.int .i64 (if ge then 1 else 0)) ∧ w' = w) := hB
  have HS : Hid (decide ((67108862 : Int) ≤ (u : Int)) = ge ∧ bits .or .u64 ((u : Int) / 2 ^ s) ((u % 2 : Nat) : Int) = (y : Int) ∧ bits .and .u64 (u : Int) 1 = ((u % 2 : Nat) : Int)) := ⟨hge, e2, e1⟩
  have HH : Hid (s = if ge then 1 else 0) := hs
  have HE3 : Hid (bits .or .u32 0 (m : Int) = (m : Int)) := e3
  clear hx hB hge e2 hs e3 e1
  go_enter Tryz.func158, Tryz.ntmps158
  go_wp2_with fail
  refine (hL _).mono ?_
  rintro e9 w9 ⟨rfl, hw9⟩
  obtain rfl := hw9.symm
  clear hw9
  go_wp2_with fail
  refine (hG _).mono ?_
  rintro e9 w9 ⟨rfl, hw9⟩
  obtain rfl := hw9.symm
  clear hw9
  go_wp2_with fail
  refine (hP _ _ _).mono ?_
  rintro e9 w9 ⟨rfl, hw9⟩
  subst hw9
  have hx := HZ.out
  go_wp2_with fail
  refine hU.mono ?_
  rintro e9 w9 ⟨rfl, n9, rfl⟩
  clear hx
  go_wp2_with fail
  refine (unmin_p _).mono ?_
  rintro e9 w9 ⟨rfl, hw9⟩
  obtain rfl := hw9.symm
  clear hw9 hL hG hP hU
  have hge := HS.out.1
  go_wp2_with fail
  refine (HB.out _).mono ?_
  rintro e9 w9 ⟨rfl, hw9⟩
  obtain rfl := hw9.symm
  clear hw9 hge
  obtain ⟨hge, e2, e1⟩ := HS.out
  have hs := HH.out
  clear HS HH HB
  generalize hQ : ((u % 2 : Nat) : Int) = Q at *
  have HQ : Hid (((u % 2 : Nat) : Int) = Q) := hQ
  clear hQ hge
  have e3 := HE3.out
  cases ge
  · simp only [Bool.false_eq_true, if_false] at hs ⊢
    subst hs
    simp only [Int.pow_zero, Int.ediv_one] at e2
    have hm2 : (m : Int) ≤ 4294967295 := by omega
    go_wp2_with fail
    refine (hR _).mono ?_
    rintro e9 w9 ⟨rfl, hw9⟩
    obtain rfl := hw9.symm
    clear hw9
    simp only [Int.natCast_zero, Int.sub_zero] at hK
    go_wp2_with fail
    refine (hK _).mono ?_
    rintro e9 w9 ⟨rfl, hw9⟩
    obtain rfl := hw9.symm
    clear hw9
    go_wp2
    go_ret2
    exact ⟨rfl, below_drewN (by go_grown) _⟩
  · simp only [if_true] at hs ⊢
    subst hs
    simp only [Int.pow_succ, Int.pow_zero, Int.one_mul] at e2
    have hm2 : (m : Int) ≤ 4294967295 := by omega
    go_wp2_with fail
    refine (hR _).mono ?_
    rintro e9 w9 ⟨rfl, hw9⟩
    obtain rfl := hw9.symm
    clear hw9
    simp only [Int.natCast_one] at hK
    go_wp2_with fail
    refine (hK _).mono ?_
    rintro e9 w9 ⟨rfl, hw9⟩
    obtain rfl := hw9.symm
    clear hw9
    go_wp2
    go_ret2
    exact ⟨rfl, below_drewN (by go_grown) _⟩

/-- ten to the power p in the library's table -/
structure TabP (w : World) (p : Nat) : Prop where
  hi : w.cell? ⟨15, (348 + p) * 2, none⟩ = some (.int .u64 ((hiP p : Nat) : Int))
  lo : w.cell? ⟨15, (348 + p) * 2 + 1, none⟩ = some (.int .u64 0)

theorem scale_x (d p : Nat) (hd0 : 0 < d) (hd : d < 2 ^ 64) (hl : lpP p ≤ 59) :
    d * 2 ^ (64 - (d.log2 + 1)) * hiP p = d * 10 ^ p * 2 ^ (127 - (d.log2 + 1 + lpP p)) ∧ d.log2 < 64 := by
  have h1 : d.log2 < 64 := by rw [Nat.log2_lt (by omega)]; exact hd
  refine ⟨?_, h1⟩
  have e : (2 : Nat) ^ (127 - (d.log2 + 1 + lpP p)) = 2 ^ (64 - (d.log2 + 1)) * 2 ^ (63 - lpP p) := by
    rw [← Nat.pow_add]; congr 1; omega
  rw [e]
  unfold hiP
  generalize 2 ^ (64 - (d.log2 + 1)) = A
  generalize 2 ^ (63 - lpP p) = C
  generalize 10 ^ p = T
  rw [Nat.mul_mul_mul_comm]

theorem parse32_any (d p : Nat) (hd0 : 0 < d) (hd : d < 18446744073709551616) (hp : p ≤ 18) (w : World) (hT : TabP w p) :
    Calls Tryz.prog 158 #[.int .u64 (d : Int), .int .i64 (p : Int), .int .u32 0] w fun e w' => e = .returned (.tuple #[.float .f32 (rndR (d * 10 ^ p * P149)), .nilIface]) ∧ Below w.heap.size w w' := by
  obtain ⟨l1, l2, l3, l4⟩ := lp_facts p (by omega)
  obtain ⟨hx, hb⟩ := scale_x d p hd0 hd l1
  have d1 : 2 ^ d.log2 ≤ d := Nat.log2_self_le (by omega)
  have d2 : d < 2 ^ (d.log2 + 1) := Nat.lt_log2_self
  have hxlt : d * 2 ^ (64 - (d.log2 + 1)) < 18446744073709551616 := by
    have e : (18446744073709551616 : Nat) = 2 ^ (d.log2 + 1) * 2 ^ (64 - (d.log2 + 1)) := by
      rw [← Nat.pow_add, show d.log2 + 1 + (64 - (d.log2 + 1)) = 64 by omega]
    rw [e]
    exact Nat.mul_lt_mul_of_pos_right d2 (Nat.two_pow_pos _)
  have hN0 : 2 ^ (d.log2 + lpP p) ≤ d * 10 ^ p := by rw [Nat.pow_add]; exact Nat.mul_le_mul d1 l2
  have hN1 : 64 * (d * 10 ^ p) < 63 * (2 * 2 ^ (d.log2 + 1 + lpP p)) := by
    have h5 : d * (100 * 10 ^ p) < 2 ^ (d.log2 + 1) * (98 * 2 ^ (lpP p + 1)) := Nat.mul_lt_mul_of_lt_of_lt d2 l3
    have e5 : d * (100 * 10 ^ p) = 100 * (d * 10 ^ p) := by rw [Nat.mul_left_comm]
    have e6 : 2 ^ (d.log2 + 1) * (98 * 2 ^ (lpP p + 1)) = 196 * 2 ^ (d.log2 + 1 + lpP p) := by
      rw [Nat.pow_succ 2 (lpP p), Nat.pow_add 2 (d.log2 + 1) (lpP p), Nat.mul_left_comm, ← Nat.mul_assoc (2 ^ (d.log2 + 1)), Nat.mul_comm _ 2, ← Nat.mul_assoc]
    rw [e5, e6] at h5
    omega
  have hu : unr (d * 2 ^ (64 - (d.log2 + 1)) * hiP p) 101 = unr (d * 10 ^ p * P149) (d.log2 + 1 + lpP p + 123) := by
    have h6 := unr_scale (d * 2 ^ (64 - (d.log2 + 1)) * hiP p) 101 (d.log2 + 1 + lpP p + 22)
    rw [← h6, hx, Nat.mul_assoc, ← Nat.pow_add, show 127 - (d.log2 + 1 + lpP p) + (d.log2 + 1 + lpP p + 22) = 149 by omega, show 101 + (d.log2 + 1 + lpP p + 22) = d.log2 + 1 + lpP p + 123 by omega]
    rfl
  have hne1 : d * 2 ^ (64 - (d.log2 + 1)) * hiP p % 18446744073709551616 ≠ 1 := by
    rw [hx, show 127 - (d.log2 + 1 + lpP p) = (126 - (d.log2 + 1 + lpP p)) + 1 by omega, Nat.pow_succ, ← Nat.mul_assoc]
    omega
  have hP149 : 2 ^ 25 * 2 ^ (d.log2 + 1 + lpP p + 123) = 2 ^ (d.log2 + lpP p) * P149 := by
    unfold P149
    rw [← Nat.pow_add, ← Nat.pow_add]; congr 1; omega
  have g1 : 33554432 * 2 ^ (d.log2 + 1 + lpP p + 123) ≤ d * 10 ^ p * P149 := by
    rw [show (33554432 : Nat) = 2 ^ 25 by decide, hP149]; exact Nat.mul_le_mul_right _ hN0
  have g2 : 64 * (d * 10 ^ p * P149) < 63 * (134217728 * 2 ^ (d.log2 + 1 + lpP p + 123)) := by
    have e9 : 2 ^ (d.log2 + 1 + lpP p) = 2 * 2 ^ (d.log2 + lpP p) := by
      rw [show d.log2 + 1 + lpP p = (d.log2 + lpP p) + 1 by omega, Nat.pow_succ, Nat.mul_comm]
    rw [e9] at hN1
    have e7 : 134217728 * 2 ^ (d.log2 + 1 + lpP p + 123) = 4 * (2 ^ (d.log2 + lpP p) * P149) := by
      rw [← hP149, ← Nat.mul_assoc]
    rw [e7]
    generalize d * 10 ^ p = n at *
    generalize 2 ^ (d.log2 + lpP p) = t at *
    have h8 : 64 * n * P149 < 252 * t * P149 := Nat.mul_lt_mul_of_pos_right (by omega) p149_pos
    rw [Nat.mul_assoc, Nat.mul_assoc] at h8
    omega
  obtain ⟨q1, q2, q3, q4⟩ := rung_unr _ _ (by omega) g1 g2
  have hU := fun w => uscale_exact (d * 2 ^ (64 - (d.log2 + 1))) (hiP p) hxlt l4 hne1 w
  rw [hu] at hU
  have hLen := fun w => len64_at (d : Int) (by omega) (by omega) ((d.log2 + 1 : Nat) : Int) (by rw [Int.toNat_natCast, bitLen_log d hd0 hd]) w
  have hPre := fun x0 x1 x2 : Int => prescale_any (348 + p) (-40 - (lpP p : Int)) (p : Int) (lpP p : Int) ((hiP p : Nat) : Int) 0 x0 x1 x2 208 w (by omega) (by omega) (by omega) (by omega) hT.hi hT.lo
  rw [show -(-40 - (lpP p : Int) + (lpP p : Int) + 3) = 37 by omega] at hPre
  have hLg := fun w => log2_any p hp w
  have hxw : IntKind.u64.wrap ((d : Int) * 2 ^ (64 - (d.log2 + 1))) = ((d * 2 ^ (64 - (d.log2 + 1)) : Nat) : Int) := by
    have e8 : (d : Int) * 2 ^ (64 - (d.log2 + 1)) = ((d * 2 ^ (64 - (d.log2 + 1)) : Nat) : Int) := by
      rw [Int.natCast_mul, Int.natCast_pow]; rfl
    rw [e8, IntKind.wrap_u64]
    omega
  generalize hLL : d.log2 = L at *
  generalize lpP p = lp at *
  generalize d * 10 ^ p * P149 = X at *
  generalize d * 2 ^ (64 - (L + 1)) = x at *
  by_cases hc : unr X (L + 1 + lp + 123) < 67108862
  · obtain ⟨r1, r2, r3⟩ := q1 hc
    generalize unr X (L + 1 + lp + 123) = u at *
    refine parse32_raw d p (L + 1) lp x u (rndU u) (rndR X) ((hiP p : Nat) : Int) (24 - ((L + 1 : Nat) : Int) - (lp : Int)) (-40 - (lp : Int)) u 0 false w ⟨by omega, by omega⟩ l1 hLen hLg hPre (hU w) (by omega) (by omega) (by omega) hxw (decide_eq_false (by omega)) rfl (and_one u (by omega)) (by simpa using or_self u (by omega)) (round_nat u (by omega)) r2 (or32_zero _ (by omega)) ?_
    intro w
    have h9 := pack_any (rndU u) (-(24 - ((L + 1 : Nat) : Int) - (lp : Int) - ((0 : Nat) : Int))) (L + 1 + lp + 126) r1 r2 (by omega) (by omega) w
    rw [show rndU u - 8388608 + (L + 1 + lp + 126) * 8388608 = rndR X by omega] at h9
    exact h9
  · obtain ⟨r1, r2, r3⟩ := q2 (by omega)
    generalize unr X (L + 1 + lp + 123) = u at *
    have hlu : lessU u < 67108864 := by unfold lessU; split <;> omega
    refine parse32_raw d p (L + 1) lp x u (rndU (lessU u)) (rndR X) ((hiP p : Nat) : Int) (24 - ((L + 1 : Nat) : Int) - (lp : Int)) (-40 - (lp : Int)) (lessU u) 1 true w ⟨by omega, by omega⟩ l1 hLen hLg hPre (hU w) (by omega) (by omega) (by omega) hxw (decide_eq_true (by omega)) rfl (and_one u (by omega)) (by simpa using or_less u (by omega)) (round_nat _ (by omega)) r2 (or32_zero _ (by omega)) ?_
    intro w
    have h9 := pack_any (rndU (lessU u)) (-(24 - ((L + 1 : Nat) : Int) - (lp : Int) - ((1 : Nat) : Int))) (L + 1 + lp + 127) r1 r2 (by omega) (by omega) w
    rw [show rndU (lessU u) - 8388608 + (L + 1 + lp + 127) * 8388608 = rndR X by omega] at h9
    exact h9
end Go.Proofs.YtnljpbpphdhnpaaGreatDoor


/- The library's exact way for short numbers: its walk at one power. -/
namespace Go.Proofs.YtnljpbpphdhnpaaGreatDoor
open Go.RowKit Go.PlainAid

/-- the library's table of exact powers of ten as reals -/
def TabF (w : World) : Prop := ∃ g o cap, w.cell? ⟨10, 0, none⟩ = some (.slice (some ⟨g, o, none⟩) 11 cap) ∧ ∀ k, k ≤ 10 → w.cell? ⟨g, o + k, none⟩ = some (.float .f32 (fromI ((10 ^ k : Nat) : Int)))

set_option maxRecDepth 1000000 in
set_option maxHeartbeats 400000 in
theorem exact_mid (d p f g z b o cap : Nat) (w : World) (hd : d < 8388608) (hp0 : 0 < p) (hp : p ≤ 10) (hc : ∀ w, (convert 65 22 (.int .u64 (d : Int))).run Tryz.prog w = .ok (.float .f32 f) w)
    (hv : w.cell? ⟨10, 0, none⟩ = some (.slice (some ⟨b, o, none⟩) 11 cap)) (hg : w.cell? ⟨b, o + p, none⟩ = some (.float .f32 g)) (hm : ∀ w, (binOp .mul 22 (.float .f32 f) (.float .f32 g)).run Tryz.prog w = .ok (.float .f32 z) w)
    (t1 : (FloatKind.f32.format.order f 1259902592 == some Ordering.gt) = false) (t2 : (FloatKind.f32.format.order f 3407386240 == some Ordering.lt) = false) :
    Calls Tryz.prog 157 #[.int .u64 (d : Int), .int .i64 (p : Int), .bool false] w fun e w' => e = .returned (.tuple #[.float .f32 z, .bool true]) ∧ w' = w := by
  have hs : (d : Int) / 8388608 = 0 := by omega
  go_enter Tryz.func157, Tryz.ntmps157
  go_wp2
  go_ret2
  exact ⟨rfl, rfl⟩
set_option maxRecDepth 1000000 in
set_option maxHeartbeats 400000 in
theorem exact_far (d p q f g f1 g1 z b o cap : Nat) (w : World) (hd : d < 8388608) (hp0 : 10 < p) (hp : p ≤ 17) (hq : (p : Int) - 10 = (q : Int)) (hc : ∀ w, (convert 65 22 (.int .u64 (d : Int))).run Tryz.prog w = .ok (.float .f32 f) w)
    (hv : w.cell? ⟨10, 0, none⟩ = some (.slice (some ⟨b, o, none⟩) 11 cap)) (hg : w.cell? ⟨b, o + q, none⟩ = some (.float .f32 g)) (hg1 : w.cell? ⟨b, o + 10, none⟩ = some (.float .f32 g1)) (hm : ∀ w, (binOp .mul 22 (.float .f32 f) (.float .f32 g)).run Tryz.prog w = .ok (.float .f32 f1) w)
    (hm1 : ∀ w, (binOp .mul 22 (.float .f32 f1) (.float .f32 g1)).run Tryz.prog w = .ok (.float .f32 z) w)
    (t1 : (FloatKind.f32.format.order f1 1259902592 == some Ordering.gt) = false) (t2 : (FloatKind.f32.format.order f1 3407386240 == some Ordering.lt) = false) :
    Calls Tryz.prog 157 #[.int .u64 (d : Int), .int .i64 (p : Int), .bool false] w fun e w' => e = .returned (.tuple #[.float .f32 z, .bool true]) ∧ w' = w := by
  have hs : (d : Int) / 8388608 = 0 := by omega
  go_enter Tryz.func157, Tryz.ntmps157
  go_wp2
  go_ret2
  exact ⟨rfl, rfl⟩
set_option maxRecDepth 1000000 in
set_option maxHeartbeats 400000 in
theorem exact_not (d p q f g f1 b o cap : Nat) (w : World) (hd : d < 8388608) (hp0 : 10 < p) (hp : p ≤ 17) (hq : (p : Int) - 10 = (q : Int)) (hc : ∀ w, (convert 65 22 (.int .u64 (d : Int))).run Tryz.prog w = .ok (.float .f32 f) w)
    (hv : w.cell? ⟨10, 0, none⟩ = some (.slice (some ⟨b, o, none⟩) 11 cap)) (hg : w.cell? ⟨b, o + q, none⟩ = some (.float .f32 g)) (hm : ∀ w, (binOp .mul 22 (.float .f32 f) (.float .f32 g)).run Tryz.prog w = .ok (.float .f32 f1) w)
    (t1 : (FloatKind.f32.format.order f1 1259902592 == some Ordering.gt) = true) :
    Calls Tryz.prog 157 #[.int .u64 (d : Int), .int .i64 (p : Int), .bool false] w fun e w' => e = .returned (.tuple #[.float .f32 f1, .bool false]) ∧ w' = w := by
  have hs : (d : Int) / 8388608 = 0 := by omega
  go_enter Tryz.func157, Tryz.ntmps157
  go_wp2
  go_ret2
  exact ⟨rfl, rfl⟩
set_option maxRecDepth 1000000 in
theorem exact_zero (d f : Nat) (w : World) (hd : d < 8388608) (hc : ∀ w, (convert 65 22 (.int .u64 (d : Int))).run Tryz.prog w = .ok (.float .f32 f) w) :
    Calls Tryz.prog 157 #[.int .u64 (d : Int), .int .i64 0, .bool false] w fun e w' => e = .returned (.tuple #[.float .f32 f, .bool true]) ∧ w' = w := by
  have hs : (d : Int) / 8388608 = 0 := by omega
  go_enter Tryz.func157, Tryz.ntmps157
  go_wp2
  go_ret2
  exact ⟨rfl, rfl⟩
set_option maxRecDepth 1000000 in
theorem exact_18 (d p f : Nat) (w : World) (hd : d < 8388608) (hp : p = 18) (hc : ∀ w, (convert 65 22 (.int .u64 (d : Int))).run Tryz.prog w = .ok (.float .f32 f) w) :
    Calls Tryz.prog 157 #[.int .u64 (d : Int), .int .i64 (p : Int), .bool false] w fun e w' => e = .returned (.tuple #[.float .f32 f, .bool false]) ∧ w' = w := by
  have hs : (d : Int) / 8388608 = 0 := by omega
  subst hp
  go_enter Tryz.func157, Tryz.ntmps157
  go_wp2
  go_ret2
  exact ⟨rfl, rfl⟩
set_option maxRecDepth 1000000 in
theorem exact_long (d p : Nat) (w : World) (hd : 8388608 ≤ d) (hd2 : d < 18446744073709551616) :
    Calls Tryz.prog 157 #[.int .u64 (d : Int), .int .i64 (p : Int), .bool false] w fun e w' => e = .returned (.tuple #[.float .f32 0, .bool false]) ∧ w' = w := by
  have hs : ((d : Int) / 8388608 != 0) = true := by simp; omega
  go_enter Tryz.func157, Tryz.ntmps157
  go_wp2
  go_ret2
  exact ⟨rfl, rfl⟩
end Go.Proofs.YtnljpbpphdhnpaaGreatDoor


/- The library's parseFloat32 at any power of ten: its parts and its walk. -/
namespace Go.Proofs.YtnljpbpphdhnpaaGreatDoor
open Go.RowKit Go.PlainAid

set_option maxHeartbeats 1000000 in
/-- the library's scaling, for every row of the table -/
theorem usc_natZ (x hi lo s : Nat) (hx : x < 18446744073709551616) (hh : hi < 18446744073709551616) (hl : lo < 18446744073709551616) (hs : s < 64) (hle : x * lo ≤ x * hi * 18446744073709551616) (w : World) (n : Nat) :
    Calls Tryz.prog 173 #[.int .u64 (x : Int), .pointer (some ⟨w.heap.size, 0, none⟩)] ((w.alloc (preO hi lo s)).drewN n) fun e w' => e = .returned (.int .u64 ((uscN x hi lo s : Nat) : Int)) ∧ ∃ m, w' = (w.alloc (preO hi lo s)).drewN m := by
  have c1 : (x : Int) * (hi : Int) = ((x * hi : Nat) : Int) := (Int.natCast_mul x hi).symm
  have c2 : (x : Int) * (lo : Int) = ((x * lo : Nat) : Int) := (Int.natCast_mul x lo).symm
  have hA : x * hi / 18446744073709551616 < 18446744073709551616 := by
    rw [Nat.div_lt_iff_lt_mul (by decide)]
    exact Nat.mul_lt_mul_of_lt_of_lt (by omega) hh
  have hC : x * lo / 18446744073709551616 + 2 ≤ 18446744073709551616 := by
    have h3 : x * lo < (18446744073709551616 - 1) * 18446744073709551616 := by
      have : x * lo ≤ (18446744073709551616 - 1) * lo := Nat.mul_le_mul_right _ (by omega)
      omega
    have := (Nat.div_lt_iff_lt_mul (by decide)).2 h3
    omega
  have hB := Nat.mod_lt (x * hi) (show 0 < 18446744073709551616 by decide)
  have hle2 : x * hi / 18446744073709551616 = 0 → ¬ x * hi % 18446744073709551616 < x * lo / 18446744073709551616 := by
    generalize x * hi = z1 at *
    generalize x * lo = z2 at *
    omega
  have ha : (x : Int) * (hi : Int) / 18446744073709551616 = ((x * hi / 18446744073709551616 : Nat) : Int) := by rw [c1]; rfl
  have hb : (x : Int) * (hi : Int) % 18446744073709551616 = ((x * hi % 18446744073709551616 : Nat) : Int) := by rw [c1]; rfl
  have hc : (x : Int) * (lo : Int) / 18446744073709551616 = ((x * lo / 18446744073709551616 : Nat) : Int) := by rw [c2]; rfl
  have hd : (x : Int) * (lo : Int) % 18446744073709551616 = ((x * lo % 18446744073709551616 : Nat) : Int) := by rw [c2]; rfl
  unfold uscN
  generalize x * hi / 18446744073709551616 = A at *
  generalize x * hi % 18446744073709551616 = b at *
  generalize x * lo / 18446744073709551616 = c at *
  generalize x * lo % 18446744073709551616 = d at *
  have hP : 0 < 2 ^ s := Nat.two_pow_pos s
  have hk := Nat.div_add_mod A (2 ^ s)
  have hq : ((A : Int) / 2 ^ ((s : Nat) : Int).toNat) = ((A / 2 ^ s : Nat) : Int) := by
    rw [Int.toNat_natCast]
    norm_cast
  have hq1 : 1 ≤ A → (((A : Int) - 1) / 2 ^ ((s : Nat) : Int).toNat) = (((A - 1) / 2 ^ s : Nat) : Int) := fun h => by
    rw [Int.toNat_natCast, show (A : Int) - 1 = ((A - 1 : Nat) : Int) by omega]
    norm_cast
  have hqq : ((A : Int) / 2 ^ ((s : Nat) : Int).toNat) * 2 ^ ((s : Nat) : Int).toNat = ((A / 2 ^ s * 2 ^ s : Nat) : Int) := by
    rw [hq, Int.toNat_natCast]
    norm_cast
  have hle3 : A / 2 ^ s * 2 ^ s ≤ A := Nat.div_mul_le_self _ _
  have hmm : A % 2 ^ s = A - A / 2 ^ s * 2 ^ s := by rw [Nat.mul_comm (A / 2 ^ s)]; omega
  have hkl : A / 2 ^ s ≤ A := Nat.div_le_self _ _
  have hkl1 : (A - 1) / 2 ^ s ≤ A - 1 := Nat.div_le_self _ _
  have hw : IntKind.u64.wrap ((A : Int) / 2 ^ ((s : Nat) : Int).toNat * 2 ^ ((s : Nat) : Int).toNat) = ((A / 2 ^ s * 2 ^ s : Nat) : Int) := by
    rw [hqq]
    exact u64_small _ (by omega) (by omega)
  by_cases hr : A % 2 ^ s ≠ 0
  · rw [if_pos hr]
    have h := uscale_cut (x : Int) (hi : Int) (lo : Int) (s : Int) A b (w.drewN n) (and_63 s hs) (by omega) (by omega) ⟨by omega, by omega⟩ ⟨by omega, by omega⟩ ha hb (by
      rw [hw]
      exact bne_iff_ne.2 (fun h => hr (by have := Int.ofNat_inj.1 h; omega)))
    rw [hq, or_one _ (by omega), alloc_drewN] at h
    refine h.mono ?_
    rintro e w' ⟨rfl, m, rfl⟩
    exact ⟨rfl, n + m, by simp [World.drewN]; omega⟩
  · rw [if_neg hr]
    have h := uscale_all (x : Int) (hi : Int) (lo : Int) (s : Int) A b c d (if decide ((b : Int) < c) then 1 else 0) (if decide (1 < IntKind.u64.wrap ((b : Int) - c)) then 1 else 0) (w.drewN n) (and_63 s hs) (by omega) (by omega) ⟨by omega, by omega⟩ ⟨by omega, by omega⟩ ⟨by omega, by omega⟩ ha hb hc hd (by
      rw [hw]
      exact bne_eq_false_iff_eq.2 (congrArg Int.ofNat (show A / 2 ^ s * 2 ^ s = A by omega))) rfl rfl
    rw [alloc_drewN] at h
    refine h.mono ?_
    rintro e w' ⟨rfl, m, rfl⟩
    refine ⟨?_, n + m, by simp [World.drewN]; omega⟩
    congr 2
    by_cases hbc : b < c
    · rw [if_pos hbc, if_pos (by simp; omega)]
      have hA1 : 1 ≤ A := by
        rcases Nat.eq_zero_or_pos A with h | h
        · exact absurd hbc (hle2 h)
        · exact h
      have e1 : IntKind.u64.wrap ((b : Int) - c) = (b : Int) - c + 18446744073709551616 := by
        simp [IntKind.wrap, IntKind.bits, IntKind.signed]
        omega
      rw [e1, if_pos (by simp; omega), u64_small _ (by omega) (by omega), hq1 hA1, or_one _ (by omega)]
    · rw [if_neg hbc, if_neg (by simp; omega), u64_small ((b : Int) - c) (by omega) (by omega), u64_small _ (by omega) (by omega), Int.sub_zero, hq]
      by_cases hb2 : c + 1 < b
      · rw [if_pos hb2, if_pos (by simp; omega), or_one _ (by omega)]
      · rw [if_neg hb2, if_neg (by simp; omega), or_zero _ (by omega)]

set_option maxRecDepth 1000000 in
theorem log2_z (p L : Int) (h1 : -348 ≤ p) (h2 : p ≤ 347) (hL : lpZ p = L) (w : World) : Calls Tryz.prog 172 #[.int .i64 p] w fun e w' => e = .returned (.int .i64 L) ∧ w' = w := by
  have e : (p * 108853) / 2 ^ 15 = L := by rw [← hL]; rfl
  clear hL
  go_enter Tryz.func172, Tryz.ntmps172
  go_wp2
  go_ret
  exact ⟨by simp [← e], rfl⟩

theorem and23_low (m : Nat) (h : m < 8388608) : bits .and .u32 (m : Int) 8388608 = 0 := by
  have h1 := u32_and_nat m 8388608 (by omega) (by decide)
  have h3 : m &&& 8388608 = 0 := by
    have h4 : m &&& 2 ^ 23 = 0 := by
      apply Nat.eq_of_testBit_eq
      intro i
      rw [Nat.testBit_and, Nat.testBit_two_pow]
      by_cases hi : 23 = i
      · subst hi
        rw [Nat.testBit_lt_two_pow (by omega)]
        simp
      · simp [hi]
    simpa using h4
  rw [h3] at h1
  exact h1
set_option maxRecDepth 1000000 in
set_option maxHeartbeats 400000 in
theorem pack_small (m : Nat) (E : Int) (h : m < 8388608) (w : World) :
    Calls Tryz.prog 190 #[.int .u32 (m : Int), .int .i64 E] w fun e w' => e = .returned (.tuple #[.float .f32 m, .nilIface]) ∧ w' = w := by
  have e1 := and23_low m h
  have hF := run_sfrom m
  go_enter Tryz.func190, Tryz.ntmps190
  go_wp2
  go_ret2
  exact ⟨rfl, rfl⟩
def errRange : Value := .iface 124 (.int .i64 1)
set_option maxRecDepth 1000000 in
set_option maxHeartbeats 400000 in
theorem pack_over_raw (m E : Int) (e1 : bits .and .u32 m 8388608 = 8388608) (e2 : bits .and .u32 m 2147483648 = 0) (e3 : bits .or .u32 0 2139095040 = 2139095040) (hE : 105 ≤ E) (w : World) :
    Calls Tryz.prog 190 #[.int .u32 m, .int .i64 E] w fun e w' => e = .returned (.tuple #[.float .f32 2139095040, errRange]) ∧ w' = w := by
  have hF := run_sfrom 2139095040
  have e0 : ((2139095040 : Nat) : Int) = 2139095040 := rfl
  simp only [e0] at hF
  go_enter Tryz.func190, Tryz.ntmps190
  go_wp2
  go_ret2
  exact ⟨rfl, rfl⟩
set_option maxRecDepth 1000000 in
set_option maxHeartbeats 1000000 in
/-- the walk, by its two ways -/
theorem parse32_z (d b x u m R : Nat) (er : Value) (hi lo S p lp E A : Int) (y : Nat) (s : Nat) (ge : Bool) (w : World) (hb : 1 ≤ b ∧ b ≤ 64) (hlp : -240 ≤ lp ∧ lp ≤ 200) (hS : S < 64) 
    (hL : ∀ w, Calls Tryz.prog 129 #[.int .u64 (d : Int)] w fun e w' => e = .returned (.int .i64 (b : Int)) ∧ w' = w)
    (hG : ∀ w, Calls Tryz.prog 172 #[.int .i64 p] w fun e w' => e = .returned (.int .i64 lp) ∧ w' = w)
    (hP : ∀ x0 x1 x2 : Int, Calls Tryz.prog 171 #[.pointer (some ⟨w.heap.size, 0, none⟩), .int .i64 A, .int .i64 p, .int .i64 lp] (w.alloc (.cells #[.int .u64 x0, .int .u64 x1, .int .i64 x2] 208)) fun e' w' => e' = .returned (.tuple #[]) ∧ w' = w.alloc (.cells #[.int .u64 hi, .int .u64 lo, .int .i64 S] 208))
    (hU : Calls Tryz.prog 173 #[.int .u64 (x : Int), .pointer (some ⟨w.heap.size, 0, none⟩)] (w.alloc (.cells #[.int .u64 hi, .int .u64 lo, .int .i64 S] 208)) fun e w' => e = .returned (.int .u64 (u : Int)) ∧ ∃ n, w' = (w.alloc (.cells #[.int .u64 hi, .int .u64 lo, .int .i64 S] 208)).drewN n)
    (hE : min (149 : Int) (24 - (b : Int) - lp) = E) (hA : E - (64 - (b : Int)) = A) (hEb : -200 ≤ E ∧ E ≤ 200)
    (hx : IntKind.u64.wrap ((d : Int) * 2 ^ (64 - b)) = (x : Int))
    (hge : decide ((67108862 : Int) ≤ (u : Int)) = ge) (hs : s = if ge then 1 else 0) (e1 : bits .and .u64 (u : Int) 1 = ((u % 2 : Nat) : Int)) (e2 : bits .or .u64 ((u : Int) / 2 ^ s) ((u % 2 : Nat) : Int) = (y : Int))
    (hR : ∀ w, Calls Tryz.prog 177 #[.int .u64 (y : Int)] w fun e w' => e = .returned (.int .u64 (m : Int)) ∧ w' = w) (hm : m < 16777216) (e3 : bits .or .u32 0 (m : Int) = (m : Int))
    (hK : ∀ w, Calls Tryz.prog 190 #[.int .u32 (m : Int), .int .i64 (-(E - (s : Int)))] w fun e w' => e = .returned (.tuple #[.float .f32 R, er]) ∧ w' = w) :
    Calls Tryz.prog 158 #[.int .u64 (d : Int), .int .i64 p, .int .u32 0] w fun e w' => e = .returned (.tuple #[.float .f32 R, er]) ∧ Below w.heap.size w w' := by
  obtain ⟨hb1, hb2⟩ := hb
  have hB := fun w => bool2i_any ge w
  obtain ⟨hE1, hE2⟩ := hEb
  obtain ⟨hlp1, hlp2⟩ := hlp
  have z3 : ((64 : Int) - (b : Int)).toNat = 64 - b := by omega
  have HZ : Hid (IntKind.u64.wrap ((d : Int) * 2 ^ (64 - b)) = (x : Int)) := hx
  have HB : Hid (∀ w, Calls Tryz.prog 130 #[.bool ge] w fun e w' => e = .returned (.int .i64 (if ge then 1 else 0)) ∧ w' = w) := hB
  have HS : Hid (decide ((67108862 : Int) ≤ (u : Int)) = ge ∧ bits .or .u64 ((u : Int) / 2 ^ s) ((u % 2 : Nat) : Int) = (y : Int) ∧ bits .and .u64 (u : Int) 1 = ((u % 2 : Nat) : Int)) := ⟨hge, e2, e1⟩
  have HH : Hid (s = if ge then 1 else 0) := hs
  have HE3 : Hid (bits .or .u32 0 (m : Int) = (m : Int)) := e3
  clear hx hB hge e2 hs e3 e1
  go_enter Tryz.func158, Tryz.ntmps158
  go_wp2_with fail
  refine (hL _).mono ?_
  rintro e9 w9 ⟨rfl, hw9⟩
  obtain rfl := hw9.symm
  clear hw9
  go_wp2_with fail
  refine (hG _).mono ?_
  rintro e9 w9 ⟨rfl, hw9⟩
  obtain rfl := hw9.symm
  clear hw9
  go_wp2_with fail
  refine (hP _ _ _).mono ?_
  rintro e9 w9 ⟨rfl, hw9⟩
  subst hw9
  have hx := HZ.out
  go_wp2_with fail
  refine hU.mono ?_
  rintro e9 w9 ⟨rfl, n9, rfl⟩
  clear hx
  go_wp2_with fail
  refine (unmin_p _).mono ?_
  rintro e9 w9 ⟨rfl, hw9⟩
  obtain rfl := hw9.symm
  clear hw9 hL hG hP hU
  have hge := HS.out.1
  go_wp2_with fail
  refine (HB.out _).mono ?_
  rintro e9 w9 ⟨rfl, hw9⟩
  obtain rfl := hw9.symm
  clear hw9 hge
  obtain ⟨hge, e2, e1⟩ := HS.out
  have hs := HH.out
  clear HS HH HB
  generalize hQ : ((u % 2 : Nat) : Int) = Q at *
  have HQ : Hid (((u % 2 : Nat) : Int) = Q) := hQ
  clear hQ hge
  have e3 := HE3.out
  cases ge
  · simp only [Bool.false_eq_true, if_false] at hs ⊢
    subst hs
    simp only [Int.pow_zero, Int.ediv_one] at e2
    have hm2 : (m : Int) ≤ 4294967295 := by omega
    go_wp2_with fail
    refine (hR _).mono ?_
    rintro e9 w9 ⟨rfl, hw9⟩
    obtain rfl := hw9.symm
    clear hw9
    simp only [Int.natCast_zero, Int.sub_zero] at hK
    go_wp2_with fail
    refine (hK _).mono ?_
    rintro e9 w9 ⟨rfl, hw9⟩
    obtain rfl := hw9.symm
    clear hw9
    go_wp2
    go_ret2
    exact ⟨rfl, below_drewN (by go_grown) _⟩
  · simp only [if_true] at hs ⊢
    subst hs
    simp only [Int.pow_succ, Int.pow_zero, Int.one_mul] at e2
    have hm2 : (m : Int) ≤ 4294967295 := by omega
    go_wp2_with fail
    refine (hR _).mono ?_
    rintro e9 w9 ⟨rfl, hw9⟩
    obtain rfl := hw9.symm
    clear hw9
    simp only [Int.natCast_one] at hK
    go_wp2_with fail
    refine (hK _).mono ?_
    rintro e9 w9 ⟨rfl, hw9⟩
    obtain rfl := hw9.symm
    clear hw9
    go_wp2
    go_ret2
    exact ⟨rfl, below_drewN (by go_grown) _⟩


set_option maxRecDepth 1000000 in
set_option maxHeartbeats 1000000 in
/-- far below the least -/
theorem parse32_nought (d b : Nat) (hi lo S p lp E A : Int) (w : World) (hb : 1 ≤ b ∧ b ≤ 64) (hlp : -240 ≤ lp ∧ lp ≤ 200) (hS : 64 ≤ S)
    (hL : ∀ w, Calls Tryz.prog 129 #[.int .u64 (d : Int)] w fun e w' => e = .returned (.int .i64 (b : Int)) ∧ w' = w)
    (hG : ∀ w, Calls Tryz.prog 172 #[.int .i64 p] w fun e w' => e = .returned (.int .i64 lp) ∧ w' = w)
    (hP : ∀ x0 x1 x2 : Int, Calls Tryz.prog 171 #[.pointer (some ⟨w.heap.size, 0, none⟩), .int .i64 A, .int .i64 p, .int .i64 lp] (w.alloc (.cells #[.int .u64 x0, .int .u64 x1, .int .i64 x2] 208)) fun e' w' => e' = .returned (.tuple #[]) ∧ w' = w.alloc (.cells #[.int .u64 hi, .int .u64 lo, .int .i64 S] 208))
    (hE : min (149 : Int) (24 - (b : Int) - lp) = E) (hA : E - (64 - (b : Int)) = A) (hEb : -200 ≤ E ∧ E ≤ 200) :
    Calls Tryz.prog 158 #[.int .u64 (d : Int), .int .i64 p, .int .u32 0] w fun e w' => e = .returned (.tuple #[.float .f32 0, .nilIface]) ∧ Below w.heap.size w w' := by
  obtain ⟨hb1, hb2⟩ := hb
  obtain ⟨hE1, hE2⟩ := hEb
  obtain ⟨hlp1, hlp2⟩ := hlp
  have hF := run_sfrom 0
  have e0 : ((0 : Nat) : Int) = 0 := rfl
  simp only [e0] at hF
  have eo : bits .or .u32 0 0 = 0 := by decide
  go_enter Tryz.func158, Tryz.ntmps158
  go_wp2_with fail
  refine (hL _).mono ?_
  rintro e9 w9 ⟨rfl, hw9⟩
  obtain rfl := hw9.symm
  clear hw9
  go_wp2_with fail
  refine (hG _).mono ?_
  rintro e9 w9 ⟨rfl, hw9⟩
  obtain rfl := hw9.symm
  clear hw9
  go_wp2_with fail
  refine (hP _ _ _).mono ?_
  rintro e9 w9 ⟨rfl, hw9⟩
  subst hw9
  go_wp2
  go_ret2
  exact ⟨rfl, by go_grown⟩
end Go.Proofs.YtnljpbpphdhnpaaGreatDoor
