/- The library's shortFloat: what it calls, for every float32. -/
import Derived.Test.YtnljpbpphdhnpaaGreatDoorShF
import Derived.Test.YtnljpbpphdhnpaaGreatDoorWhM
import Derived.Test.YtnljpbpphdhnpaaGreatDoorPfD
import Derived.Test.YtnljpbpphdhnpaaGreatDoorUzS
import Derived.Test.YtnljpbpphdhnpaaGreatDoorPgI

namespace Go.Proofs.YtnljpbpphdhnpaaGreatDoor
open Go.RowKit Go.PlainAid

set_option maxRecDepth 1000000 in
theorem log10_any (x : Int) (h : -400 ≤ x ∧ x ≤ 400) (w : World) : Calls Tryz.prog 128 #[.int .i64 x] w fun e w' => e = .returned (.int .i64 (x * 78913 / 262144)) ∧ w' = w := by
  obtain ⟨h1, h2⟩ := h
  go_enter Tryz.func128, Tryz.ntmps128
  go_wp2
  go_ret
  exact ⟨by simp, rfl⟩
set_option maxRecDepth 1000000 in
theorem skew_any (x : Int) (h : -400 ≤ x ∧ x ≤ 400) (w : World) : Calls Tryz.prog 170 #[.int .i64 x] w fun e w' => e = .returned (.int .i64 ((x * 631305 - 261663) / 2097152)) ∧ w' = w := by
  obtain ⟨h1, h2⟩ := h
  go_enter Tryz.func170, Tryz.ntmps170
  go_wp2
  go_ret
  exact ⟨by simp, rfl⟩
set_option maxRecDepth 1000000 in
theorem log2_neg (x : Int) (h : -400 ≤ x ∧ x ≤ 400) (w : World) : Calls Tryz.prog 172 #[.int .i64 x] w fun e w' => e = .returned (.int .i64 (x * 108853 / 32768)) ∧ w' = w := by
  obtain ⟨h1, h2⟩ := h
  go_enter Tryz.func172, Tryz.ntmps172
  go_wp2
  go_ret
  exact ⟨by simp, rfl⟩
set_option maxRecDepth 1000000 in
theorem nudge_0 (u : Int) (h : 1 ≤ u ∧ u ≤ 4611686018427387904) (w : World) : Calls Tryz.prog 174 #[.int .u64 u, .int .i64 0] w fun e w' => e = .returned (.int .u64 u) ∧ w' = w := by
  obtain ⟨h1, h2⟩ := h
  go_enter Tryz.func174, Tryz.ntmps174
  go_wp2
  go_ret
  exact ⟨rfl, rfl⟩
set_option maxRecDepth 1000000 in
theorem nudge_1 (u : Int) (h : 1 ≤ u ∧ u ≤ 4611686018427387904) (w : World) : Calls Tryz.prog 174 #[.int .u64 u, .int .i64 1] w fun e w' => e = .returned (.int .u64 (u + 1)) ∧ w' = w := by
  obtain ⟨h1, h2⟩ := h
  go_enter Tryz.func174, Tryz.ntmps174
  go_wp2
  go_ret
  exact ⟨rfl, rfl⟩
set_option maxRecDepth 1000000 in
theorem nudge_m (u : Int) (h : 1 ≤ u ∧ u ≤ 4611686018427387904) (w : World) : Calls Tryz.prog 174 #[.int .u64 u, .int .i64 (-1)] w fun e w' => e = .returned (.int .u64 (u - 1)) ∧ w' = w := by
  obtain ⟨h1, h2⟩ := h
  have e0 : IntKind.u64.wrap (u + IntKind.u64.wrap (-1)) = u - 1 := by
    have e1 : IntKind.u64.wrap (-1) = 18446744073709551615 := by decide
    rw [e1]
    simp [IntKind.wrap, IntKind.bits, IntKind.signed]
    omega
  go_enter Tryz.func174, Tryz.ntmps174
  go_wp2
  go_ret
  exact ⟨rfl, rfl⟩
set_option maxRecDepth 1000000 in
theorem ceil_any (u : Int) (h : 0 ≤ u ∧ u ≤ 4611686018427387905) (w : World) : Calls Tryz.prog 175 #[.int .u64 u] w fun e w' => e = .returned (.int .u64 ((u + 3) / 4)) ∧ w' = w := by
  obtain ⟨h1, h2⟩ := h
  go_enter Tryz.func175, Tryz.ntmps175
  go_wp2
  go_ret
  exact ⟨by simp, rfl⟩
set_option maxRecDepth 1000000 in
theorem floor_any (u : Int) (h : 0 ≤ u ∧ u ≤ 4611686018427387905) (w : World) : Calls Tryz.prog 176 #[.int .u64 u] w fun e w' => e = .returned (.int .u64 (u / 4)) ∧ w' = w := by
  obtain ⟨h1, h2⟩ := h
  go_enter Tryz.func176, Tryz.ntmps176
  go_wp2
  go_ret
  exact ⟨by simp, rfl⟩

theorem and_63 : ∀ s, s < 64 → bits .and .i64 ((s : Nat) : Int) 63 = ((s : Nat) : Int) := by decide
theorem u64_small (v : Int) (h0 : 0 ≤ v) (h1 : v < 18446744073709551616) : IntKind.u64.wrap v = v := by
  simp [IntKind.wrap, IntKind.bits, IntKind.signed]
  omega
abbrev preO (hi lo s : Nat) : Obj := .cells #[.int .u64 (hi : Int), .int .u64 (lo : Int), .int .i64 (s : Int)] 208
set_option maxHeartbeats 1000000 in
/-- the library's scaling, for every row of the table -/
theorem usc_nat (x hi lo s : Nat) (hx : x + 4 ≤ 18446744073709551616) (hh : hi < 18446744073709551616) (hl : lo < 18446744073709551616) (hs : s < 64) (hle : x * lo ≤ x * hi * 18446744073709551616) (w : World) (n : Nat) :
    Calls Tryz.prog 173 #[.int .u64 (x : Int), .pointer (some ⟨w.heap.size, 0, none⟩)] ((w.alloc (preO hi lo s)).drewN n) fun e w' => e = .returned (.int .u64 ((uscN x hi lo s : Nat) : Int)) ∧ ∃ m, w' = (w.alloc (preO hi lo s)).drewN m := by
  have c1 : (x : Int) * (hi : Int) = ((x * hi : Nat) : Int) := (Int.natCast_mul x hi).symm
  have c2 : (x : Int) * (lo : Int) = ((x * lo : Nat) : Int) := (Int.natCast_mul x lo).symm
  have hA : x * hi / 18446744073709551616 < 18446744073709551616 := by
    rw [Nat.div_lt_iff_lt_mul (by decide)]
    exact Nat.mul_lt_mul_of_lt_of_lt (by omega) hh
  have hC : x * lo / 18446744073709551616 + 5 ≤ 18446744073709551616 := by
    have h3 : x * lo < (18446744073709551616 - 4) * 18446744073709551616 := by
      have : x * lo ≤ (18446744073709551616 - 4) * lo := Nat.mul_le_mul_right _ (by omega)
      omega
    have := (Nat.div_lt_iff_lt_mul (by decide)).2 h3
    omega
  have hB := Nat.mod_lt (x * hi) (show 0 < 18446744073709551616 by decide)
  have hle2 : x * hi / 18446744073709551616 = 0 → ¬ x * hi % 18446744073709551616 < x * lo / 18446744073709551616 := by
    generalize x * hi = z1 at *
    generalize x * lo = z2 at *
    omega
  have ha : (x : Int) * (hi : Int) / 18446744073709551616 = ((x * hi / 18446744073709551616 : Nat) : Int) := by rw [c1]; rfl
  have hb : (x : Int) * (hi : Int) % 18446744073709551616 = ((x * hi % 18446744073709551616 : Nat) : Int) := by rw [c1]; rfl
  have hc : (x : Int) * (lo : Int) / 18446744073709551616 = ((x * lo / 18446744073709551616 : Nat) : Int) := by rw [c2]; rfl
  have hd : (x : Int) * (lo : Int) % 18446744073709551616 = ((x * lo % 18446744073709551616 : Nat) : Int) := by rw [c2]; rfl
  unfold uscN
  generalize x * hi / 18446744073709551616 = A at *
  generalize x * hi % 18446744073709551616 = b at *
  generalize x * lo / 18446744073709551616 = c at *
  generalize x * lo % 18446744073709551616 = d at *
  have hP : 0 < 2 ^ s := Nat.two_pow_pos s
  have hk := Nat.div_add_mod A (2 ^ s)
  have hq : ((A : Int) / 2 ^ ((s : Nat) : Int).toNat) = ((A / 2 ^ s : Nat) : Int) := by
    rw [Int.toNat_natCast]
    norm_cast
  have hq1 : 1 ≤ A → (((A : Int) - 1) / 2 ^ ((s : Nat) : Int).toNat) = (((A - 1) / 2 ^ s : Nat) : Int) := fun h => by
    rw [Int.toNat_natCast, show (A : Int) - 1 = ((A - 1 : Nat) : Int) by omega]
    norm_cast
  have hqq : ((A : Int) / 2 ^ ((s : Nat) : Int).toNat) * 2 ^ ((s : Nat) : Int).toNat = ((A / 2 ^ s * 2 ^ s : Nat) : Int) := by
    rw [hq, Int.toNat_natCast]
    norm_cast
  have hle3 : A / 2 ^ s * 2 ^ s ≤ A := Nat.div_mul_le_self _ _
  have hmm : A % 2 ^ s = A - A / 2 ^ s * 2 ^ s := by rw [Nat.mul_comm (A / 2 ^ s)]; omega
  have hkl : A / 2 ^ s ≤ A := Nat.div_le_self _ _
  have hkl1 : (A - 1) / 2 ^ s ≤ A - 1 := Nat.div_le_self _ _
  have hw : IntKind.u64.wrap ((A : Int) / 2 ^ ((s : Nat) : Int).toNat * 2 ^ ((s : Nat) : Int).toNat) = ((A / 2 ^ s * 2 ^ s : Nat) : Int) := by
    rw [hqq]
    exact u64_small _ (by omega) (by omega)
  by_cases hr : A % 2 ^ s ≠ 0
  · rw [if_pos hr]
    have h := uscale_cut (x : Int) (hi : Int) (lo : Int) (s : Int) A b (w.drewN n) (and_63 s hs) (by omega) (by omega) ⟨by omega, by omega⟩ ⟨by omega, by omega⟩ ha hb (by
      rw [hw]
      exact bne_iff_ne.2 (fun h => hr (by have := Int.ofNat_inj.1 h; omega)))
    rw [hq, or_one _ (by omega), alloc_drewN] at h
    refine h.mono ?_
    rintro e w' ⟨rfl, m, rfl⟩
    exact ⟨rfl, n + m, by simp [World.drewN]; omega⟩
  · rw [if_neg hr]
    have h := uscale_all (x : Int) (hi : Int) (lo : Int) (s : Int) A b c d (if decide ((b : Int) < c) then 1 else 0) (if decide (1 < IntKind.u64.wrap ((b : Int) - c)) then 1 else 0) (w.drewN n) (and_63 s hs) (by omega) (by omega) ⟨by omega, by omega⟩ ⟨by omega, by omega⟩ ⟨by omega, by omega⟩ ha hb hc hd (by
      rw [hw]
      exact bne_eq_false_iff_eq.2 (congrArg Int.ofNat (show A / 2 ^ s * 2 ^ s = A by omega))) rfl rfl
    rw [alloc_drewN] at h
    refine h.mono ?_
    rintro e w' ⟨rfl, m, rfl⟩
    refine ⟨?_, n + m, by simp [World.drewN]; omega⟩
    congr 2
    by_cases hbc : b < c
    · rw [if_pos hbc, if_pos (by simp; omega)]
      have hA1 : 1 ≤ A := by
        rcases Nat.eq_zero_or_pos A with h | h
        · exact absurd hbc (hle2 h)
        · exact h
      have e1 : IntKind.u64.wrap ((b : Int) - c) = (b : Int) - c + 18446744073709551616 := by
        simp [IntKind.wrap, IntKind.bits, IntKind.signed]
        omega
      rw [e1, if_pos (by simp; omega), u64_small _ (by omega) (by omega), hq1 hA1, or_one _ (by omega)]
    · rw [if_neg hbc, if_neg (by simp; omega), u64_small ((b : Int) - c) (by omega) (by omega), u64_small _ (by omega) (by omega), Int.sub_zero, hq]
      by_cases hb2 : c + 1 < b
      · rw [if_pos hb2, if_pos (by simp; omega), or_one _ (by omega)]
      · rw [if_neg hb2, if_neg (by simp; omega), or_zero _ (by omega)]
end Go.Proofs.YtnljpbpphdhnpaaGreatDoor

/- The library's parseFloat32 at any power of ten: its parts and its walk. -/
namespace Go.Proofs.YtnljpbpphdhnpaaGreatDoor
open Go.RowKit Go.PlainAid

set_option maxHeartbeats 1000000 in
/-- the library's scaling, for every row of the table -/
theorem usc_natZ (x hi lo s : Nat) (hx : x < 18446744073709551616) (hh : hi < 18446744073709551616) (hl : lo < 18446744073709551616) (hs : s < 64) (hle : x * lo ≤ x * hi * 18446744073709551616) (w : World) (n : Nat) :
    Calls Tryz.prog 173 #[.int .u64 (x : Int), .pointer (some ⟨w.heap.size, 0, none⟩)] ((w.alloc (preO hi lo s)).drewN n) fun e w' => e = .returned (.int .u64 ((uscN x hi lo s : Nat) : Int)) ∧ ∃ m, w' = (w.alloc (preO hi lo s)).drewN m := by
  have c1 : (x : Int) * (hi : Int) = ((x * hi : Nat) : Int) := (Int.natCast_mul x hi).symm
  have c2 : (x : Int) * (lo : Int) = ((x * lo : Nat) : Int) := (Int.natCast_mul x lo).symm
  have hA : x * hi / 18446744073709551616 < 18446744073709551616 := by
    rw [Nat.div_lt_iff_lt_mul (by decide)]
    exact Nat.mul_lt_mul_of_lt_of_lt (by omega) hh
  have hC : x * lo / 18446744073709551616 + 2 ≤ 18446744073709551616 := by
    have h3 : x * lo < (18446744073709551616 - 1) * 18446744073709551616 := by
      have : x * lo ≤ (18446744073709551616 - 1) * lo := Nat.mul_le_mul_right _ (by omega)
      omega
    have := (Nat.div_lt_iff_lt_mul (by decide)).2 h3
    omega
  have hB := Nat.mod_lt (x * hi) (show 0 < 18446744073709551616 by decide)
  have hle2 : x * hi / 18446744073709551616 = 0 → ¬ x * hi % 18446744073709551616 < x * lo / 18446744073709551616 := by
    generalize x * hi = z1 at *
    generalize x * lo = z2 at *
    omega
  have ha : (x : Int) * (hi : Int) / 18446744073709551616 = ((x * hi / 18446744073709551616 : Nat) : Int) := by rw [c1]; rfl
  have hb : (x : Int) * (hi : Int) % 18446744073709551616 = ((x * hi % 18446744073709551616 : Nat) : Int) := by rw [c1]; rfl
  have hc : (x : Int) * (lo : Int) / 18446744073709551616 = ((x * lo / 18446744073709551616 : Nat) : Int) := by rw [c2]; rfl
  have hd : (x : Int) * (lo : Int) % 18446744073709551616 = ((x * lo % 18446744073709551616 : Nat) : Int) := by rw [c2]; rfl
  unfold uscN
  generalize x * hi / 18446744073709551616 = A at *
  generalize x * hi % 18446744073709551616 = b at *
  generalize x * lo / 18446744073709551616 = c at *
  generalize x * lo % 18446744073709551616 = d at *
  have hP : 0 < 2 ^ s := Nat.two_pow_pos s
  have hk := Nat.div_add_mod A (2 ^ s)
  have hq : ((A : Int) / 2 ^ ((s : Nat) : Int).toNat) = ((A / 2 ^ s : Nat) : Int) := by
    rw [Int.toNat_natCast]
    norm_cast
  have hq1 : 1 ≤ A → (((A : Int) - 1) / 2 ^ ((s : Nat) : Int).toNat) = (((A - 1) / 2 ^ s : Nat) : Int) := fun h => by
    rw [Int.toNat_natCast, show (A : Int) - 1 = ((A - 1 : Nat) : Int) by omega]
    norm_cast
  have hqq : ((A : Int) / 2 ^ ((s : Nat) : Int).toNat) * 2 ^ ((s : Nat) : Int).toNat = ((A / 2 ^ s * 2 ^ s : Nat) : Int) := by
    rw [hq, Int.toNat_natCast]
    norm_cast
  have hle3 : A / 2 ^ s * 2 ^ s ≤ A := Nat.div_mul_le_self _ _
  have hmm : A % 2 ^ s = A - A / 2 ^ s * 2 ^ s := by rw [Nat.mul_comm (A / 2 ^ s)]; omega
  have hkl : A / 2 ^ s ≤ A := Nat.div_le_self _ _
  have hkl1 : (A - 1) / 2 ^ s ≤ A - 1 := Nat.div_le_self _ _
  have hw : IntKind.u64.wrap ((A : Int) / 2 ^ ((s : Nat) : Int).toNat * 2 ^ ((s : Nat) : Int).toNat) = ((A / 2 ^ s * 2 ^ s : Nat) : Int) := by
    rw [hqq]
    exact u64_small _ (by omega) (by omega)
  by_cases hr : A % 2 ^ s ≠ 0
  · rw [if_pos hr]
    have h := uscale_cut (x : Int) (hi : Int) (lo : Int) (s : Int) A b (w.drewN n) (and_63 s hs) (by omega) (by omega) ⟨by omega, by omega⟩ ⟨by omega, by omega⟩ ha hb (by
      rw [hw]
      exact bne_iff_ne.2 (fun h => hr (by have := Int.ofNat_inj.1 h; omega)))
    rw [hq, or_one _ (by omega), alloc_drewN] at h
    refine h.mono ?_
    rintro e w' ⟨rfl, m, rfl⟩
    exact ⟨rfl, n + m, by simp [World.drewN]; omega⟩
  · rw [if_neg hr]
    have h := uscale_all (x : Int) (hi : Int) (lo : Int) (s : Int) A b c d (if decide ((b : Int) < c) then 1 else 0) (if decide (1 < IntKind.u64.wrap ((b : Int) - c)) then 1 else 0) (w.drewN n) (and_63 s hs) (by omega) (by omega) ⟨by omega, by omega⟩ ⟨by omega, by omega⟩ ⟨by omega, by omega⟩ ha hb hc hd (by
      rw [hw]
      exact bne_eq_false_iff_eq.2 (congrArg Int.ofNat (show A / 2 ^ s * 2 ^ s = A by omega))) rfl rfl
    rw [alloc_drewN] at h
    refine h.mono ?_
    rintro e w' ⟨rfl, m, rfl⟩
    refine ⟨?_, n + m, by simp [World.drewN]; omega⟩
    congr 2
    by_cases hbc : b < c
    · rw [if_pos hbc, if_pos (by simp; omega)]
      have hA1 : 1 ≤ A := by
        rcases Nat.eq_zero_or_pos A with h | h
        · exact absurd hbc (hle2 h)
        · exact h
      have e1 : IntKind.u64.wrap ((b : Int) - c) = (b : Int) - c + 18446744073709551616 := by
        simp [IntKind.wrap, IntKind.bits, IntKind.signed]
        omega
      rw [e1, if_pos (by simp; omega), u64_small _ (by omega) (by omega), hq1 hA1, or_one _ (by omega)]
    · rw [if_neg hbc, if_neg (by simp; omega), u64_small ((b : Int) - c) (by omega) (by omega), u64_small _ (by omega) (by omega), Int.sub_zero, hq]
      by_cases hb2 : c + 1 < b
      · rw [if_pos hb2, if_pos (by simp; omega), or_one _ (by omega)]
      · rw [if_neg hb2, if_neg (by simp; omega), or_zero _ (by omega)]

set_option maxRecDepth 1000000 in
theorem log2_z (p L : Int) (h1 : -348 ≤ p) (h2 : p ≤ 347) (hL : lpZ p = L) (w : World) : Calls Tryz.prog 172 #[.int .i64 p] w fun e w' => e = .returned (.int .i64 L) ∧ w' = w := by
  have e : (p * 108853) / 2 ^ 15 = L := by rw [← hL]; rfl
  clear hL
  go_enter Tryz.func172, Tryz.ntmps172
  go_wp2
  go_ret
  exact ⟨by simp [← e], rfl⟩

theorem and23_low (m : Nat) (h : m < 8388608) : bits .and .u32 (m : Int) 8388608 = 0 := by
  have h1 := u32_and_nat m 8388608 (by omega) (by decide)
  have h3 : m &&& 8388608 = 0 := by
    have h4 : m &&& 2 ^ 23 = 0 := by
      apply Nat.eq_of_testBit_eq
      intro i
      rw [Nat.testBit_and, Nat.testBit_two_pow]
      by_cases hi : 23 = i
      · subst hi
        rw [Nat.testBit_lt_two_pow (by omega)]
        simp
      · simp [hi]
    simpa using h4
  rw [h3] at h1
  exact h1
set_option maxRecDepth 1000000 in
set_option maxHeartbeats 400000 in
theorem pack_small (m : Nat) (E : Int) (h : m < 8388608) (w : World) :
    Calls Tryz.prog 190 #[.int .u32 (m : Int), .int .i64 E] w fun e w' => e = .returned (.tuple #[.float .f32 m, .nilIface]) ∧ w' = w := by
  have e1 := and23_low m h
  have hF := run_sfrom m
  go_enter Tryz.func190, Tryz.ntmps190
  go_wp2
  go_ret2
  exact ⟨rfl, rfl⟩
def errRange : Value := .iface 124 (.int .i64 1)
set_option maxRecDepth 1000000 in
set_option maxHeartbeats 400000 in
theorem pack_over_raw (m E : Int) (e1 : bits .and .u32 m 8388608 = 8388608) (e2 : bits .and .u32 m 2147483648 = 0) (e3 : bits .or .u32 0 2139095040 = 2139095040) (hE : 105 ≤ E) (w : World) :
    Calls Tryz.prog 190 #[.int .u32 m, .int .i64 E] w fun e w' => e = .returned (.tuple #[.float .f32 2139095040, errRange]) ∧ w' = w := by
  have hF := run_sfrom 2139095040
  have e0 : ((2139095040 : Nat) : Int) = 2139095040 := rfl
  simp only [e0] at hF
  go_enter Tryz.func190, Tryz.ntmps190
  go_wp2
  go_ret2
  exact ⟨rfl, rfl⟩
set_option maxRecDepth 1000000 in
set_option maxHeartbeats 1000000 in
/-- the walk, by its two ways -/
theorem parse32_z (d b x u m R : Nat) (er : Value) (hi lo S p lp E A : Int) (y : Nat) (s : Nat) (ge : Bool) (w : World) (hb : 1 ≤ b ∧ b ≤ 64) (hlp : -240 ≤ lp ∧ lp ≤ 200) (hS : S < 64) 
    (hL : ∀ w, Calls Tryz.prog 129 #[.int .u64 (d : Int)] w fun e w' => e = .returned (.int .i64 (b : Int)) ∧ w' = w)
    (hG : ∀ w, Calls Tryz.prog 172 #[.int .i64 p] w fun e w' => e = .returned (.int .i64 lp) ∧ w' = w)
    (hP : ∀ x0 x1 x2 : Int, Calls Tryz.prog 171 #[.pointer (some ⟨w.heap.size, 0, none⟩), .int .i64 A, .int .i64 p, .int .i64 lp] (w.alloc (.cells #[.int .u64 x0, .int .u64 x1, .int .i64 x2] 208)) fun e' w' => e' = .returned (.tuple #[]) ∧ w' = w.alloc (.cells #[.int .u64 hi, .int .u64 lo, .int .i64 S] 208))
    (hU : Calls Tryz.prog 173 #[.int .u64 (x : Int), .pointer (some ⟨w.heap.size, 0, none⟩)] (w.alloc (.cells #[.int .u64 hi, .int .u64 lo, .int .i64 S] 208)) fun e w' => e = .returned (.int .u64 (u : Int)) ∧ ∃ n, w' = (w.alloc (.cells #[.int .u64 hi, .int .u64 lo, .int .i64 S] 208)).drewN n)
    (hE : min (149 : Int) (24 - (b : Int) - lp) = E) (hA : E - (64 - (b : Int)) = A) (hEb : -200 ≤ E ∧ E ≤ 200)
    (hx : IntKind.u64.wrap ((d : Int) * 2 ^ (64 - b)) = (x : Int))
    (hge : decide ((67108862 : Int) ≤ (u : Int)) = ge) (hs : s = if ge then 1 else 0) (e1 : bits .and .u64 (u : Int) 1 = ((u % 2 : Nat) : Int)) (e2 : bits .or .u64 ((u : Int) / 2 ^ s) ((u % 2 : Nat) : Int) = (y : Int))
    (hR : ∀ w, Calls Tryz.prog 177 #[.int .u64 (y : Int)] w fun e w' => e = .returned (.int .u64 (m : Int)) ∧ w' = w) (hm : m < 16777216) (e3 : bits .or .u32 0 (m : Int) = (m : Int))
    (hK : ∀ w, Calls Tryz.prog 190 #[.int .u32 (m : Int), .int .i64 (-(E - (s : Int)))] w fun e w' => e = .returned (.tuple #[.float .f32 R, er]) ∧ w' = w) :
    Calls Tryz.prog 158 #[.int .u64 (d : Int), .int .i64 p, .int .u32 0] w fun e w' => e = .returned (.tuple #[.float .f32 R, er]) ∧ Below w.heap.size w w' := by
  obtain ⟨hb1, hb2⟩ := hb
  have hB := fun w => bool2i_any ge w
  obtain ⟨hE1, hE2⟩ := hEb
  obtain ⟨hlp1, hlp2⟩ := hlp
  have z3 : ((64 : Int) - (b : Int)).toNat = 64 - b := by omega
  have HZ : Hid (IntKind.u64.wrap ((d : Int) * 2 ^ (64 - b)) = (x : Int)) := hx
  have HB : Hid (∀ w, Calls Tryz.prog 130 #[.bool ge] w fun e w' => e = .returned (.int .i64 (if ge then 1 else 0)) ∧ w' = w) := hB
  have HS : Hid (decide ((67108862 : Int) ≤ (u : Int)) = ge ∧ bits .or .u64 ((u : Int) / 2 ^ s) ((u % 2 : Nat) : Int) = (y : Int) ∧ bits .and .u64 (u : Int) 1 = ((u % 2 : Nat) : Int)) := ⟨hge, e2, e1⟩
  have HH : Hid (s = if ge then 1 else 0) := hs
  have HE3 : Hid (bits .or .u32 0 (m : Int) = (m : Int)) := e3
  clear hx hB hge e2 hs e3 e1
  go_enter Tryz.func158, Tryz.ntmps158
  go_wp2_with fail
  refine (hL _).mono ?_
  rintro e9 w9 ⟨rfl, hw9⟩
  obtain rfl := hw9.symm
  clear hw9
  go_wp2_with fail
  refine (hG _).mono ?_
  rintro e9 w9 ⟨rfl, hw9⟩
  obtain rfl := hw9.symm
  clear hw9
  go_wp2_with fail
  refine (hP _ _ _).mono ?_
  rintro e9 w9 ⟨rfl, hw9⟩
  subst hw9
  have hx := HZ.out
  go_wp2_with fail
  refine hU.mono ?_
  rintro e9 w9 ⟨rfl, n9, rfl⟩
  clear hx
  go_wp2_with fail
  refine (unmin_p _).mono ?_
  rintro e9 w9 ⟨rfl, hw9⟩
  obtain rfl := hw9.symm
  clear hw9 hL hG hP hU
  have hge := HS.out.1
  go_wp2_with fail
  refine (HB.out _).mono ?_
  rintro e9 w9 ⟨rfl, hw9⟩
  obtain rfl := hw9.symm
  clear hw9 hge
  obtain ⟨hge, e2, e1⟩ := HS.out
  have hs := HH.out
  clear HS HH HB
  generalize hQ : ((u % 2 : Nat) : Int) = Q at *
  have HQ : Hid (((u % 2 : Nat) : Int) = Q) := hQ
  clear hQ hge
  have e3 := HE3.out
  cases ge
  · simp only [Bool.false_eq_true, if_false] at hs ⊢
    subst hs
    simp only [Int.pow_zero, Int.ediv_one] at e2
    have hm2 : (m : Int) ≤ 4294967295 := by omega
    go_wp2_with fail
    refine (hR _).mono ?_
    rintro e9 w9 ⟨rfl, hw9⟩
    obtain rfl := hw9.symm
    clear hw9
    simp only [Int.natCast_zero, Int.sub_zero] at hK
    go_wp2_with fail
    refine (hK _).mono ?_
    rintro e9 w9 ⟨rfl, hw9⟩
    obtain rfl := hw9.symm
    clear hw9
    go_wp2
    go_ret2
    exact ⟨rfl, below_drewN (by go_grown) _⟩
  · simp only [if_true] at hs ⊢
    subst hs
    simp only [Int.pow_succ, Int.pow_zero, Int.one_mul] at e2
    have hm2 : (m : Int) ≤ 4294967295 := by omega
    go_wp2_with fail
    refine (hR _).mono ?_
    rintro e9 w9 ⟨rfl, hw9⟩
    obtain rfl := hw9.symm
    clear hw9
    simp only [Int.natCast_one] at hK
    go_wp2_with fail
    refine (hK _).mono ?_
    rintro e9 w9 ⟨rfl, hw9⟩
    obtain rfl := hw9.symm
    clear hw9
    go_wp2
    go_ret2
    exact ⟨rfl, below_drewN (by go_grown) _⟩


set_option maxRecDepth 1000000 in
set_option maxHeartbeats 1000000 in
/-- far below the least -/
theorem parse32_nought (d b : Nat) (hi lo S p lp E A : Int) (w : World) (hb : 1 ≤ b ∧ b ≤ 64) (hlp : -240 ≤ lp ∧ lp ≤ 200) (hS : 64 ≤ S)
    (hL : ∀ w, Calls Tryz.prog 129 #[.int .u64 (d : Int)] w fun e w' => e = .returned (.int .i64 (b : Int)) ∧ w' = w)
    (hG : ∀ w, Calls Tryz.prog 172 #[.int .i64 p] w fun e w' => e = .returned (.int .i64 lp) ∧ w' = w)
    (hP : ∀ x0 x1 x2 : Int, Calls Tryz.prog 171 #[.pointer (some ⟨w.heap.size, 0, none⟩), .int .i64 A, .int .i64 p, .int .i64 lp] (w.alloc (.cells #[.int .u64 x0, .int .u64 x1, .int .i64 x2] 208)) fun e' w' => e' = .returned (.tuple #[]) ∧ w' = w.alloc (.cells #[.int .u64 hi, .int .u64 lo, .int .i64 S] 208))
    (hE : min (149 : Int) (24 - (b : Int) - lp) = E) (hA : E - (64 - (b : Int)) = A) (hEb : -200 ≤ E ∧ E ≤ 200) :
    Calls Tryz.prog 158 #[.int .u64 (d : Int), .int .i64 p, .int .u32 0] w fun e w' => e = .returned (.tuple #[.float .f32 0, .nilIface]) ∧ Below w.heap.size w w' := by
  obtain ⟨hb1, hb2⟩ := hb
  obtain ⟨hE1, hE2⟩ := hEb
  obtain ⟨hlp1, hlp2⟩ := hlp
  have hF := run_sfrom 0
  have e0 : ((0 : Nat) : Int) = 0 := rfl
  simp only [e0] at hF
  have eo : bits .or .u32 0 0 = 0 := by decide
  go_enter Tryz.func158, Tryz.ntmps158
  go_wp2_with fail
  refine (hL _).mono ?_
  rintro e9 w9 ⟨rfl, hw9⟩
  obtain rfl := hw9.symm
  clear hw9
  go_wp2_with fail
  refine (hG _).mono ?_
  rintro e9 w9 ⟨rfl, hw9⟩
  obtain rfl := hw9.symm
  clear hw9
  go_wp2_with fail
  refine (hP _ _ _).mono ?_
  rintro e9 w9 ⟨rfl, hw9⟩
  subst hw9
  go_wp2
  go_ret2
  exact ⟨rfl, by go_grown⟩
end Go.Proofs.YtnljpbpphdhnpaaGreatDoor

/- The library's parseFloat32: of every number of 64 bits by ten to -70 .. 40 it is the document's Nearest. -/
namespace Go.Proofs.YtnljpbpphdhnpaaGreatDoor
open Go.RowKit Go.PlainAid

def pwZ (p : Int) : Prop := 2 ^ (lpZ p + 400).toNat * 10 ^ (-p).toNat ≤ 10 ^ p.toNat * 2 ^ 400 ∧ 200 * 10 ^ p.toNat * 2 ^ 400 < 199 * 2 ^ (lpZ p + 401).toNat * 10 ^ (-p).toNat ∧ -233 ≤ lpZ p ∧ lpZ p ≤ 132
instance (p : Int) : Decidable (pwZ p) := by unfold pwZ; infer_instance
theorem pws : ∀ j : Nat, j < 111 → pwZ ((j : Int) - 70) := by decide +kernel
/-- how great the number is -/
theorem z_bounds (d : Nat) (p : Int) (l : Nat) (h0 : 0 < d) (h1 : -70 ≤ p) (h2 : p ≤ 40) (hl : (l : Int) = lpZ p + 400) :
    10 ^ (-p).toNat * 2 ^ (d.log2 + l) ≤ d * 10 ^ p.toNat * 2 ^ 400 ∧ 200 * (d * 10 ^ p.toNat) * 2 ^ 400 < 199 * (10 ^ (-p).toNat * 2 ^ (d.log2 + l + 2)) := by
  obtain ⟨a1, a2, a3, a4⟩ : pwZ p := by
    have := pws (p + 70).toNat (by omega)
    rwa [show (((p + 70).toNat : Nat) : Int) - 70 = p by omega] at this
  have d1 : 2 ^ d.log2 ≤ d := Nat.log2_self_le (by omega)
  have d2 : d < 2 ^ (d.log2 + 1) := Nat.lt_log2_self
  rw [show (lpZ p + 400).toNat = l by omega] at a1
  rw [show (lpZ p + 401).toNat = l + 1 by omega] at a2
  have e1 : 2 ^ (d.log2 + l) = 2 ^ d.log2 * 2 ^ l := Nat.pow_add _ _ _
  have e2 : 2 ^ (d.log2 + l + 2) = 2 ^ (d.log2 + 1) * 2 ^ (l + 1) := by rw [← Nat.pow_add]; congr 1; omega
  rw [e1, e2]
  generalize 2 ^ d.log2 = x at *
  generalize 2 ^ (d.log2 + 1) = y at *
  generalize 2 ^ l = z at *
  generalize 2 ^ (l + 1) = z2 at *
  generalize 10 ^ (-p).toNat = B at *
  generalize 10 ^ p.toNat = U at *
  generalize (2 : Nat) ^ 400 = T at *
  refine ⟨?_, ?_⟩
  · calc B * (x * z) = x * (z * B) := by ac_rfl
      _ ≤ d * (U * T) := Nat.mul_le_mul d1 a1
      _ = d * U * T := by ac_rfl
  · calc 200 * (d * U) * T = d * (200 * U * T) := by ac_rfl
      _ < y * (199 * z2 * B) := Nat.mul_lt_mul_of_lt_of_lt d2 a2
      _ = 199 * (B * (y * z2)) := by ac_rfl
theorem u_up (A B T D k : Nat) (hk : 2 ^ k ≤ 2 ^ D * 33554432 * T) (h : 200 * A * T < 199 * (B * 2 ^ k)) : 200 * A < 6677331968 * (B * 2 ^ D) := by
  have h2 : 199 * (B * 2 ^ k) ≤ 199 * (B * (2 ^ D * 33554432 * T)) := Nat.mul_le_mul_left _ (Nat.mul_le_mul_left _ hk)
  have h3 : 200 * A * T < 6677331968 * (B * 2 ^ D) * T := by
    refine Nat.lt_of_lt_of_le h (Nat.le_trans h2 (Nat.le_of_eq ?_))
    rw [show (6677331968 : Nat) = 199 * 33554432 by decide]
    ac_rfl
  exact Nat.lt_of_mul_lt_mul_right h3
/-- the table's row of ten to the power p -/
structure TabZ (w : World) (p : Int) : Prop where
  hi : w.cell? ⟨15, (348 + p).toNat * 2, none⟩ = some (.int .u64 ((hiZ p : Nat) : Int))
  lo : w.cell? ⟨15, (348 + p).toNat * 2 + 1, none⟩ = some (.int .u64 ((loZ p : Nat) : Int))
def erR (R : Nat) : Value := if R = 2139095040 then errRange else .nilIface
theorem lessU_low (u : Nat) (h : 67108862 ≤ u) : 8388608 ≤ rndU (lessU u) := by
  have : 33554431 ≤ lessU u := by unfold lessU; split <;> omega
  unfold rndU
  omega
theorem and31_low (m : Nat) (h : m < 16777216) : bits .and .u32 (m : Int) 2147483648 = 0 := by
  have h1 := u32_and_nat m 2147483648 (by omega) (by decide)
  have h3 : m &&& 2147483648 = 0 := by
    have h4 : m &&& 2 ^ 31 = 0 := by
      apply Nat.eq_of_testBit_eq
      intro i
      rw [Nat.testBit_and, Nat.testBit_two_pow]
      by_cases hi : 31 = i
      · subst hi
        rw [Nat.testBit_lt_two_pow (by omega)]
        simp
      · simp [hi]
    simpa using h4
  rw [h3] at h1
  exact h1
theorem pack_over (m : Nat) (E : Int) (h1 : 8388608 ≤ m) (h2 : m < 16777216) (hE : 105 ≤ E) (w : World) :
    Calls Tryz.prog 190 #[.int .u32 (m : Int), .int .i64 E] w fun e w' => e = .returned (.tuple #[.float .f32 2139095040, errRange]) ∧ w' = w :=
  pack_over_raw (m : Int) E (and23_bits m h1 h2) (and31_low m h2) (by decide) hE w
/-- what is packed, and whether it is too great -/
theorem pack_all (m D : Nat) (E : Int) (hE : E = (D : Int) - 149) (h1 : 8388608 ≤ m ∨ D = 0) (h2 : m < 16777216) (R : Nat) (hR : R = if 254 ≤ D then 2139095040 else D * 8388608 + m) (w : World) :
    Calls Tryz.prog 190 #[.int .u32 (m : Int), .int .i64 E] w fun e w' => e = .returned (.tuple #[.float .f32 R, erR R]) ∧ w' = w := by
  by_cases h : 254 ≤ D
  · rw [if_pos h] at hR
    subst hR
    exact pack_over m E (by omega) h2 (by omega) w
  · rw [if_neg h] at hR
    have e : erR R = .nilIface := by unfold erR; rw [if_neg (by omega)]
    rw [e]
    by_cases h3 : m < 8388608
    · obtain rfl : D = 0 := by omega
      rw [Nat.zero_mul, Nat.zero_add] at hR
      subst hR
      exact pack_small R E h3 w
    · have := pack_any m E (D + 1) (by omega) h2 (by omega) (by omega) w
      rw [show m - 8388608 + (D + 1) * 8388608 = R by omega] at this
      exact this
/-- what the numbers say of each other -/
theorem n_facts {z u n : Nat} (h4 : z / 4 = n) (h1 : z ≤ u) (h2 : u ≤ 2 * (z / 2) + 1) : (u < 67108862 → n < 16777216 ∧ rndU u < 16777216) ∧ (67108862 ≤ u → 16777215 ≤ n ∧ (n < 16777216 → u = 67108862 ∨ u = 67108863)) ∧ (n < 33386660 → u < 133546700 ∧ rndU (lessU u) < 16777216) := by
  refine ⟨fun h => ⟨by omega, by unfold rndU; omega⟩, fun h => ⟨by omega, fun _ => by omega⟩, fun h => ?_⟩
  have hu : u < 133546700 := by omega
  have hy : lessU u < 66773400 := by unfold lessU; split <;> omega
  exact ⟨hu, by unfold rndU; omega⟩
theorem n_up {n X Q : Nat} (h : n * Q ≤ X) (hu : 200 * X < 6677331968 * Q) : n < 33386660 := by
  have h2 : 200 * n * Q < 6677331968 * Q := by
    rw [Nat.mul_assoc]
    exact Nat.lt_of_le_of_lt (Nat.mul_le_mul_left 200 h) hu
  have := Nat.lt_of_mul_lt_mul_right h2
  omega
theorem d_max : 253 * 8388608 + 16777216 = 2139095040 := by decide
theorem near_u (A B D m u : Nat) (hB : 0 < B) (hl : LowB A B m) (hlow : 8388608 ≤ A * 2 ^ 149 / (B * 2 ^ D) ∨ D = 0) (hup : 200 * (A * 2 ^ 149) < 6677331968 * (B * 2 ^ D)) (hu : uN (4 * (A * 2 ^ 149)) (B * 2 ^ D) = u) :
    u < 133546700 ∧
    (u < 67108862 → nearB A B m = (if 254 ≤ D then 2139095040 else D * 8388608 + rndU u) ∧ rndU u < 16777216 ∧ (8388608 ≤ rndU u ∨ D = 0)) ∧
    (67108862 ≤ u → nearB A B m = (if 254 ≤ D + 1 then 2139095040 else (D + 1) * 8388608 + rndU (lessU u)) ∧ rndU (lessU u) < 16777216 ∧ 8388608 ≤ rndU (lessU u)) := by
  have hQ : 0 < B * 2 ^ D := Nat.mul_pos hB (Nat.two_pow_pos D)
  obtain ⟨n, hn⟩ : ∃ n, A * 2 ^ 149 / (B * 2 ^ D) = n := ⟨_, rfl⟩
  have e4 : 4 * (A * 2 ^ 149) / (B * 2 ^ D) / 4 = n := by
    rw [Nat.div_div_eq_div_mul, Nat.mul_comm _ 4, Nat.mul_div_mul_left _ _ (by decide), hn]
  have hb := uN_between (4 * (A * 2 ^ 149)) (B * 2 ^ D)
  rw [hu] at hb
  obtain ⟨f1, f2, f3⟩ := n_facts e4 hb.1 hb.2
  have hn3 : n < 33386660 := n_up (by rw [← hn]; exact Nat.div_mul_le_self _ _) hup
  obtain ⟨f4, f5⟩ := f3 hn3
  have e5 : A * 2 ^ 149 / (B * 2 ^ (D + 1)) = n / 2 := by
    rw [show B * 2 ^ (D + 1) = B * 2 ^ D * 2 by rw [Nat.pow_succ 2 D, Nat.mul_assoc], ← Nat.div_div_eq_div_mul, hn]
  have hr := rnd_uN (4 * (A * 2 ^ 149)) (B * 2 ^ D) hQ
  rw [hu, e4] at hr
  have hge : n ≤ rndU u := by rw [hr]; exact Nat.le_add_right _ _
  clear hr hb f3 e4
  rw [hn] at hlow
  refine ⟨f4, fun h => ?_, fun h => ?_⟩
  · obtain ⟨g1, g2⟩ := f1 h
    have g3 : 8388608 ≤ rndU u ∨ D = 0 := by
      rcases hlow with k | k
      · left; exact Nat.le_trans k hge
      · right; exact k
    refine ⟨?_, g2, g3⟩
    by_cases hD : 254 ≤ D
    · rw [if_pos hD]
      refine near_inf A B D m hB hl ?_ hD
      rw [hn]
      rcases hlow with k | k
      · exact k
      · subst k; exact absurd hD (by decide)
    · rw [if_neg hD, ← hu]
      refine near_cut A B D m hB hl (by rw [hn]; exact hlow) (by rw [hn]; exact g1) ?_
      rw [hn]
      clear hup hl hu e5
      omega
  · obtain ⟨g1, g2⟩ := f2 h
    refine ⟨?_, f5, lessU_low u h⟩
    by_cases hD : 254 ≤ D
    · rw [if_pos (Nat.le_succ_of_le hD)]
      refine near_inf A B D m hB hl ?_ hD
      rw [hn]
      exact Nat.le_trans (by decide) g1
    · by_cases hD2 : 254 ≤ D + 1
      · rw [if_pos hD2]
        obtain rfl : D = 253 := by clear hup hl hu e5 hn hlow hQ; omega
        by_cases hn2 : 16777216 ≤ n
        · refine near_inf A B 254 m hB hl ?_ (by decide)
          rw [e5]
          clear hup hl hu e5 hn hlow hQ
          omega
        · have hn4 : n = 16777215 := by clear hup hl hu e5 hn hlow hQ; omega
          have := near_cut A B 253 m hB hl (by left; rw [hn, hn4]; decide) (by rw [hn, hn4]; decide) (by rw [hn, hn4]; decide)
          rw [this, hu]
          rcases g2 (by rw [hn4]; decide) with e | e
          · rw [e]; exact d_max
          · rw [e]; exact d_max
      · rw [if_neg hD2, ← hu]
        refine (near_less A B D m hB hl (by rw [hu]; exact h) ?_ ?_).1
        · rw [e5]; clear hup hl hu e5 hn hlow hQ; omega
        · rw [e5]; clear hup hl hu e5 hn hlow hQ; omega
end Go.Proofs.YtnljpbpphdhnpaaGreatDoor

/- The library's parseFloat32: of every number of 64 bits by ten to -70 .. 40 it is the document's Nearest. -/
namespace Go.Proofs.YtnljpbpphdhnpaaGreatDoor
open Go.RowKit Go.PlainAid

theorem pow_le_two {a b : Nat} (h : a ≤ b) : 2 ^ a ≤ 2 ^ b := Nat.pow_le_pow_right (by decide) h
theorem pow_23 (a b c d e : Nat) (h : a + b = c + d + e) : (2 : Nat) ^ a * 2 ^ b = 2 ^ c * 2 ^ d * 2 ^ e := by
  rw [← Nat.pow_add, ← Nat.pow_add, ← Nat.pow_add, h]
theorem pow_13 (a c d e : Nat) (h : a = c + d + e) : (2 : Nat) ^ a = 2 ^ c * 2 ^ d * 2 ^ e := by
  rw [← Nat.pow_add, ← Nat.pow_add, h]
theorem pow_le_13 (a b c k : Nat) (h : k ≤ a + b + c) : (2 : Nat) ^ k ≤ 2 ^ a * 2 ^ b * 2 ^ c := by
  rw [← Nat.pow_add, ← Nat.pow_add]; exact pow_le_two h
/-- the number's bounds at the place that the library takes -/
theorem z_place (d D L l : Nat) (A B : Nat) (_hL : d.log2 = L) (h1 : B * 2 ^ (L + l) ≤ A * 2 ^ 400) (h2 : 200 * A * 2 ^ 400 < 199 * (B * 2 ^ (L + l + 2))) (hB : 0 < B) (hD : L + l ≤ D + 274) (hE : D = 0 ∨ L + l = D + 274) :
    (8388608 ≤ A * 2 ^ 149 / (B * 2 ^ D) ∨ D = 0) ∧ 200 * (A * 2 ^ 149) < 6677331968 * (B * 2 ^ D) := by
  have hQ : 0 < B * 2 ^ D := Nat.mul_pos hB (Nat.two_pow_pos D)
  refine ⟨?_, ?_⟩
  · rcases hE with h | h
    · right; exact h
    · left
      refine (Nat.le_div_iff_mul_le hQ).2 ?_
      have h3 : 8388608 * (B * 2 ^ D) * 2 ^ 400 = B * 2 ^ (L + l) * 2 ^ 149 := by
        have e : (2 : Nat) ^ (L + l) * 2 ^ 149 = 2 ^ 23 * 2 ^ D * 2 ^ 400 := pow_23 (L + l) 149 23 D 400 (by omega)
        rw [Nat.mul_assoc B, e, show (8388608 : Nat) = 2 ^ 23 by decide]
        generalize (2 : Nat) ^ 400 = T
        generalize (2 : Nat) ^ 23 = y
        ac_rfl
      have h4 : 8388608 * (B * 2 ^ D) * 2 ^ 400 ≤ A * 2 ^ 149 * 2 ^ 400 := by
        rw [h3]
        refine Nat.le_trans (Nat.mul_le_mul_right _ h1) (Nat.le_of_eq ?_)
        generalize (2 : Nat) ^ 400 = T
        generalize (2 : Nat) ^ 149 = y
        ac_rfl
      exact Nat.le_of_mul_le_mul_right h4 (Nat.two_pow_pos 400)
  · refine u_up (A * 2 ^ 149) B (2 ^ 400) D (L + l + 151) ?_ ?_
    · rw [show (33554432 : Nat) = 2 ^ 25 by decide]
      exact pow_le_13 D 25 400 (L + l + 151) (by omega)
    · have e : (2 : Nat) ^ (L + l + 151) = 2 ^ (L + l + 2) * 2 ^ 149 := by rw [← Nat.pow_add]
      rw [e]
      have h3 := Nat.mul_lt_mul_of_pos_right h2 (Nat.two_pow_pos 149)
      generalize (2 : Nat) ^ 400 = T at *
      generalize (2 : Nat) ^ 149 = y at *
      generalize (2 : Nat) ^ (L + l + 2) = z at *
      have e1 : 200 * (A * y) * T = 200 * A * T * y := by ac_rfl
      have e2 : 199 * (B * (z * y)) = 199 * (B * z) * y := by ac_rfl
      rw [e1, e2]
      exact h3
/-- the library's scaled number -/
theorem z_scaled (d D L S : Nat) (p E : Int) (hL : d.log2 = L) (hL2 : L < 64) (hx : d * 2 ^ (63 - L) < 18446744073709551616) (h1 : -70 ≤ p) (h2 : p ≤ 40) (hD : (D : Int) = 149 - E) (hS : (S : Int) = 60 - E - L - lpZ p) (hS2 : 37 ≤ S) :
    uscN (d * 2 ^ (63 - L)) (hiZ p) (loZ p) S = uN (4 * (d * 10 ^ p.toNat * 2 ^ 149)) (10 ^ (-p).toNat * 2 ^ D) := by
  have h := usc_z p (d * 2 ^ (63 - L)) S h1 h2 hx hS2
  rw [h]
  refine uN_ratio _ _ _ _ (Nat.mul_pos (Nat.two_pow_pos _) (Nat.pow_pos (by decide))) (Nat.mul_pos (Nat.pow_pos (by decide)) (Nat.two_pow_pos _)) ?_
  have e : (2 : Nat) ^ (63 - L) * 2 ^ (-1 - lpZ p - S).toNat * 2 ^ D = 2 ^ 2 * 2 ^ 149 * 2 ^ (1 + lpZ p + S).toNat := by
    rw [← Nat.pow_add, ← Nat.pow_add, ← Nat.pow_add, ← Nat.pow_add]; congr 1; omega
  rw [show (4 : Nat) = 2 ^ 2 by decide]
  generalize (2 : Nat) ^ 149 = T at *
  generalize (2 : Nat) ^ 2 = F at *
  generalize (2 : Nat) ^ (63 - L) = a at *
  generalize (2 : Nat) ^ (-1 - lpZ p - S).toNat = b at *
  generalize (2 : Nat) ^ D = c at *
  generalize (2 : Nat) ^ (1 + lpZ p + S).toNat = f at *
  generalize 10 ^ p.toNat = U
  generalize 10 ^ (-p).toNat = V
  calc d * a * b * U * (V * c) = d * U * V * (a * b * c) := by ac_rfl
    _ = d * U * V * (F * T * f) := by rw [e]
    _ = F * (d * U * T) * (f * V) := by ac_rfl
/-- far below the least: it is 0 -/
theorem z_nought (A B m K : Nat) (hB : 0 < B) (hl : LowB A B m) (h2 : 200 * A * 2 ^ 400 < 199 * (B * 2 ^ K)) (hK : K ≤ 249) : nearB A B m = 0 := by
  have h3 : 4 * (A * 2 ^ 149) < B := by
    have h4 : 199 * (B * 2 ^ K) ≤ 199 * (B * 2 ^ 249) := Nat.mul_le_mul_left _ (Nat.mul_le_mul_left _ (pow_le_two hK))
    have h5 := Nat.lt_of_lt_of_le h2 h4
    have e : (2 : Nat) ^ 400 = 2 ^ 2 * 2 ^ 149 * 2 ^ 249 := pow_13 400 2 149 249 (by decide)
    rw [e] at h5
    rw [show (4 : Nat) = 2 ^ 2 by decide]
    clear h4 e h2
    generalize (2 : Nat) ^ 249 = T at *
    generalize (2 : Nat) ^ 149 = y at *
    have hT : 200 * (2 ^ 2 * (A * y)) * T < 199 * B * T := by
      have e1 : 200 * (2 ^ 2 * (A * y)) * T = 200 * A * (2 ^ 2 * y * T) := by ac_rfl
      rw [e1, Nat.mul_assoc 199]
      exact h5
    have := Nat.lt_of_mul_lt_mul_right hT
    omega
  have hu : uN (4 * (A * 2 ^ 149)) (B * 2 ^ 0) ≤ 1 := by
    have := (uN_between (4 * (A * 2 ^ 149)) (B * 2 ^ 0)).2
    rw [Nat.pow_zero, Nat.mul_one] at this ⊢
    rw [Nat.div_eq_of_lt h3] at this
    exact this
  have hn : A * 2 ^ 149 / (B * 2 ^ 0) = 0 := by
    rw [Nat.pow_zero, Nat.mul_one]
    refine Nat.div_eq_of_lt (Nat.lt_of_le_of_lt ?_ h3)
    generalize A * 2 ^ 149 = z
    omega
  have := near_cut A B 0 m hB hl (Or.inr rfl) (by rw [hn]; decide) (by rw [hn]; decide)
  rw [this]
  have hc : uN (4 * (A * 2 ^ 149)) (B * 2 ^ 0) = 0 ∨ uN (4 * (A * 2 ^ 149)) (B * 2 ^ 0) = 1 := by
    generalize uN (4 * (A * 2 ^ 149)) (B * 2 ^ 0) = z at *
    clear this hn h3 h2 hl
    omega
  rcases hc with e | e
  · rw [e]; decide
  · rw [e]; decide
end Go.Proofs.YtnljpbpphdhnpaaGreatDoor

/- The library's parseFloat32, told: of every number of 64 bits by ten to -70 .. 40 it is the document's Nearest, and whether it is too great. -/
namespace Go.Proofs.YtnljpbpphdhnpaaGreatDoor
open Go.RowKit Go.PlainAid

theorem lpZ_bounds (p : Int) (h1 : -70 ≤ p) (h2 : p ≤ 40) : -233 ≤ lpZ p ∧ lpZ p ≤ 132 := by
  unfold lpZ; omega
theorem row_z (p : Int) (h1 : -70 ≤ p) (h2 : p ≤ 40) : hiZ p < 18446744073709551616 ∧ loZ p < 18446744073709551616 ∧ loZ p ≤ hiZ p * 18446744073709551616 := by
  obtain ⟨a1, a2, a3, a6, a7⟩ : rowZ p := by
    have := rows_z (p + 70).toNat (by omega)
    rwa [show (((p + 70).toNat : Nat) : Int) - 70 = p by omega] at this
  exact ⟨a1, a2, a3⟩
set_option maxHeartbeats 1000000 in
theorem parse32_all (d m : Nat) (p : Int) (w : World) (h0 : 0 < d) (hd : d < 18446744073709551616) (h1 : -70 ≤ p) (h2 : p ≤ 40) (hT : TabZ w p) (hl : LowB (d * 10 ^ p.toNat) (10 ^ (-p).toNat) m) :
    Calls Tryz.prog 158 #[.int .u64 (d : Int), .int .i64 p, .int .u32 0] w fun e w' => e = .returned (.tuple #[.float .f32 (nearB (d * 10 ^ p.toNat) (10 ^ (-p).toNat) m), erR (nearB (d * 10 ^ p.toNat) (10 ^ (-p).toNat) m)]) ∧ Below w.heap.size w w' := by
  obtain ⟨b1, b2⟩ := lpZ_bounds p h1 h2
  obtain ⟨r1, r2, r3⟩ := row_z p h1 h2
  have hL2 : d.log2 < 64 := by rw [Nat.log2_lt (by omega)]; exact hd
  have d2 : d < 2 ^ (d.log2 + 1) := Nat.lt_log2_self
  have hB : 0 < 10 ^ (-p).toNat := Nat.pow_pos (by decide)
  obtain ⟨l, hl2⟩ : ∃ l : Nat, (l : Int) = lpZ p + 400 := ⟨(lpZ p + 400).toNat, by omega⟩
  obtain ⟨z1, z2⟩ := z_bounds d p l h0 h1 h2 hl2
  have hLen := fun w => len64_at (d : Int) (by omega) (by omega) ((d.log2 + 1 : Nat) : Int) (by rw [Int.toNat_natCast, bitLen_log d h0 hd]) w
  have hLg := fun w => log2_z p (lpZ p) (by omega) (by omega) rfl w
  obtain ⟨L, hL⟩ : ∃ L, d.log2 = L := ⟨_, rfl⟩
  rw [hL] at z1 z2 hLen hL2 d2
  have hxlt : d * 2 ^ (63 - L) < 18446744073709551616 := by
    have e : (18446744073709551616 : Nat) = 2 ^ (L + 1) * 2 ^ (63 - L) := by
      rw [← Nat.pow_add, show L + 1 + (63 - L) = 64 by omega]
    rw [e]
    exact Nat.mul_lt_mul_of_pos_right d2 (Nat.two_pow_pos _)
  obtain ⟨E, hE⟩ : ∃ E : Int, min (149 : Int) (24 - ((L + 1 : Nat) : Int) - lpZ p) = E := ⟨_, rfl⟩
  have hEc : (E = 149 ∧ 149 ≤ 24 - ((L + 1 : Nat) : Int) - lpZ p) ∨ (E = 24 - ((L + 1 : Nat) : Int) - lpZ p ∧ 24 - ((L + 1 : Nat) : Int) - lpZ p ≤ 149) := by
    rw [← hE, Int.min_def]; split <;> omega
  obtain ⟨D, hD⟩ : ∃ D : Nat, (D : Int) = 149 - E := ⟨(149 - E).toNat, by omega⟩
  obtain ⟨S, hS⟩ : ∃ S : Nat, (S : Int) = 60 - E - L - lpZ p := ⟨(60 - E - L - lpZ p).toNat, by omega⟩
  have hPre := fun x0 x1 x2 : Int => prescale_any (348 + p).toNat (E - (64 - ((L + 1 : Nat) : Int))) p (lpZ p) ((hiZ p : Nat) : Int) ((loZ p : Nat) : Int) x0 x1 x2 208 w (by omega) (by omega) (by omega) (by omega) hT.hi hT.lo
  rw [show -(E - (64 - ((L + 1 : Nat) : Int)) + lpZ p + 3) = (S : Int) by omega] at hPre
  by_cases hS64 : 64 ≤ S
  · have hz := z_nought (d * 10 ^ p.toNat) (10 ^ (-p).toNat) m (L + l + 2) hB hl z2 (by omega)
    rw [hz]
    exact parse32_nought d (L + 1) _ _ (S : Int) p (lpZ p) E _ w ⟨by omega, by omega⟩ ⟨by omega, by omega⟩ (by omega) hLen hLg hPre hE rfl ⟨by omega, by omega⟩
  · obtain ⟨g1, g2⟩ := z_place d D L l (d * 10 ^ p.toNat) (10 ^ (-p).toNat) hL z1 z2 hB (by omega) (by omega)
    have hu := z_scaled d D L S p E hL hL2 hxlt h1 h2 hD hS (by omega)
    obtain ⟨k0, kA, kB⟩ := near_u (d * 10 ^ p.toNat) (10 ^ (-p).toNat) D m _ hB hl g1 g2 hu.symm
    have hle : d * 2 ^ (63 - L) * loZ p ≤ d * 2 ^ (63 - L) * hiZ p * 18446744073709551616 := by
      rw [Nat.mul_assoc (d * 2 ^ (63 - L))]
      exact Nat.mul_le_mul_left _ r3
    have hU := usc_natZ (d * 2 ^ (63 - L)) (hiZ p) (loZ p) S hxlt r1 r2 (by omega) hle w 0
    have hxw : IntKind.u64.wrap ((d : Int) * 2 ^ (64 - (L + 1))) = ((d * 2 ^ (63 - L) : Nat) : Int) := by
      have e8 : (d : Int) * 2 ^ (64 - (L + 1)) = ((d * 2 ^ (63 - L) : Nat) : Int) := by
        rw [Int.natCast_mul, Int.natCast_pow, show 64 - (L + 1) = 63 - L by omega]; rfl
      rw [e8, IntKind.wrap_u64]
      omega
    clear z1 z2 g1 g2 hu hle hT hl hL d2
    generalize nearB (d * 10 ^ p.toNat) (10 ^ (-p).toNat) m = R at *
    generalize uscN (d * 2 ^ (63 - L)) (hiZ p) (loZ p) S = u at *
    generalize d * 2 ^ (63 - L) = x at *
    by_cases hc : u < 67108862
    · obtain ⟨q1, q2, q3⟩ := kA hc
      refine parse32_z d (L + 1) x u (rndU u) R (erR R) _ _ (S : Int) p (lpZ p) E _ u 0 false w ⟨by omega, by omega⟩ ⟨by omega, by omega⟩ (by omega) hLen hLg hPre hU hE rfl ⟨by omega, by omega⟩ hxw (decide_eq_false (by omega)) rfl (and_one u (by omega)) (by simpa using or_self u (by omega)) (round_nat u (by omega)) q2 (or32_zero _ (by omega)) ?_
      exact fun w => pack_all (rndU u) D _ (by omega) q3 q2 R q1 w
    · obtain ⟨q1, q2, q3⟩ := kB (by omega)
      have hlu : lessU u < 67108864 := by unfold lessU; split <;> omega
      refine parse32_z d (L + 1) x u (rndU (lessU u)) R (erR R) _ _ (S : Int) p (lpZ p) E _ (lessU u) 1 true w ⟨by omega, by omega⟩ ⟨by omega, by omega⟩ (by omega) hLen hLg hPre hU hE rfl ⟨by omega, by omega⟩ hxw (decide_eq_true (by omega)) rfl (and_one u (by omega)) (by simpa using or_less u (by omega)) (round_nat _ (by omega)) q2 (or32_zero _ (by omega)) ?_
      exact fun w => pack_all (rndU (lessU u)) (D + 1) _ (by omega) (Or.inl q3) q2 R q1 w
end Go.Proofs.YtnljpbpphdhnpaaGreatDoor

/- Products and quotients of reals of 32 bits: those of their worths, rounded to the nearest float as the document finds it. -/
namespace Go.Proofs.YtnljpbpphdhnpaaGreatDoor
open Go.RowKit Go.PlainAid

/-- a rung by its digits and its place -/
theorem valN_atQ (e t : Nat) (h1 : t < 16777216) (h2 : e = 0 ∨ 8388608 ≤ t) : valN (e * 8388608 + t) = t * 2 ^ e := by
  unfold valN
  rcases h2 with rfl | h2
  · by_cases h : t < 8388608
    · rw [if_pos (by omega)]; simp
    · rw [if_neg (by omega), show (0 * 8388608 + t) / 8388608 = 1 by omega, show (0 * 8388608 + t) % 8388608 = t - 8388608 by omega]
      simp; omega
  · rw [if_neg (by omega), show (e * 8388608 + t) / 8388608 - 1 = e by omega, show 8388608 + (e * 8388608 + t) % 8388608 = t by omega]
theorem valN_nextQ (e t : Nat) (h1 : t < 16777216) (h2 : e = 0 ∨ 8388608 ≤ t) : valN (e * 8388608 + t + 1) = (t + 1) * 2 ^ e := by
  rw [valN_succ, valN_atQ e t h1 h2, Nat.succ_mul]
  congr 1
  rcases h2 with rfl | h2
  · by_cases h : t < 8388608
    · rw [if_pos (by omega)]
    · rw [if_neg (by omega), show (0 * 8388608 + t) / 8388608 = 1 by omega]
  · rw [if_neg (by omega), show (e * 8388608 + t) / 8388608 - 1 = e by omega]

/-- the rung below V over B is one alone -/
theorem near_floor (V B L n : Nat) (l1 : n ≤ 2139095040) (l2 : valN n * B ≤ V) (l3 : n = 2139095040 ∨ V < valN (n + 1) * B) (lo : valN L * B ≤ V) (hi : V < valN (L + 1) * B) :
    (if n = 2139095040 then n else if (decide ((valN n + valN (n + 1)) * B < 2 * V) || (decide (2 * V = (valN n + valN (n + 1)) * B) && decide (n % 2 = 1))) = true then n + 1 else n) =
      min (L + (decide ((valN L + valN (L + 1)) * B < 2 * V) || (decide (2 * V = (valN L + valN (L + 1)) * B) && decide (L % 2 = 1))).toNat) 2139095040 := by
  have a1 : n < L + 1 := by
    have := Nat.lt_of_le_of_lt l2 hi
    exact valN_iff.1 (Nat.lt_of_mul_lt_mul_right this)
  by_cases ho : n = 2139095040
  · rw [if_pos ho, Nat.min_eq_right (by omega)]; exact ho
  · rw [if_neg ho]
    have l3' : V < valN (n + 1) * B := by rcases l3 with h | h; exact absurd h ho; exact h
    have a2 : L < n + 1 := by
      have := Nat.lt_of_le_of_lt lo l3'
      exact valN_iff.1 (Nat.lt_of_mul_lt_mul_right this)
    obtain rfl : n = L := by omega
    have l1' : n + 1 ≤ 2139095040 := by omega
    generalize (decide ((valN n + valN (n + 1)) * B < 2 * V) || (decide (2 * V = (valN n + valN (n + 1)) * B) && decide (n % 2 = 1))) = b
    cases b
    · rw [if_neg (by decide), Nat.min_eq_left (by simp; omega)]; rfl
    · rw [if_pos rfl, Nat.min_eq_left (by simp; omega)]; rfl

/-- the float nearest to V over B, by the digits that are kept -/
theorem near_at (A V B t e n : Nat) (hV : A * 2 ^ 149 = V) (h1 : t < 16777216) (h2 : e = 0 ∨ 8388608 ≤ t) (lo : t * 2 ^ e * B ≤ V) (hi : V < (t + 1) * 2 ^ e * B) (hl : LowB A B n) :
    nearB A B n = min (e * 8388608 + (t + (decide ((2 * t + 1) * 2 ^ e * B < 2 * V) || (decide (2 * V = (2 * t + 1) * 2 ^ e * B) && decide (t % 2 = 1))).toNat)) 2139095040 := by
  obtain ⟨l1, l2, l3⟩ := hl
  have f1 := valN_atQ e t h1 h2
  have f2 := valN_nextQ e t h1 h2
  rw [← f1] at lo
  rw [← f2] at hi
  have fs : (2 * t + 1) * 2 ^ e * B = (valN (e * 8388608 + t) + valN (e * 8388608 + t + 1)) * B := by
    rw [f1, f2, ← Nat.add_mul]; congr 2; omega
  rw [fs]
  have hpar : (e * 8388608 + t) % 2 = t % 2 := by omega
  rw [← hpar, ← Nat.add_assoc]
  unfold nearB upB
  rw [hV] at l2 l3 ⊢
  exact near_floor V B _ n l1 l2 l3 lo hi

/-- what is rounded (mag, at the place -149 + u - k) stands to all even numbers as V over B does -/
theorem near_core (neg ex : Bool) (mag u k A V B n : Nat) (hV : A * 2 ^ 149 = V) (hB : 0 < B) (hm : 0 < mag) (hb : (u = 0 ∧ ex = true) ∨ 25 ≤ mag.log2)
    (hc : ∀ z, (ex = true ∨ z % 2 = 0) → (mag < z ↔ V * 2 ^ k < z * 2 ^ u * B) ∧ (mag = z ↔ V * 2 ^ k = z * 2 ^ u * B)) (hl : LowB A B n) :
    Ieee.single.nearest neg mag (-149 + (u : Int) - k) = Ieee.single.word neg (nearB A B n) := by
  have e2 : Ieee.single.binade = 8388608 := by decide
  have e3 : Ieee.single.infRung = 2139095040 := by decide
  have e4 : Ieee.single.leastPlace = -149 := by decide
  have e5 : Ieee.single.fractionBits = 23 := rfl
  unfold Ieee.Format.nearest
  rw [if_neg (by omega)]
  simp only [e2, e3, e4, e5, cut_even]
  have g1 : 2 ^ mag.log2 ≤ mag := Nat.log2_self_le (by omega)
  have g2 : mag < 2 ^ (mag.log2 + 1) := Nat.lt_log2_self
  generalize mag.log2 = L at *
  obtain ⟨e, d, hed, he, hs, hd, hd3, hL, hLe⟩ : ∃ e d : Nat, e + k = d + u ∧ (max (-149 + (u : Int) - k + L - (23 : Nat)) (-149) - -149).toNat = e ∧ (-149 + (u : Int) - k - max (-149 + (u : Int) - k + L - (23 : Nat)) (-149)).toNat = 0 ∧ (max (-149 + (u : Int) - k + L - (23 : Nat)) (-149) - (-149 + (u : Int) - k)).toNat = d ∧ (ex = true ∨ 2 ≤ d) ∧ L ≤ d + 23 ∧ (e = 0 ∨ L = d + 23) := by
    refine ⟨(max (-149 + (u : Int) - k + L - (23 : Nat)) (-149) - -149).toNat, (max (-149 + (u : Int) - k + L - (23 : Nat)) (-149) - (-149 + (u : Int) - k)).toNat, ?_, rfl, ?_, rfl, ?_, ?_, ?_⟩
    · omega
    · omega
    · rcases hb with ⟨h1, h2⟩ | h
      · exact .inl h2
      · exact .inr (by omega)
    · omega
    · omega
  rw [he, hs, hd, Nat.shiftLeft_zero]
  clear he hs hd
  have hpow : 2 ^ e * 2 ^ k = 2 ^ d * 2 ^ u := by rw [← Nat.pow_add, ← Nat.pow_add, hed]
  have hp : 0 < 2 ^ d := Nat.two_pow_pos d
  have hk : 0 < 2 ^ k := Nat.two_pow_pos k
  have hdm := Nat.div_add_mod mag (2 ^ d)
  have hlt := Nat.mod_lt mag hp
  have ht1 : mag / 2 ^ d < 16777216 := by
    rw [Nat.div_lt_iff_lt_mul hp, show (16777216 : Nat) = 2 ^ 24 from rfl, ← Nat.pow_add]
    exact Nat.lt_of_lt_of_le g2 (Nat.pow_le_pow_right (by decide) (by omega))
  have ht2 : e = 0 ∨ 8388608 ≤ mag / 2 ^ d := by
    rcases hLe with h | h
    · exact .inl h
    · refine .inr ?_
      rw [Nat.le_div_iff_mul_le hp, show (8388608 : Nat) = 2 ^ 23 from rfl, ← Nat.pow_add]
      exact Nat.le_trans (Nat.pow_le_pow_right (by decide) (by omega)) g1
  -- a whole number of units, put in parts
  have hz : ∀ z, z * 2 ^ e * B * 2 ^ k = z * 2 ^ d * 2 ^ u * B := fun z => by
    rw [Nat.mul_right_comm, Nat.mul_assoc z, hpow, ← Nat.mul_assoc]
  have hev : ∀ z, ex = true ∨ z * 2 ^ d % 2 = 0 := fun z => by
    rcases hd3 with h | h
    · exact .inl h
    · obtain ⟨d', rfl⟩ : ∃ d', d = d' + 1 := ⟨d - 1, by omega⟩
      refine .inr ?_
      rw [Nat.pow_succ, ← Nat.mul_assoc]; omega
  have hcmp : ∀ z, (mag < z * 2 ^ d ↔ V < z * 2 ^ e * B) ∧ (mag = z * 2 ^ d ↔ V = z * 2 ^ e * B) := fun z => by
    obtain ⟨c1, c2⟩ := hc (z * 2 ^ d) (hev z)
    rw [← hz] at c1 c2
    exact ⟨c1.trans (Nat.mul_lt_mul_right hk), c2.trans ⟨fun h => Nat.eq_of_mul_eq_mul_right hk h, fun h => by rw [h]⟩⟩
  -- the middle
  have hmid : ∀ t, (2 * mag < (2 * t + 1) * 2 ^ d ↔ 2 * V < (2 * t + 1) * 2 ^ e * B) ∧ (2 * mag = (2 * t + 1) * 2 ^ d ↔ 2 * V = (2 * t + 1) * 2 ^ e * B) := fun t => by
    have hy := hz (2 * t + 1)
    rcases hd3 with h | h
    · -- exact
      have hx : V * 2 ^ k = mag * 2 ^ u * B := ((hc mag (.inl h)).2).1 rfl
      have hu : 0 < 2 ^ u := Nat.two_pow_pos u
      have hbu : 0 < 2 ^ u * B := Nat.mul_pos hu hB
      have hl : 2 * V * 2 ^ k = 2 * mag * (2 ^ u * B) := by rw [Nat.mul_assoc, hx]; simp only [Nat.mul_assoc]
      have hr : (2 * t + 1) * 2 ^ e * B * 2 ^ k = (2 * t + 1) * 2 ^ d * (2 ^ u * B) := by rw [hy]; simp only [Nat.mul_assoc]
      generalize (2 * t + 1) * 2 ^ e * B = S at *
      generalize (2 * t + 1) * 2 ^ d = T at *
      generalize 2 * V = V2 at *
      generalize 2 * mag = M2 at *
      constructor
      · rw [← Nat.mul_lt_mul_right (b := M2) hbu, ← Nat.mul_lt_mul_right (b := V2) hk, hl, hr]
      · constructor
        · intro h5
          refine Nat.eq_of_mul_eq_mul_right hk ?_
          rw [hl, hr, h5]
        · intro h5
          refine Nat.eq_of_mul_eq_mul_right hbu ?_
          rw [← hl, ← hr, h5]
    · obtain ⟨d', rfl⟩ : ∃ d', d = d' + 2 := ⟨d - 2, by omega⟩
      have hq : (2 * t + 1) * 2 ^ (d' + 2) = 2 * ((2 * t + 1) * 2 ^ (d' + 1)) := by
        rw [Nat.pow_succ 2 (d' + 1), ← Nat.mul_assoc, Nat.mul_comm]
      obtain ⟨c1, c2⟩ := hc ((2 * t + 1) * 2 ^ (d' + 1)) (.inr (by rw [Nat.pow_succ, ← Nat.mul_assoc]; omega))
      rw [hq, Nat.mul_assoc 2, Nat.mul_assoc 2] at hy
      rw [hq]
      generalize (2 * t + 1) * 2 ^ (d' + 1) = Z at *
      generalize Z * 2 ^ u * B = Y at *
      generalize (2 * t + 1) * 2 ^ e * B = S at *
      have y1 : V * 2 ^ k < Y ↔ 2 * V < S := by
        rw [← Nat.mul_lt_mul_right (b := 2 * V) hk, hy, Nat.mul_assoc]; omega
      have y2 : V * 2 ^ k = Y ↔ 2 * V = S := by
        constructor
        · intro h5
          refine Nat.eq_of_mul_eq_mul_right hk ?_
          rw [hy, Nat.mul_assoc, h5]
        · intro h5
          rw [← h5, Nat.mul_assoc] at hy; omega
      exact ⟨Iff.trans (by omega) (c1.trans y1), Iff.trans (by omega) (c2.trans y2)⟩
  have lo : mag / 2 ^ d * 2 ^ e * B ≤ V := by
    refine Nat.le_of_not_lt fun h => ?_
    have := ((hcmp (mag / 2 ^ d)).1).2 h
    rw [Nat.mul_comm] at this; omega
  have hi : V < (mag / 2 ^ d + 1) * 2 ^ e * B := by
    refine ((hcmp (mag / 2 ^ d + 1)).1).1 ?_
    rw [Nat.succ_mul, Nat.mul_comm (mag / 2 ^ d)]; omega
  rw [near_at A V B (mag / 2 ^ d) e n hV ht1 ht2 lo hi hl]
  refine congrArg (fun x => Ieee.single.word neg (min (e * 8388608 + x) 2139095040)) ?_
  unfold rne rneB
  obtain ⟨m1, m2⟩ := hmid (mag / 2 ^ d)
  have hx : (2 * (mag / 2 ^ d) + 1) * 2 ^ d = 2 * (2 ^ d * (mag / 2 ^ d)) + 2 ^ d := by
    rw [Nat.succ_mul, Nat.mul_assoc, Nat.mul_comm (mag / 2 ^ d)]
  rw [hx] at m1 m2
  have q1 : decide (2 ^ d < 2 * (mag % 2 ^ d)) = decide ((2 * (mag / 2 ^ d) + 1) * 2 ^ e * B < 2 * V) := by
    apply decide_eq_decide.2
    generalize (2 * (mag / 2 ^ d) + 1) * 2 ^ e * B = S at *
    generalize mag % 2 ^ d = r at *
    generalize 2 ^ d * (mag / 2 ^ d) = q at *
    generalize 2 ^ d = p at *
    omega
  have q2 : (2 ^ d == 2 * (mag % 2 ^ d)) = decide (2 * V = (2 * (mag / 2 ^ d) + 1) * 2 ^ e * B) := by
    rw [Bool.eq_iff_iff]
    simp only [beq_iff_eq, decide_eq_true_eq]
    rw [← m2]
    generalize mag % 2 ^ d = r at *
    generalize 2 ^ d * (mag / 2 ^ d) = q at *
    generalize 2 ^ d = p at *
    omega
  have q3 : (mag / 2 ^ d % 2 == 1) = decide (mag / 2 ^ d % 2 = 1) := by
    rw [Bool.eq_iff_iff]
    simp only [beq_iff_eq, decide_eq_true_eq]
  rw [q1, q2, q3]

theorem near_nought (B n : Nat) (hB : 0 < B) (hl : LowB 0 B n) : nearB 0 B n = 0 := by
  obtain ⟨l1, l2, l3⟩ := hl
  rw [Nat.zero_mul] at l2
  have h0 : n = 0 := by
    refine Decidable.byContradiction fun h => ?_
    have h1 : valN 0 < valN n := valN_lt (by omega)
    have := Nat.mul_pos (show 0 < valN n by omega) hB
    omega
  subst h0
  unfold nearB upB
  have h1 : 0 < (valN 0 + valN (0 + 1)) * B := Nat.mul_pos (by decide) hB
  have h2 : 2 * (0 * 2 ^ 149) = 0 := by rw [Nat.zero_mul]
  rw [if_neg (by decide), decide_eq_false (show ¬ (valN 0 + valN (0 + 1)) * B < 2 * (0 * 2 ^ 149) by rw [h2]; omega), decide_eq_false (show ¬ 2 * (0 * 2 ^ 149) = (valN 0 + valN (0 + 1)) * B by rw [h2]; omega)]
  rfl

theorem near_wholeQ (A V B X n : Nat) (hV : A * 2 ^ 149 = V) (hB : 0 < B) (hx : V = X * B) (hl : LowB A B n) : nearB A B n = rndR X := by
  obtain ⟨l1, l2, l3⟩ := hl
  rw [hV, hx] at l2 l3
  have hlow : Low X n := ⟨l1, Nat.le_of_mul_le_mul_right l2 hB, by
    rcases l3 with h | h
    · exact .inl h
    · exact .inr (Nat.lt_of_mul_lt_mul_right h)⟩
  rw [← near_rnd X n hlow]
  unfold nearB nearN upB
  rw [hV, hx, ← Nat.mul_assoc]
  have c1 : decide ((valN n + valN (n + 1)) * B < 2 * X * B) = decide (valN n + valN (n + 1) < 2 * X) := by
    apply decide_eq_decide.2; exact Nat.mul_lt_mul_right hB
  have c2 : decide (2 * X * B = (valN n + valN (n + 1)) * B) = decide (2 * X = valN n + valN (n + 1)) := by
    apply decide_eq_decide.2; exact ⟨fun h => Nat.eq_of_mul_eq_mul_right hB h, fun h => by rw [h]⟩
  rw [c1, c2]

/-- a product of two finite reals: that of their worths, rounded -/
theorem mul_num (a c A V B n : Nat) (ha : rungN a < 2139095040) (hc : rungN c < 2139095040) (hV : A * 2 ^ 149 = V) (hB : 0 < B) (hx : V * 2 ^ 149 = valN (rungN a) * valN (rungN c) * B) (hl : LowB A B n) :
    Ieee.single.mul a c = some (Ieee.single.word ((a / 2147483648 % 2 == 1) ^^ (c / 2147483648 % 2 == 1)) (nearB A B n)) := by
  obtain ⟨m, i, ra, va⟩ := read_num a ha
  obtain ⟨m', j, rc, vc⟩ := read_num c hc
  unfold Ieee.Format.mul
  rw [ra, rc]
  simp only [Ieee.Datum.product, Option.map_some, Ieee.Format.write]
  generalize ((a / 2147483648 % 2 == 1) ^^ (c / 2147483648 % 2 == 1)) = neg
  have hx2 : V * 2 ^ 149 = m * m' * B * 2 ^ (i + j) := by
    rw [hx, ← va, ← vc, Nat.pow_add]
    rw [Nat.mul_mul_mul_comm m, Nat.mul_right_comm]
  clear hx va vc
  generalize m * m' = mag at *
  congr 1
  by_cases h0 : mag = 0
  · have hA : A = 0 := by
      have h1 : V * 2 ^ 149 = 0 := by rw [hx2, h0]; simp
      have h2 : V = 0 := by
        rcases Nat.mul_eq_zero.1 h1 with h | h
        · exact h
        · exact absurd h (Nat.pos_iff_ne_zero.1 (Nat.two_pow_pos 149))
      rw [h2] at hV
      rcases Nat.mul_eq_zero.1 hV with h | h
      · exact h
      · exact absurd h (Nat.pos_iff_ne_zero.1 (Nat.two_pow_pos 149))
    rw [hA] at hl ⊢
    rw [near_nought B n hB hl]
    unfold Ieee.Format.nearest
    rw [if_pos h0]
  by_cases hij : 149 ≤ i + j
  · obtain ⟨u, hu⟩ : ∃ u, i + j = u + 149 := ⟨i + j - 149, by omega⟩
    rw [hu, Nat.pow_add, ← Nat.mul_assoc] at hx2
    have h1 := Nat.eq_of_mul_eq_mul_right (Nat.two_pow_pos 149) hx2
    rw [Nat.mul_right_comm] at h1
    rw [near_wholeQ A V B (mag * 2 ^ u) n hV hB h1 hl, ← nearest_rnd]
    congr 1
    omega
  · obtain ⟨k, hk⟩ : ∃ k, 149 = k + (i + j) := ⟨149 - (i + j), by omega⟩
    have h1 : V * 2 ^ k = mag * B := by
      refine Nat.eq_of_mul_eq_mul_right (Nat.two_pow_pos (i + j)) ?_
      rw [← hx2, Nat.mul_assoc, ← Nat.pow_add, ← hk]
    rw [← near_core neg true mag 0 k A V B n hV hB (by omega) (.inl ⟨rfl, rfl⟩) (fun z _ => by
      rw [h1, Nat.pow_zero, Nat.mul_one]
      exact ⟨(Nat.mul_lt_mul_right hB).symm, ⟨fun h => by rw [h], fun h => Nat.eq_of_mul_eq_mul_right hB h⟩⟩) hl]
    congr 1
    omega

/-- a quotient of two finite reals: that of their worths, rounded -/
theorem div_num (a c A V B n : Nat) (ha : rungN a < 2139095040) (hc : rungN c < 2139095040) (hc0 : valN (rungN c) ≠ 0) (hV : A * 2 ^ 149 = V) (hB : 0 < B) (hx : A * valN (rungN c) = valN (rungN a) * B) (hl : LowB A B n) :
    Ieee.single.div a c = some (Ieee.single.word ((a / 2147483648 % 2 == 1) ^^ (c / 2147483648 % 2 == 1)) (nearB A B n)) := by
  obtain ⟨m, i, ra, va⟩ := read_num a ha
  obtain ⟨y, j, rc, vc⟩ := read_num c hc
  unfold Ieee.Format.div
  rw [ra, rc]
  have hy : y ≠ 0 := fun h => hc0 (by rw [← vc, h, Nat.zero_mul])
  simp only [Ieee.Datum.quotient]
  rw [if_neg hy]
  simp only [Option.map_some, Ieee.Format.write]
  generalize ((a / 2147483648 % 2 == 1) ^^ (c / 2147483648 % 2 == 1)) = neg
  rw [show Ieee.single.fractionBits + 2 = 25 from rfl, Nat.shiftLeft_eq]
  obtain ⟨more, hmore⟩ : ∃ more, 25 + y.log2 - m.log2 = more := ⟨_, rfl⟩
  rw [hmore]
  have hx2 : A * (y * 2 ^ j) = m * 2 ^ i * B := by rw [vc, va]; exact hx
  clear hx va vc
  congr 1
  by_cases h0 : m = 0
  · have hA : A = 0 := by
      have h1 : A * (y * 2 ^ j) = 0 := by rw [hx2, h0]; simp
      rcases Nat.mul_eq_zero.1 h1 with h | h
      · exact h
      · exact absurd h (Nat.pos_iff_ne_zero.1 (Nat.mul_pos (by omega) (Nat.two_pow_pos j)))
    rw [hA] at hl ⊢
    rw [near_nought B n hB hl]
    unfold Ieee.Format.nearest
    rw [if_pos (by rw [h0]; simp)]
  have l1 : 2 ^ m.log2 ≤ m := Nat.log2_self_le h0
  have l2 : y < 2 ^ (y.log2 + 1) := Nat.lt_log2_self
  have hD : 2 ^ (25 + y.log2) ≤ m * 2 ^ more := by
    refine Nat.le_trans (Nat.pow_le_pow_right (by decide) (show 25 + y.log2 ≤ m.log2 + more by omega)) ?_
    rw [Nat.pow_add]; exact Nat.mul_le_mul_right _ l1
  have hq : 16777216 ≤ m * 2 ^ more / y := by
    rw [Nat.le_div_iff_mul_le (by omega)]
    refine Nat.le_trans ?_ hD
    rw [show 25 + y.log2 = 24 + (y.log2 + 1) by omega, Nat.pow_add 2 24]
    exact Nat.mul_le_mul (Nat.le_refl _) (Nat.le_of_lt l2)
  generalize hDD : m * 2 ^ more = D at *
  have hdm := Nat.div_add_mod D y
  have hlt := Nat.mod_lt D (show y > 0 by omega)
  obtain ⟨mag, hmag⟩ : ∃ mag, 2 * (D / y) + (D % y != 0).toNat = mag := ⟨_, rfl⟩
  rw [hmag]
  have hb : (D % y != 0).toNat ≤ 1 := Bool.toNat_le _
  have hbz : (D % y != 0).toNat = 0 ↔ D % y = 0 := by
    by_cases h : D % y = 0
    · simp [h]
    · simp [h]
  have hlog : 25 ≤ mag.log2 := by
    refine Nat.le_of_not_lt fun h => ?_
    have := (Nat.log2_lt (by omega : mag ≠ 0)).1 h
    omega
  have hw : V * 2 ^ (j + more + 1) * y = 2 * D * (2 ^ (149 + i) * B) := by
    rw [← hV, ← hDD, Nat.pow_succ 2 (j + more), Nat.pow_add 2 j, Nat.pow_add 2 149]
    have : A * 2 ^ 149 * (2 ^ j * 2 ^ more * 2) * y = A * (y * 2 ^ j) * (2 ^ 149 * 2 ^ more * 2) := by
      simp only [Nat.mul_assoc, Nat.mul_comm, Nat.mul_left_comm]
    rw [this, hx2]
    simp only [Nat.mul_assoc, Nat.mul_comm, Nat.mul_left_comm]
  rw [← near_core neg false mag (149 + i) (j + more + 1) A V B n hV hB (by omega) (.inr hlog) (fun z hz => by
    have hz2 : z % 2 = 0 := by rcases hz with h | h; cases h; exact h
    obtain ⟨h, rfl⟩ : ∃ h, z = 2 * h := ⟨z / 2, by omega⟩
    have hy0 : 0 < y := by omega
    have hub : 0 < 2 ^ (149 + i) * B := Nat.mul_pos (Nat.two_pow_pos _) hB
    have e1 : 2 * h * 2 ^ (149 + i) * B * y = 2 * (h * y) * (2 ^ (149 + i) * B) := by
      simp only [Nat.mul_assoc, Nat.mul_comm, Nat.mul_left_comm]
    generalize 2 * h * 2 ^ (149 + i) * B = Y at *
    generalize V * 2 ^ (j + more + 1) = X at *
    generalize 2 ^ (149 + i) * B = U at *
    have c1 : X < Y ↔ D < h * y := by
      rw [← Nat.mul_lt_mul_right (b := X) hy0, hw, e1, Nat.mul_lt_mul_right hub]; omega
    have c2 : X = Y ↔ D = h * y := by
      constructor
      · intro h5
        rw [h5, e1] at hw
        have := Nat.eq_of_mul_eq_mul_right hub hw
        omega
      · intro h5
        refine Nat.eq_of_mul_eq_mul_right hy0 ?_
        rw [hw, e1, h5]
    rw [c1, c2, ← Nat.div_lt_iff_lt_mul hy0]
    refine ⟨by omega, ?_⟩
    constructor
    · intro h5
      have h6 : D / y = h := by omega
      have h7 : D % y = 0 := hbz.1 (by omega)
      rw [h6, h7, Nat.mul_comm] at hdm
      omega
    · intro h5
      have h6 : D / y = h := by rw [h5]; exact Nat.mul_div_cancel _ hy0
      have h7 : D % y = 0 := by rw [h5]; exact Nat.mul_mod_left _ _
      have := hbz.2 h7
      omega) hl]
  congr 1
  omega
end Go.Proofs.YtnljpbpphdhnpaaGreatDoor
