/- The library's setDigits, of a number whose last digit is no nought. -/
import Derived.Test.YtfpcpociejefaaaGreatDoorFmE
import Derived.Test.YtfpcpociejefaaaGreatDoorUzO
import Derived.Test.YtfpcpociejefaaaGreatDoorPgA

namespace Go.Proofs.YtfpcpociejefaaaGreatDoor
open Go.RowKit Go.PlainAid Go.Sort
abbrev encB (b : UInt8) : Value := Value.int .u8 (b.toNat : Int)
theorem putRow_keep (w : World) (b off : Nat) (d : Array UInt8) (n : Nat) : Keep [b] w ((putRow encB w b off d).drewN n) := by
 refine ⟨rfl, rfl, rfl, ?_, fun k hk hn => ?_⟩
 ·show w.heap.size ≤ (putRow encB w b off d).heap.size
  rw [size_putRow]; exact Nat.le_refl _
 ·show (putRow encB w b off d).heap[k]? = w.heap[k]?
  have hne : ¬ b = k := by intro e; exact hn (by simp [e])
  simp [putRow, mapBlock, Array.getElem?_modify, hne]
end Go.Proofs.YtfpcpociejefaaaGreatDoor

/- The library's shortFloat and numDigits at the one number that is asked for. -/
namespace Go.Proofs.YtfpcpociejefaaaGreatDoor
open Go.RowKit Go.PlainAid
theorem alloc_drewN (w : World) (o : Obj) (n : Nat) : (w.drewN n).alloc o = (w.alloc o).drewN n := rfl
end Go.Proofs.YtfpcpociejefaaaGreatDoor

/- The library's shortFloat: what it calls, for every float32. -/
namespace Go.Proofs.YtfpcpociejefaaaGreatDoor
open Go.RowKit Go.PlainAid
set_option maxRecDepth 1000000 in
theorem log10_any (x : Int) (h : -400 ≤ x ∧ x ≤ 400) (w : World) : Calls Tryz.prog 129 #[.int .i64 x] w fun e w' => e = .returned (.int .i64 (x * 78913 / 262144)) ∧ w' = w := by
 obtain ⟨h1, h2⟩ := h
 go_enter Tryz.func129, Tryz.ntmps129
 go_wp2
 go_ret
 exact ⟨by simp, rfl⟩
set_option maxRecDepth 1000000 in
theorem skew_any (x : Int) (h : -400 ≤ x ∧ x ≤ 400) (w : World) : Calls Tryz.prog 201 #[.int .i64 x] w fun e w' => e = .returned (.int .i64 ((x * 631305 - 261663) / 2097152)) ∧ w' = w := by
 obtain ⟨h1, h2⟩ := h
 go_enter Tryz.func201, Tryz.ntmps201
 go_wp2
 go_ret
 exact ⟨by simp, rfl⟩
set_option maxRecDepth 1000000 in
theorem log2_neg (x : Int) (h : -400 ≤ x ∧ x ≤ 400) (w : World) : Calls Tryz.prog 203 #[.int .i64 x] w fun e w' => e = .returned (.int .i64 (x * 108853 / 32768)) ∧ w' = w := by
 obtain ⟨h1, h2⟩ := h
 go_enter Tryz.func203, Tryz.ntmps203
 go_wp2
 go_ret
 exact ⟨by simp, rfl⟩
set_option maxRecDepth 1000000 in
theorem nudge_0 (u : Int) (h : 1 ≤ u ∧ u ≤ 4611686018427387904) (w : World) : Calls Tryz.prog 205 #[.int .u64 u, .int .i64 0] w fun e w' => e = .returned (.int .u64 u) ∧ w' = w := by
 obtain ⟨h1, h2⟩ := h
 go_enter Tryz.func205, Tryz.ntmps205
 go_wp2
 go_ret
 exact ⟨rfl, rfl⟩
set_option maxRecDepth 1000000 in
theorem nudge_1 (u : Int) (h : 1 ≤ u ∧ u ≤ 4611686018427387904) (w : World) : Calls Tryz.prog 205 #[.int .u64 u, .int .i64 1] w fun e w' => e = .returned (.int .u64 (u + 1)) ∧ w' = w := by
 obtain ⟨h1, h2⟩ := h
 go_enter Tryz.func205, Tryz.ntmps205
 go_wp2
 go_ret
 exact ⟨rfl, rfl⟩
set_option maxRecDepth 1000000 in
theorem nudge_m (u : Int) (h : 1 ≤ u ∧ u ≤ 4611686018427387904) (w : World) : Calls Tryz.prog 205 #[.int .u64 u, .int .i64 (-1)] w fun e w' => e = .returned (.int .u64 (u - 1)) ∧ w' = w := by
 obtain ⟨h1, h2⟩ := h
 have e0 : IntKind.u64.wrap (u + IntKind.u64.wrap (-1)) = u - 1 := by
  have e1 : IntKind.u64.wrap (-1) = 18446744073709551615 := by decide
  rw [e1]
  simp [IntKind.wrap, IntKind.bits, IntKind.signed]
  omega
 go_enter Tryz.func205, Tryz.ntmps205
 go_wp2
 go_ret
 exact ⟨rfl, rfl⟩
set_option maxRecDepth 1000000 in
theorem ceil_any (u : Int) (h : 0 ≤ u ∧ u ≤ 4611686018427387905) (w : World) : Calls Tryz.prog 206 #[.int .u64 u] w fun e w' => e = .returned (.int .u64 ((u + 3) / 4)) ∧ w' = w := by
 obtain ⟨h1, h2⟩ := h
 go_enter Tryz.func206, Tryz.ntmps206
 go_wp2
 go_ret
 exact ⟨by simp, rfl⟩
set_option maxRecDepth 1000000 in
theorem floor_any (u : Int) (h : 0 ≤ u ∧ u ≤ 4611686018427387905) (w : World) : Calls Tryz.prog 207 #[.int .u64 u] w fun e w' => e = .returned (.int .u64 (u / 4)) ∧ w' = w := by
 obtain ⟨h1, h2⟩ := h
 go_enter Tryz.func207, Tryz.ntmps207
 go_wp2
 go_ret
 exact ⟨by simp, rfl⟩
theorem and_63 : ∀ s, s < 64 → bits .and .i64 ((s : Nat) : Int) 63 = ((s : Nat) : Int) := by decide
theorem u64_small (v : Int) (h0 : 0 ≤ v) (h1 : v < 18446744073709551616) : IntKind.u64.wrap v = v := by
 simp [IntKind.wrap, IntKind.bits, IntKind.signed]
 omega
abbrev preO (hi lo s : Nat) : Obj := .cells #[.int .u64 (hi : Int), .int .u64 (lo : Int), .int .i64 (s : Int)] 214
set_option maxHeartbeats 1000000 in
/-- the library's scaling, for every row of the table -/
theorem usc_nat (x hi lo s : Nat) (hx : x + 4 ≤ 18446744073709551616) (hh : hi < 18446744073709551616) (hl : lo < 18446744073709551616) (hs : s < 64) (hle : x * lo ≤ x * hi * 18446744073709551616) (w : World) (n : Nat) :
  Calls Tryz.prog 204 #[.int .u64 (x : Int), .pointer (some ⟨w.heap.size, 0, none⟩)] ((w.alloc (preO hi lo s)).drewN n) fun e w' => e = .returned (.int .u64 ((uscN x hi lo s : Nat) : Int)) ∧ ∃ m, w' = (w.alloc (preO hi lo s)).drewN m := by
 have c1 : (x : Int) * (hi : Int) = ((x * hi : Nat) : Int) := (Int.natCast_mul x hi).symm
 have c2 : (x : Int) * (lo : Int) = ((x * lo : Nat) : Int) := (Int.natCast_mul x lo).symm
 have hA : x * hi / 18446744073709551616 < 18446744073709551616 := by
  rw [Nat.div_lt_iff_lt_mul (by decide)]
  exact Nat.mul_lt_mul_of_lt_of_lt (by omega) hh
 have hC : x * lo / 18446744073709551616 + 5 ≤ 18446744073709551616 := by
  have h3 : x * lo < (18446744073709551616 - 4) * 18446744073709551616 := by
   have : x * lo ≤ (18446744073709551616 - 4) * lo := Nat.mul_le_mul_right _ (by omega)
   omega
  have := (Nat.div_lt_iff_lt_mul (by decide)).2 h3
  omega
 have hB := Nat.mod_lt (x * hi) (show 0 < 18446744073709551616 by decide)
 have hle2 : x * hi / 18446744073709551616 = 0 → ¬ x * hi % 18446744073709551616 < x * lo / 18446744073709551616 := by
  generalize x * hi = z1 at *
  generalize x * lo = z2 at *
  omega
 have ha : (x : Int) * (hi : Int) / 18446744073709551616 = ((x * hi / 18446744073709551616 : Nat) : Int) := by rw [c1]; rfl
 have hb : (x : Int) * (hi : Int) % 18446744073709551616 = ((x * hi % 18446744073709551616 : Nat) : Int) := by rw [c1]; rfl
 have hc : (x : Int) * (lo : Int) / 18446744073709551616 = ((x * lo / 18446744073709551616 : Nat) : Int) := by rw [c2]; rfl
 have hd : (x : Int) * (lo : Int) % 18446744073709551616 = ((x * lo % 18446744073709551616 : Nat) : Int) := by rw [c2]; rfl
 unfold uscN
 generalize x * hi / 18446744073709551616 = A at *
 generalize x * hi % 18446744073709551616 = b at *
 generalize x * lo / 18446744073709551616 = c at *
 generalize x * lo % 18446744073709551616 = d at *
 have hP : 0 < 2 ^ s := Nat.two_pow_pos s
 have hk := Nat.div_add_mod A (2 ^ s)
 have hq : ((A : Int) / 2 ^ ((s : Nat) : Int).toNat) = ((A / 2 ^ s : Nat) : Int) := by
  rw [Int.toNat_natCast]
  norm_cast
 have hq1 : 1 ≤ A → (((A : Int) - 1) / 2 ^ ((s : Nat) : Int).toNat) = (((A - 1) / 2 ^ s : Nat) : Int) := fun h => by
  rw [Int.toNat_natCast, show (A : Int) - 1 = ((A - 1 : Nat) : Int) by omega]
  norm_cast
 have hqq : ((A : Int) / 2 ^ ((s : Nat) : Int).toNat) * 2 ^ ((s : Nat) : Int).toNat = ((A / 2 ^ s * 2 ^ s : Nat) : Int) := by
  rw [hq, Int.toNat_natCast]
  norm_cast
 have hle3 : A / 2 ^ s * 2 ^ s ≤ A := Nat.div_mul_le_self _ _
 have hmm : A % 2 ^ s = A - A / 2 ^ s * 2 ^ s := by rw [Nat.mul_comm (A / 2 ^ s)]; omega
 have hkl : A / 2 ^ s ≤ A := Nat.div_le_self _ _
 have hkl1 : (A - 1) / 2 ^ s ≤ A - 1 := Nat.div_le_self _ _
 have hw : IntKind.u64.wrap ((A : Int) / 2 ^ ((s : Nat) : Int).toNat * 2 ^ ((s : Nat) : Int).toNat) = ((A / 2 ^ s * 2 ^ s : Nat) : Int) := by
  rw [hqq]
  exact u64_small _ (by omega) (by omega)
 by_cases hr : A % 2 ^ s ≠ 0
 ·rw [if_pos hr]
  have h := uscale_cut (x : Int) (hi : Int) (lo : Int) (s : Int) A b (w.drewN n) (and_63 s hs) (by omega) (by omega) ⟨by omega, by omega⟩ ⟨by omega, by omega⟩ ha hb (by
   rw [hw]
   exact bne_iff_ne.2 (fun h => hr (by have := Int.ofNat_inj.1 h; omega)))
  rw [hq, or_one _ (by omega), alloc_drewN] at h
  refine h.mono ?_
  rintro e w' ⟨rfl, m, rfl⟩
  exact ⟨rfl, n + m, by simp [World.drewN]; omega⟩
 ·rw [if_neg hr]
  have h := uscale_all (x : Int) (hi : Int) (lo : Int) (s : Int) A b c d (if decide ((b : Int) < c) then 1 else 0) (if decide (1 < IntKind.u64.wrap ((b : Int) - c)) then 1 else 0) (w.drewN n) (and_63 s hs) (by omega) (by omega) ⟨by omega, by omega⟩ ⟨by omega, by omega⟩ ⟨by omega, by omega⟩ ha hb hc hd (by
   rw [hw]
   exact bne_eq_false_iff_eq.2 (congrArg Int.ofNat (show A / 2 ^ s * 2 ^ s = A by omega))) rfl rfl
  rw [alloc_drewN] at h
  refine h.mono ?_
  rintro e w' ⟨rfl, m, rfl⟩
  refine ⟨?_, n + m, by simp [World.drewN]; omega⟩
  congr 2
  by_cases hbc : b < c
  ·rw [if_pos hbc, if_pos (by simp; omega)]
   have hA1 : 1 ≤ A := by
    rcases Nat.eq_zero_or_pos A with h | h
    ·exact absurd hbc (hle2 h)
    ·exact h
   have e1 : IntKind.u64.wrap ((b : Int) - c) = (b : Int) - c + 18446744073709551616 := by
    simp [IntKind.wrap, IntKind.bits, IntKind.signed]
    omega
   rw [e1, if_pos (by simp; omega), u64_small _ (by omega) (by omega), hq1 hA1, or_one _ (by omega)]
  ·rw [if_neg hbc, if_neg (by simp; omega), u64_small ((b : Int) - c) (by omega) (by omega), u64_small _ (by omega) (by omega), Int.sub_zero, hq]
   by_cases hb2 : c + 1 < b
   ·rw [if_pos hb2, if_pos (by simp; omega), or_one _ (by omega)]
   ·rw [if_neg hb2, if_neg (by simp; omega), or_zero _ (by omega)]
end Go.Proofs.YtfpcpociejefaaaGreatDoor
