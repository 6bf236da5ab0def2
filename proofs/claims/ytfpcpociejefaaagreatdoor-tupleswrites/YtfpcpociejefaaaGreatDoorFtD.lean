/- The library's shortFloat in one, for every float32 above 0: its contract. -/
import Derived.Test.YtfpcpociejefaaaGreatDoorNearW
import Derived.Test.YtfpcpociejefaaaGreatDoorSdT
import Derived.Test.YtfpcpociejefaaaGreatDoorFmF
import Derived.Test.YtfpcpociejefaaaGreatDoorTxA
import Derived.Test.YtfpcpociejefaaaGreatDoorNdG

namespace Go.Proofs.YtfpcpociejefaaaGreatDoor
open Go.RowKit Go.PlainAid
/-- the powers of ten from -31 to 45, as they are laid -/
def TabR (w : World) : Prop := ∀ j, j < 77 → w.cell? ⟨11, (317 + j) * 2, none⟩ = some (.int .u64 (hiR j : Int)) ∧ w.cell? ⟨11, (317 + j) * 2 + 1, none⟩ = some (.int .u64 (loR j : Int))
/-- how far a worth's whole number is brought up -/
def upF (n : Nat) : Nat := 63 - (atM n).log2
theorem smax_ok : ∀ n : Nat, n < 254 → 37 - ((n : Int) - 149) - lpR (jN ((n : Int) - 149)) ≤ 40 ∧ 37 - ((n : Int) - 149) - lpR (jS ((n : Int) - 149)) ≤ 40 := by
 decide +kernel
theorem smax (n : Nat) (h1 : 1 ≤ n) (h2 : n < 2139095040) : 37 - atE n - lpR (jF n) ≤ 40 := by
 obtain ⟨a1, a2, _⟩ := at_facts n h1 h2
 obtain ⟨k, hk⟩ : ∃ k : Nat, atE n = (k : Int) - 149 := ⟨(atE n + 149).toNat, by omega⟩
 have := smax_ok k (by omega)
 unfold jF
 rw [hk]
 split
 ·exact this.2
 ·exact this.1
theorem short_all (n : Nat) (h1 : 1 ≤ n) (h2 : n < 2139095040) (w : World) (hT : TabR w) :
  Calls Tryz.prog 186 #[.int .u64 ((atM n * 2 ^ upF n : Nat) : Int), .int .i64 (atE n - (upF n : Int))] w fun r w' => r = .returned (.tuple #[.int .u64 ((dF n : Nat) : Int), .int .i64 (pF n)]) ∧ ∃ (o : Obj) (k : Nat), w' = (w.alloc o).drewN k := by
 obtain ⟨a1, a2, a3, a4, a5, a6, a7, a8⟩ := at_facts n h1 h2
 obtain ⟨r1, r2⟩ := row_of n h1 h2
 have hj := r1.1
 obtain ⟨c0, c1⟩ := hT (jF n) hj
 have hlp := row_facts (jF n) hj
 have hsk : ∀ X t s : Nat, X < 67108867 → 38 ≤ t → X * 2 ^ t + 4 ≤ 18446744073709551616 → (s : Int) = (t : Int) - 1 - atE n - lpR (jF n) → uscN (X * 2 ^ t) (hiR (jF n)) (loR (jF n)) s = u4 n X := fun X t s hX ht hx hs => usc_any (atE n) (jF n) X s t hX ht hx hs r1
 have hb := u4_bounds n
 have hM4 : 4 * atM n + 2 < 67108867 := by omega
 have hlo : 2 ≤ xlo n ∧ xlo n ≤ 4 * atM n := by unfold xlo; split <;> omega
 have bl := hb (xlo n) h1 h2
 have bh := hb (4 * atM n + 2) h1 h2
 have bm := hb (4 * atM n) h1 h2
 have hs34 := r1.2.2.1
 by_cases hn : 8388608 ≤ n
 ·-- 2 to the power 23 or more
  have hM := a5 hn
  have hlog : (atM n).log2 = 23 := by
   have g1 : (atM n).log2 < 24 := (Nat.log2_lt (by omega)).2 (by omega)
   have g2 : 23 ≤ (atM n).log2 := (Nat.le_log2 (by omega)).2 (by omega)
   omega
  have hsF : upF n = 40 := by unfold upF; omega
  rw [hsF]
  obtain ⟨s, hs⟩ : ∃ s : Nat, (s : Int) = 37 - atE n - lpR (jF n) := ⟨(37 - atE n - lpR (jF n)).toNat, by omega⟩
  have hs64 : s < 64 := by
   have := (smax n h1 h2)
   omega
  have hul := hsk (xlo n) 38 s (by omega) (by omega) (by omega) (by omega)
  have huh := hsk (4 * atM n + 2) 38 s hM4 (by omega) (by omega) (by omega)
  have hum := hsk (4 * atM n) 38 s (by omega) (by omega) (by omega) (by omega)
  have p38 : (2 : Nat) ^ 38 = 274877906944 := by decide
  have p40 : (2 : Nat) ^ 40 = 1099511627776 := by decide
  rw [p38] at hul huh hum
  rw [p40]
  have huh2 : uscN (atM n * 1099511627776 + 549755813888) (hiR (jF n)) (loR (jF n)) s = u4 n (4 * atM n + 2) := by
   rw [show atM n * 1099511627776 + 549755813888 = (4 * atM n + 2) * 274877906944 by omega]; exact huh
  have hum2 : uscN (atM n * 1099511627776) (hiR (jF n)) (loR (jF n)) s = u4 n (4 * atM n) := by
   rw [show atM n * 1099511627776 = 4 * atM n * 274877906944 by omega]; exact hum
  unfold dF pF shN
  by_cases hs1 : skw n = true
  ·obtain ⟨hM2, hE2⟩ := a7 hs1
   have hx : xlo n = 4 * atM n - 1 := by unfold xlo; rw [if_pos hs1]
   have hjE : ((jF n : Nat) : Int) = 31 - (((atE n - 40 + 40) * 631305 - 261663) / 2097152) := by
    unfold jF jS; rw [if_pos hs1]; omega
   have hul2 : uscN (atM n * 1099511627776 - 274877906944) (hiR (jF n)) (loR (jF n)) s = u4 n (xlo n) := by
    rw [show atM n * 1099511627776 - 274877906944 = xlo n * 274877906944 by omega]; exact hul
   rw [show atM n % 2 = 0 by omega]
   refine (short_S0 (atM n * 1099511627776) (atM n) (atE n - 40) (jF n) s _ _ _ (by omega) (by omega) (by omega) (by omega) (by omega) ⟨by omega, by omega⟩ hjE hj (by omega) hs64 hul2 huh2 hum2 (by omega) (by omega) (by omega) w c0 c1).mono ?_
   rintro e w' ⟨he, k, hw⟩
   exact ⟨he, _, k, hw⟩
  ·have hs0 : skw n = false := by simpa using hs1
   have hx : xlo n = 4 * atM n - 2 := by unfold xlo; rw [if_neg hs1]
   have hjE : ((jF n : Nat) : Int) = 31 - ((atE n - 40 + 40) * 78913 / 262144) := by
    unfold jF jN; rw [if_neg hs1]; omega
   have hul2 : uscN (atM n * 1099511627776 - 549755813888) (hiR (jF n)) (loR (jF n)) s = u4 n (xlo n) := by
    rw [show atM n * 1099511627776 - 549755813888 = xlo n * 274877906944 by omega]; exact hul
   by_cases hM3 : atM n = 8388608
   ·have hE3 := a8 hs0 hn hM3
    rw [show atM n % 2 = 0 by omega]
    refine (short_L0 (atM n * 1099511627776) (atM n) (atE n - 40) (jF n) s _ _ _ (by omega) (by omega) (by omega) (by omega) (by omega) ⟨by omega, by omega⟩ hjE hj (by omega) hs64 hul2 huh2 hum2 (by omega) (by omega) (by omega) w c0 c1).mono ?_
    rintro e w' ⟨he, k, hw⟩
    exact ⟨he, _, k, hw⟩
   ·by_cases ho : atM n % 2 = 0
    ·rw [ho]
     refine (short_N0 (atM n * 1099511627776) (atM n) (atE n - 40) (jF n) s _ _ _ (by omega) (by omega) (by omega) (by omega) (by omega) (by omega) hjE hj (by omega) hs64 hul2 huh2 hum2 (by omega) (by omega) (by omega) w c0 c1).mono ?_
     rintro e w' ⟨he, k, hw⟩
     exact ⟨he, _, k, hw⟩
    ·have ho1 : atM n % 2 = 1 := by omega
     rw [ho1]
     refine (short_N1 (atM n * 1099511627776) (atM n) (atE n - 40) (jF n) s _ _ _ (by omega) (by omega) (by omega) (by omega) (by omega) (by omega) hjE hj (by omega) hs64 hul2 huh2 hum2 (by omega) (by omega) (by omega) w c0 c1).mono ?_
     rintro e w' ⟨he, k, hw⟩
     exact ⟨he, _, k, hw⟩
 ·-- below that
  obtain ⟨hMn, hEn⟩ := a6 (by omega)
  have hs0 : skw n = false := by
   unfold skw
   simp
   omega
  have hx : xlo n = 4 * atM n - 2 := by unfold xlo; rw [hs0]; rfl
  have hj76 : jF n = 76 := by
   unfold jF
   rw [hs0, hEn]
   decide
  have hl1 := Nat.log2_self_le (show atM n ≠ 0 by omega)
  have hl2 : atM n < 2 ^ ((atM n).log2 + 1) := Nat.lt_log2_self
  have hlog : (atM n).log2 < 23 := (Nat.log2_lt (by omega)).2 (by omega)
  obtain ⟨t, ht⟩ : ∃ t, t = upF n - 2 := ⟨_, rfl⟩
  have hz : upF n = t + 2 := by unfold upF at *; omega
  have hz41 : 41 ≤ upF n ∧ upF n ≤ 63 := by unfold upF; omega
  have hlt : (atM n).log2 + (t + 2) = 63 := by unfold upF at *; omega
  have e1 : 2 ^ (t + 2) = 4 * 2 ^ t := by rw [Nat.pow_add]; omega
  have e2 : 2 ^ (t + 2 - 1) = 2 * 2 ^ t := by rw [show t + 2 - 1 = t + 1 by omega, Nat.pow_succ]; omega
  have e3 : 2 ^ (atM n).log2 * 2 ^ (t + 2) = 9223372036854775808 := by
   rw [← Nat.pow_add, hlt]
  have e4 : 2 ^ ((atM n).log2 + 1) * 2 ^ (t + 2) = 18446744073709551616 := by
   rw [Nat.pow_succ, Nat.mul_right_comm, e3]
  have b1 : 9223372036854775808 ≤ atM n * 2 ^ (t + 2) := by
   rw [← e3]
   exact Nat.mul_le_mul_right _ hl1
  have b2 : (atM n + 1) * 2 ^ (t + 2) ≤ 18446744073709551616 := by
   rw [← e4]
   exact Nat.mul_le_mul_right _ hl2
  have b3 : 2 ^ 39 ≤ 2 ^ t := Nat.pow_le_pow_right (by decide) (by omega)
  have p39 : (2 : Nat) ^ 39 = 549755813888 := by decide
  rw [p39] at b3
  rw [Nat.add_mul, Nat.one_mul] at b2
  have hs : ((t - 1 : Nat) : Int) = (t : Int) - 1 - atE n - lpR (jF n) := by
   have : lpR 76 = 149 := by decide
   rw [hj76, this, hEn]
   omega
  have m1 : xlo n * 2 ^ t + 2 * 2 ^ t = atM n * 2 ^ (t + 2) := by
   rw [hx, e1, ← Nat.add_mul, show 4 * atM n - 2 + 2 = 4 * atM n by omega, Nat.mul_comm 4 (atM n), Nat.mul_assoc]
  have m2 : atM n * 2 ^ (t + 2) + 2 * 2 ^ t = (4 * atM n + 2) * 2 ^ t := by
   rw [e1, Nat.add_mul, Nat.mul_comm 4 (atM n), Nat.mul_assoc]
  have m3 : atM n * 2 ^ (t + 2) = 4 * atM n * 2 ^ t := by rw [e1, Nat.mul_comm 4 (atM n), Nat.mul_assoc]
  have hul := hsk (xlo n) t (t - 1) (by omega) (by omega) (by omega) hs
  have huh := hsk (4 * atM n + 2) t (t - 1) hM4 (by omega) (by omega) hs
  have hum := hsk (4 * atM n) t (t - 1) (by omega) (by omega) (by omega) hs
  rw [← m2] at huh
  rw [← m3] at hum
  rw [hj76] at hul huh hum c0 c1
  rw [hz]
  unfold dF pF shN
  rw [hj76]
  have hdiv : atM n * 2 ^ (t + 2) / 2 ^ (t + 2) = atM n := Nat.mul_div_cancel _ (Nat.two_pow_pos _)
  rw [hz] at hz41
  have he : atE n - ((t + 2 : Nat) : Int) = -149 - ((t + 2 : Nat) : Int) := by omega
  rw [he]
  have hpost : (31 : Int) - ((76 : Nat) : Int) = -45 := by decide
  rw [hpost]
  by_cases ho : atM n % 2 = 0
  ·rw [ho]
   by_cases hm : atM n * 2 ^ (t + 2) = 9223372036854775808
   ·refine (short_V0 (atM n * 2 ^ (t + 2)) (atM n) (t + 2) (xlo n * 2 ^ t) (atM n * 2 ^ (t + 2) + 2 * 2 ^ t) (-149 - ((t + 2 : Nat) : Int)) (t - 1) _ _ _ hz41 rfl hm (by omega) (by omega) (by omega) hdiv ho (by omega) (by omega) (by omega) hul huh hum (by omega) (by omega) (by omega) w c0 c1).mono ?_
    rintro e w' ⟨he, k, hw⟩
    exact ⟨he, _, k, hw⟩
   ·refine (short_U0 (atM n * 2 ^ (t + 2)) (atM n) (t + 2) (xlo n * 2 ^ t) (atM n * 2 ^ (t + 2) + 2 * 2 ^ t) (-149 - ((t + 2 : Nat) : Int)) (t - 1) _ _ _ hz41 rfl hm (by omega) (by omega) (by omega) hdiv ho (by omega) (by omega) (by omega) hul huh hum (by omega) (by omega) (by omega) w c0 c1).mono ?_
    rintro e w' ⟨he, k, hw⟩
    exact ⟨he, _, k, hw⟩
  ·have ho1 : atM n % 2 = 1 := by omega
   rw [ho1]
   by_cases hm : atM n * 2 ^ (t + 2) = 9223372036854775808
   ·refine (short_V1 (atM n * 2 ^ (t + 2)) (atM n) (t + 2) (xlo n * 2 ^ t) (atM n * 2 ^ (t + 2) + 2 * 2 ^ t) (-149 - ((t + 2 : Nat) : Int)) (t - 1) _ _ _ hz41 rfl hm (by omega) (by omega) (by omega) hdiv ho1 (by omega) (by omega) (by omega) hul huh hum (by omega) (by omega) (by omega) w c0 c1).mono ?_
    rintro e w' ⟨he, k, hw⟩
    exact ⟨he, _, k, hw⟩
   ·refine (short_U1 (atM n * 2 ^ (t + 2)) (atM n) (t + 2) (xlo n * 2 ^ t) (atM n * 2 ^ (t + 2) + 2 * 2 ^ t) (-149 - ((t + 2 : Nat) : Int)) (t - 1) _ _ _ hz41 rfl hm (by omega) (by omega) (by omega) hdiv ho1 (by omega) (by omega) (by omega) hul huh hum (by omega) (by omega) (by omega) w c0 c1).mono ?_
    rintro e w' ⟨he, k, hw⟩
    exact ⟨he, _, k, hw⟩
end Go.Proofs.YtfpcpociejefaaaGreatDoor

/- The library's setDigits and fmtEFG, each in one. -/
namespace Go.Proofs.YtfpcpociejefaaaGreatDoor
open Go.RowKit Go.PlainAid
theorem setDigits_tz (b nd tz u : Nat) (p : Int) (w : World) (htz : tz < nd) (ht : tz < 10) (hn2 : nd ≤ 32) (hu : u < 10 ^ nd) (hu64 : u < 18446744073709551616) (hz : ∀ i, i < tz → u / 10 ^ i % 10 = 0) (h10 : u / 10 ^ tz % 10 ≠ 0) (hp1 : -1000 ≤ p) (hp2 : p ≤ 1000)
  (hZ : ∀ j, j < 32 → w.cell? ⟨b, j, none⟩ = some (.int .u8 0) ∧ w.frozen? ⟨b, j, none⟩ = false) :
  Calls Tryz.prog 187 #[.slice (some ⟨b, 0, none⟩) 32 32, .int .u64 (u : Nat), .int .i64 p, .int .i64 (nd : Nat)] w fun e w' =>
   e = .returned (.tuple #[.int .i64 ((nd : Int) + p), .int .i64 ((nd - tz : Nat) : Int)]) ∧ Keep [b] w w' ∧ (∀ j, j < nd → w'.cell? ⟨b, j, none⟩ = some (.int .u8 ((Lib.dg u (nd - 1 - j)).toNat : Int))) ∧ (∀ j, nd ≤ j → j < 32 → w'.cell? ⟨b, j, none⟩ = some (.int .u8 0)) := by
 obtain ⟨m, rfl⟩ : ∃ m, nd = m + tz + 1 := ⟨nd - tz - 1, by omega⟩
 rw [show m + tz + 1 - tz = m + 1 by omega, show ((m + 1 : Nat) : Int) = (m : Int) + 1 by omega]
 match tz, ht with
 | 0, _ =>
  have h := setDigits_0 b m u p w hn2 hu hu64 hz h10 hp1 hp2 hZ
  rw [show ((m + 0 + 1 : Nat) : Int) = (m : Int) + 0 + 1 by omega]
  exact h
 | 1, _ =>
  have h := setDigits_1 b m u p w hn2 hu hu64 hz h10 hp1 hp2 hZ
  rw [show ((m + 1 + 1 : Nat) : Int) = (m : Int) + 1 + 1 by omega]
  exact h
 | 2, _ =>
  have h := setDigits_2 b m u p w hn2 hu hu64 hz h10 hp1 hp2 hZ
  rw [show ((m + 2 + 1 : Nat) : Int) = (m : Int) + 2 + 1 by omega]
  exact h
 | 3, _ =>
  have h := setDigits_3 b m u p w hn2 hu hu64 hz h10 hp1 hp2 hZ
  rw [show ((m + 3 + 1 : Nat) : Int) = (m : Int) + 3 + 1 by omega]
  exact h
 | 4, _ =>
  have h := setDigits_4 b m u p w hn2 hu hu64 hz h10 hp1 hp2 hZ
  rw [show ((m + 4 + 1 : Nat) : Int) = (m : Int) + 4 + 1 by omega]
  exact h
 | 5, _ =>
  have h := setDigits_5 b m u p w hn2 hu hu64 hz h10 hp1 hp2 hZ
  rw [show ((m + 5 + 1 : Nat) : Int) = (m : Int) + 5 + 1 by omega]
  exact h
 | 6, _ =>
  have h := setDigits_6 b m u p w hn2 hu hu64 hz h10 hp1 hp2 hZ
  rw [show ((m + 6 + 1 : Nat) : Int) = (m : Int) + 6 + 1 by omega]
  exact h
 | 7, _ =>
  have h := setDigits_7 b m u p w hn2 hu hu64 hz h10 hp1 hp2 hZ
  rw [show ((m + 7 + 1 : Nat) : Int) = (m : Int) + 7 + 1 by omega]
  exact h
 | 8, _ =>
  have h := setDigits_8 b m u p w hn2 hu hu64 hz h10 hp1 hp2 hZ
  rw [show ((m + 8 + 1 : Nat) : Int) = (m : Int) + 8 + 1 by omega]
  exact h
 | 9, _ =>
  have h := setDigits_9 b m u p w hn2 hu hu64 hz h10 hp1 hp2 hZ
  rw [show ((m + 9 + 1 : Nat) : Int) = (m : Int) + 9 + 1 by omega]
  exact h
/-- an exponent's bytes -/
def expB (E : Int) : List UInt8 := (if E < 0 then 45 else 43) :: (if E.natAbs < 10 then [48, UInt8.ofNat (48 + E.natAbs)] else [UInt8.ofNat (48 + E.natAbs / 10), UInt8.ofNat (48 + E.natAbs % 10)])
/-- the bytes of the digits behind the first one -/
def fracB (D : List UInt8) (nd : Nat) : List UInt8 := if nd = 1 then [] else 46 :: (D.take nd).drop 1
theorem fmtE_all (w0 w : World) (v : Value) (l : List UInt8) (b cap : Nat) (D : List UInt8) (nd : Nat) (E : Int) (hF : Fm w0 w v l b cap D) (hl : l.length ≤ 1000) (hD : D.length ≤ 1000) (hn1 : 1 ≤ nd) (hn2 : nd ≤ D.length) (hc : cap ≤ 1000) (hE : -100 < E ∧ E < 100) :
  Calls Tryz.prog 185 #[v, .bool false, .slice (some ⟨b, 0, none⟩) D.length cap, .int .i64 (E + 1), .int .i64 nd, .int .i64 ((nd - 1 : Nat) : Int), .int .u8 101, .bool true] w fun e w' =>
   ∃ v', e = .returned v' ∧ Fm w0 w' v' (l ++ [D.getD 0 0] ++ fracB D nd ++ [101] ++ expB E) b cap D := by
 by_cases h1 : nd = 1
 ·subst h1
  unfold fracB
  rw [if_pos rfl, List.append_nil]
  show Calls Tryz.prog 185 #[v, .bool false, .slice (some ⟨b, 0, none⟩) D.length cap, .int .i64 (E + 1), .int .i64 1, .int .i64 0, .int .u8 101, .bool true] w _
  by_cases hn : E < 0
  ·obtain ⟨x, rfl⟩ : ∃ x : Nat, E = -(x : Int) := ⟨E.natAbs, by omega⟩
   rw [show -(x : Int) + 1 = 1 - (x : Int) by omega]
   unfold expB
   rw [if_pos hn, Int.natAbs_neg, Int.natAbs_natCast]
   by_cases h : x < 10
   ·rw [if_pos h]
    refine (fmtE_ino w0 w v l b cap D x hF hl hD hn2 (by omega)).mono ?_
    rintro e w' ⟨v', he, h2⟩
    exact ⟨v', he, by simpa using h2⟩
   ·rw [if_neg h]
    refine (fmtE_int w0 w v l b cap D x hF hl hD hn2 (by omega)).mono ?_
    rintro e w' ⟨v', he, h2⟩
    exact ⟨v', he, by simpa using h2⟩
  ·obtain ⟨x, rfl⟩ : ∃ x : Nat, E = (x : Int) := ⟨E.natAbs, by omega⟩
   unfold expB
   rw [if_neg hn, Int.natAbs_natCast]
   by_cases h : x < 10
   ·rw [if_pos h]
    refine (fmtE_ipo w0 w v l b cap D x hF hl hD hn2 (by omega)).mono ?_
    rintro e w' ⟨v', he, h2⟩
    exact ⟨v', he, by simpa using h2⟩
   ·rw [if_neg h]
    refine (fmtE_ipt w0 w v l b cap D x hF hl hD hn2 (by omega)).mono ?_
    rintro e w' ⟨v', he, h2⟩
    exact ⟨v', he, by simpa using h2⟩
 ·unfold fracB
  rw [if_neg h1, show ((nd - 1 : Nat) : Int) = (nd : Int) - 1 by omega]
  by_cases hn : E < 0
  ·obtain ⟨x, rfl⟩ : ∃ x : Nat, E = -(x : Int) := ⟨E.natAbs, by omega⟩
   rw [show -(x : Int) + 1 = 1 - (x : Int) by omega]
   unfold expB
   rw [if_pos hn, Int.natAbs_neg, Int.natAbs_natCast]
   by_cases h : x < 10
   ·rw [if_pos h]
    refine (fmtE_fno w0 w v l b cap D nd x hF hl hD (by omega) hn2 hc (by omega)).mono ?_
    rintro e w' ⟨v', he, h2⟩
    exact ⟨v', he, by simpa using h2⟩
   ·rw [if_neg h]
    refine (fmtE_fnt w0 w v l b cap D nd x hF hl hD (by omega) hn2 hc (by omega)).mono ?_
    rintro e w' ⟨v', he, h2⟩
    exact ⟨v', he, by simpa using h2⟩
  ·obtain ⟨x, rfl⟩ : ∃ x : Nat, E = (x : Int) := ⟨E.natAbs, by omega⟩
   unfold expB
   rw [if_neg hn, Int.natAbs_natCast]
   by_cases h : x < 10
   ·rw [if_pos h]
    refine (fmtE_fpo w0 w v l b cap D nd x hF hl hD (by omega) hn2 hc (by omega)).mono ?_
    rintro e w' ⟨v', he, h2⟩
    exact ⟨v', he, by simpa using h2⟩
   ·rw [if_neg h]
    refine (fmtE_fpt w0 w v l b cap D nd x hF hl hD (by omega) hn2 hc (by omega)).mono ?_
    rintro e w' ⟨v', he, h2⟩
    exact ⟨v', he, by simpa using h2⟩
end Go.Proofs.YtfpcpociejefaaaGreatDoor

/- The library's ftoa32 in the form e: what it stands on, for every float32 above 0. -/
namespace Go.Proofs.YtfpcpociejefaaaGreatDoor
open Go.RowKit Go.PlainAid
theorem and255 : ∀ v, v < 256 → bits .and .i64 ((v : Nat) : Int) 255 = ((v : Nat) : Int) := by decide +kernel
theorem and23 (n : Nat) (h : n < 18446744073709551616) : bits .and .u64 (n : Int) 8388607 = ((n % 8388608 : Nat) : Int) := by
 have := u64_and_nat n 8388607 h (by decide)
 rw [show (8388607 : Nat) = 2 ^ 23 - 1 by decide, Nat.and_two_pow_sub_one_eq_mod] at this
 exact this
theorem or23 (r : Nat) (h : r < 8388608) : bits .or .u64 ((r : Nat) : Int) 8388608 = ((8388608 + r : Nat) : Int) := by
 have h1 := u64_or_nat r 8388608 (by omega) (by decide)
 have h2 := Nat.two_pow_add_eq_or_of_lt (i := 23) (b := r) (by omega) 1
 rw [Nat.or_comm, show (8388608 : Nat) = 2 ^ 23 * 1 by decide, ← h2] at h1
 exact h1
/-- how many noughts a number ends in -/
def tzR : Nat → Nat → Nat
 | 0, _ => 0
 | k + 1, d => if d % 10 = 0 then tzR k (d / 10) + 1 else 0
theorem tzR_ok : ∀ k d, 1 ≤ d → d < 10 ^ (k + 1) → tzR k d ≤ k ∧ (∀ i, i < tzR k d → d / 10 ^ i % 10 = 0) ∧ d / 10 ^ tzR k d % 10 ≠ 0
 | 0, d, h1, h2 => ⟨Nat.le_refl _, fun i hi => absurd hi (Nat.not_lt_zero _), by show d / 10 ^ 0 % 10 ≠ 0; rw [Nat.pow_zero, Nat.div_one]; omega⟩
 | k + 1, d, h1, h2 => by
  unfold tzR
  by_cases h : d % 10 = 0
  ·rw [if_pos h]
   rw [Nat.pow_succ] at h2
   obtain ⟨g1, g2, g3⟩ := tzR_ok k (d / 10) (by omega) (by omega)
   refine ⟨by omega, fun i hi => ?_, ?_⟩
   ·match i with
    | 0 => rw [Nat.pow_zero, Nat.div_one]; exact h
    | i + 1 =>
     have := g2 i (by omega)
     rw [Nat.div_div_eq_div_mul] at this
     rw [Nat.pow_succ, Nat.mul_comm]
     exact this
   ·rw [Nat.div_div_eq_div_mul] at g3
    rw [Nat.pow_succ, Nat.mul_comm]
    exact g3
  ·rw [if_neg h]
   exact ⟨by omega, fun i hi => absurd hi (Nat.not_lt_zero _), by rw [Nat.pow_zero, Nat.div_one]; exact h⟩
def tzN (d : Nat) : Nat := tzR (ndN d - 1) d
theorem tzN_ok (d : Nat) (h0 : 1 ≤ d) (h1 : d < 1073741824) : tzN d < ndN d ∧ tzN d < 10 ∧ (∀ i, i < tzN d → d / 10 ^ i % 10 = 0) ∧ d / 10 ^ tzN d % 10 ≠ 0 := by
 obtain ⟨a1, a2, a3, a4⟩ := ndN_ok d h0 h1
 obtain ⟨b1, b2, b3⟩ := tzR_ok (ndN d - 1) d h0 (by rw [show ndN d - 1 + 1 = ndN d by omega]; exact a4)
 unfold tzN
 exact ⟨by omega, by omega, b2, b3⟩
theorem dF_bounds (n : Nat) (h1 : 1 ≤ n) (h2 : n < 2139095040) : 1 ≤ dF n ∧ dF n < 1073741824 := by
 obtain ⟨a1, a2, a3, a4, _⟩ := at_facts n h1 h2
 have hlo : 2 ≤ xlo n ∧ xlo n ≤ 4 * atM n := by unfold xlo; split <;> omega
 have bl := u4_bounds n (xlo n) h1 h2
 have bh := u4_bounds n (4 * atM n + 2) h1 h2
 have bm := u4_bounds n (4 * atM n) h1 h2
 unfold dF shN
 have ho : atM n % 2 < 2 := by omega
 generalize u4 n (xlo n) = ul at *
 generalize u4 n (4 * atM n + 2) = uh at *
 generalize u4 n (4 * atM n) = um at *
 generalize atM n % 2 = o at *
 unfold shD
 split
 ·dsimp only; omega
 ·split
  ·unfold rndU; dsimp only; omega
  ·dsimp only; omega
theorem pF_bounds (n : Nat) (h1 : 1 ≤ n) (h2 : n < 2139095040) : -60 ≤ pF n ∧ pF n ≤ 60 := by
 have := (row_of n h1 h2).1.1
 unfold pF
 have : (shN n).2 ≤ 1 := by
  unfold shN shD
  split
  ·exact Nat.le_refl _
  ·split <;> exact Nat.zero_le _
 omega
/-- the digits as they stand in the buffer -/
def digD (n : Nat) : List UInt8 := (List.range 32).map fun j => if j < ndN (dF n) then Lib.dg (dF n) (ndN (dF n) - 1 - j) else 0
/-- how many of them are told, the power of ten of the first one, and what is written -/
def ndF (n : Nat) : Nat := ndN (dF n) - tzN (dF n)
def exF (n : Nat) : Int := (ndN (dF n) : Int) + pF n - 1
def txtE (n : Nat) : List UInt8 := [(digD n).getD 0 0] ++ fracB (digD n) (ndF n) ++ [101] ++ expB (exF n)
theorem digD_len (n : Nat) : (digD n).length = 32 := by simp [digD]
theorem after_short2 (w0 w w2 : World) (v : Value) (nq k : Nat) (o : Obj) (hrow : Row w v []) (hk : Keep [] w0 w) (hf : Fresh w0 w v) (hU : TabU w) (e : w2 = (((w.drewN nq).alloc (.cells zeros32 172)).alloc o).drewN k) :
  Row w2 v [] ∧ Keep [] w0 w2 ∧ Fresh w0 w2 v ∧ TabU w2 ∧ (∀ j, j < 32 → w2.cell? ⟨w.heap.size, j, none⟩ = some (.int .u8 0) ∧ w2.frozen? ⟨w.heap.size, j, none⟩ = false) ∧ w.heap.size < w2.heap.size ∧ w.heap.size ∉ v.ownBlock.toList := by
 have hK : Keep [] w w2 := by
  rw [e]
  exact (((Keep.refl [] w).drewN nq).alloc _ |>.alloc _).drewN k
 have hs : w.heap.size < w2.heap.size := by
  rw [e]
  show w.heap.size < (((w.drewN nq).alloc (.cells zeros32 172)).alloc o).heap.size
  simp [World.drewN]
  omega
 refine ⟨hrow.keep hK (Off.nil _), hk.more hK (fun _ h => by cases h), hf.later hK.size, fun j hj => hK.cell' (hU j hj) (by simp), ?_, hs, ?_⟩
 ·intro j hj
  have hz := zeros_new (w.drewN nq) 172 j hj
  have hK2 : Keep [] ((w.drewN nq).alloc (.cells zeros32 172)) w2 := by
   rw [e]; exact ((Keep.refl [] _).alloc _).drewN k
  have hlt : w.heap.size < ((w.drewN nq).alloc (.cells zeros32 172)).heap.size := by simp [World.drewN]
  exact ⟨(hK2.cell (p := ⟨w.heap.size, j, none⟩) hlt (by simp)).trans hz.1, (hK2.frozen (p := ⟨w.heap.size, j, none⟩) hlt (by simp)).trans hz.2⟩
 ·intro hm
  simp at hm
  have := hrow.lt _ hm
  omega
theorem after_set2 (n : Nat) (w0 w2 w3 : World) (v : Value) (b : Nat) (hrow : Row w2 v []) (hk : Keep [] w0 w2) (hf : Fresh w0 w2 v) (hb0 : w0.heap.size ≤ b) (hoff : b ∉ v.ownBlock.toList) (h1 : Keep [b] w2 w3)
  (h2 : ∀ j, j < ndN (dF n) → w3.cell? ⟨b, j, none⟩ = some (.int .u8 ((Lib.dg (dF n) (ndN (dF n) - 1 - j)).toNat : Int))) (h3 : ∀ j, ndN (dF n) ≤ j → j < 32 → w3.cell? ⟨b, j, none⟩ = some (.int .u8 0)) : Fm w0 w3 v [] b 32 (digD n) := by
 have hlen := digD_len n
 have hne : digD n ≠ [] := fun h => by rw [h] at hlen; cases hlen
 refine ⟨hrow.keep h1 (fun k hk hn => ?_), ⟨some ⟨b, 0, none⟩, 32, by rw [hlen], by rw [hlen]; decide, by decide, (by intro h; cases h), fun _ => ⟨b, 0, rfl, fun j hj => ?_⟩⟩, hne, hoff, hk.more h1 (fun x hx => .inr ?_), hf.later h1.size⟩
 ·simp at hn; subst hn; exact hoff (by simp [hk])
 ·rw [Nat.zero_add]
  rw [hlen] at hj
  have hg : (digD n).getD j 0 = if j < ndN (dF n) then Lib.dg (dF n) (ndN (dF n) - 1 - j) else 0 := by
   unfold digD
   rw [List.getD_eq_getElem?_getD, List.getElem?_map, List.getElem?_range hj]
   rfl
  rw [hg]
  by_cases h8 : j < ndN (dF n)
  ·rw [h2 j h8, if_pos h8]
  ·rw [h3 j (by omega) hj, if_neg h8]
   rfl
 ·simp at hx; subst hx; exact hb0
end Go.Proofs.YtfpcpociejefaaaGreatDoor

/- The library's ftoa32 in the form e, for every float32 above 0. -/
namespace Go.Proofs.YtfpcpociejefaaaGreatDoor
open Go.RowKit Go.PlainAid
theorem TabR.keep {W W2 : World} (h : TabR W) (k : Keep [] W W2) : TabR W2 := fun j hj => ⟨k.cell' (h j hj).1 (by simp), k.cell' (h j hj).2 (by simp)⟩
theorem setDigits_n (n b : Nat) (w : World) (hD : (1 ≤ dF n ∧ dF n < 1073741824) ∧ (tzN (dF n) < ndN (dF n) ∧ tzN (dF n) < 10 ∧ (∀ i, i < tzN (dF n) → dF n / 10 ^ i % 10 = 0) ∧ dF n / 10 ^ tzN (dF n) % 10 ≠ 0) ∧ (1 ≤ ndN (dF n) ∧ ndN (dF n) ≤ 10 ∧ dF n < 10 ^ ndN (dF n)) ∧ -60 ≤ pF n ∧ pF n ≤ 60)
  (hZ : ∀ j, j < 32 → w.cell? ⟨b, j, none⟩ = some (.int .u8 0) ∧ w.frozen? ⟨b, j, none⟩ = false) :
  Calls Tryz.prog 187 #[.slice (some ⟨b, 0, none⟩) 32 32, .int .u64 (dF n : Nat), .int .i64 (pF n), .int .i64 (ndN (dF n) : Nat)] w fun e w' =>
   e = .returned (.tuple #[.int .i64 (exF n + 1), .int .i64 ((ndF n : Nat) : Int)]) ∧ Keep [b] w w' ∧ (∀ j, j < ndN (dF n) → w'.cell? ⟨b, j, none⟩ = some (.int .u8 ((Lib.dg (dF n) (ndN (dF n) - 1 - j)).toNat : Int))) ∧ (∀ j, ndN (dF n) ≤ j → j < 32 → w'.cell? ⟨b, j, none⟩ = some (.int .u8 0)) := by
 have h := setDigits_tz b (ndN (dF n)) (tzN (dF n)) (dF n) (pF n) w hD.2.1.1 hD.2.1.2.1 (by omega) hD.2.2.1.2.2 (by omega) hD.2.1.2.2.1 hD.2.1.2.2.2 (by omega) (by omega) hZ
 rw [show exF n + 1 = (ndN (dF n) : Int) + pF n by unfold exF; omega]
 exact h
theorem fmtE_n (n b : Nat) (w0 w : World) (v : Value) (hF : Fm w0 w v [] b 32 (digD n)) (h1 : 1 ≤ ndF n ∧ ndF n ≤ 10) (hE : -100 < exF n ∧ exF n < 100) :
  Calls Tryz.prog 185 #[v, .bool false, .slice (some ⟨b, 0, none⟩) 32 32, .int .i64 (exF n + 1), .int .i64 (ndF n : Nat), .int .i64 ((ndF n : Int) - 1), .int .u8 101, .bool true] w fun e w' =>
   ∃ v', e = .returned v' ∧ Fm w0 w' v' (txtE n) b 32 (digD n) := by
 have h := fmtE_all w0 w v [] b 32 (digD n) (ndF n) (exF n) hF (by decide) (by rw [digD_len]; decide) h1.1 (by rw [digD_len]; omega) (by decide) hE
 rw [digD_len, show ((ndF n - 1 : Nat) : Int) = (ndF n : Int) - 1 by omega] at h
 exact h
set_option maxRecDepth 1000000 in
set_option maxHeartbeats 4000000 in
theorem ftoa32_nrm (n : Nat) (h1 : 1 ≤ n) (h2 : n < 2139095040) (hn : 8388608 ≤ n) (w0 w : World) (v : Value) (hT : TabR w) (hU : TabU w) (hrow : Row w v []) (hk : Keep [] w0 w) (hf : Fresh w0 w v) :
  Calls Tryz.prog 164 #[v, .float .f32 n, .int .u8 101, .int .i64 (-1)] w fun e w' => ∃ v', e = .returned v' ∧ Row w' v' (txtE n) ∧ Keep [] w0 w' := by
 have hb := run_sbits n
 obtain ⟨a1, a2, a3, a4, _⟩ := at_facts n h1 h2
 obtain ⟨d1, d2⟩ := dF_bounds n h1 h2
 obtain ⟨t1, t2, t3, t4⟩ := tzN_ok (dF n) d1 d2
 obtain ⟨m1, m2, m3, m4⟩ := ndN_ok (dF n) d1 d2
 have hp := pF_bounds n h1 h2
 have hE : atE n = ((n / 8388608 : Nat) : Int) - 150 := by unfold atE; rw [if_neg (by omega)]
 have hM : atM n = 8388608 + n % 8388608 := by unfold atM; rw [if_neg (by omega)]
 obtain ⟨q, hq⟩ : ∃ q : Int, q = ((n / 8388608 : Nat) : Int) := ⟨_, rfl⟩
 obtain ⟨rr, hrr⟩ : ∃ r : Int, r = ((n % 8388608 : Nat) : Int) := ⟨_, rfl⟩
 have f1 : (n : Int) / 8388608 = q := by omega
 have f5 : bits .and .i64 q 255 = q := by rw [hq]; exact and255 _ (by omega)
 have f2 : bits .and .u64 (n : Int) 8388607 = rr := by rw [hrr]; exact and23 n (by omega)
 have f6 : bits .or .u64 rr 8388608 = ((atM n : Nat) : Int) := by rw [hrr, or23 _ (by omega), hM]
 have f8 : (q == 255) = false := by simp; omega
 have f9 : (q == 0) = false := by simp; omega
 have hqb : 1 ≤ q ∧ q ≤ 254 := by omega
 have f3 : (((atM n : Nat) : Int) == 0) = false := by simp; omega
 have f0 : (n : Int) / 2147483648 = 0 := by omega
 have hsl : upF n ≤ 63 := by unfold upF; omega
 have hl1 := Nat.log2_self_le (show atM n ≠ 0 by omega)
 have hl2 : atM n < 2 ^ ((atM n).log2 + 1) := Nat.lt_log2_self
 have hlog : (atM n).log2 < 24 := (Nat.log2_lt (by omega)).2 (by omega)
 have hlen : (Lib.bitLen ((atM n : Nat) : Int).toNat : Int) = 64 - ((upF n : Nat) : Int) := by
  rw [Int.toNat_natCast, bitLen_log (atM n) (by omega) (by omega)]
  unfold upF
  omega
 have hL := len64_at ((atM n : Nat) : Int) (by omega) (by omega) _ hlen
 have hmul : atM n * 2 ^ upF n < 18446744073709551616 := by
  have e1 : 2 ^ ((atM n).log2 + 1) * 2 ^ upF n = 18446744073709551616 := by
   rw [← Nat.pow_add, show (atM n).log2 + 1 + upF n = 64 by unfold upF; omega]
  rw [← e1]
  exact Nat.mul_lt_mul_of_pos_right hl2 (Nat.two_pow_pos _)
 obtain ⟨mm, hmm⟩ : ∃ x : Int, x = ((atM n * 2 ^ upF n : Nat) : Int) := ⟨_, rfl⟩
 have f10 : IntKind.u64.wrap (((atM n : Nat) : Int) * 2 ^ upF n) = mm := by
  rw [hmm]
  have e2 : ((atM n : Nat) : Int) * 2 ^ upF n = ((atM n * 2 ^ upF n : Nat) : Int) := by
   skip
   norm_cast
  rw [e2]
  exact u64_small _ (by omega) (by omega)
 have f11 : (64 : Int) - (64 - ((upF n : Nat) : Int)) = ((upF n : Nat) : Int) := by omega
 have hsi : (0 : Int) ≤ ((upF n : Nat) : Int) ∧ ((upF n : Nat) : Int) ≤ 63 := by omega
 have HR : Hid (Row w v [] ∧ Keep [] w0 w ∧ Fresh w0 w v) := ⟨hrow, hk, hf⟩
 have HT : Hid (TabR w ∧ TabU w) := ⟨hT, hU⟩
 have HS : Hid (∀ w, TabR w → Calls Tryz.prog 186 #[.int .u64 mm, .int .i64 (atE n - (upF n : Int))] w fun r w' => r = .returned (.tuple #[.int .u64 ((dF n : Nat) : Int), .int .i64 (pF n)]) ∧ ∃ (o : Obj) (k : Nat), w' = (w.alloc o).drewN k) := fun w hT => by
  rw [hmm]
  exact short_all n h1 h2 w hT
 have hEs : q + -127 - ((upF n : Nat) : Int) - 23 = atE n - ((upF n : Nat) : Int) := by rw [hE]; omega
 have HE : Hid (q + -127 - ((upF n : Nat) : Int) - 23 = atE n - ((upF n : Nat) : Int)) := hEs
 have HD : Hid ((1 ≤ dF n ∧ dF n < 1073741824) ∧ (tzN (dF n) < ndN (dF n) ∧ tzN (dF n) < 10 ∧ (∀ i, i < tzN (dF n) → dF n / 10 ^ i % 10 = 0) ∧ dF n / 10 ^ tzN (dF n) % 10 ≠ 0) ∧ (1 ≤ ndN (dF n) ∧ ndN (dF n) ≤ 10 ∧ dF n < 10 ^ ndN (dF n)) ∧ -60 ≤ pF n ∧ pF n ≤ 60) := ⟨⟨d1, d2⟩, ⟨t1, t2, t3, t4⟩, ⟨m1, m2, m4⟩, hp⟩
 clear hrow hk hf hT hU h1 h2 a1 a2 a3 a4 d1 d2 t1 t2 t3 t4 m1 m2 m3 m4 hp hl1 hl2 hlog hlen hmul hE hM hsl hn hEs hmm hq hrr
 go_enter Tryz.func164, Tryz.ntmps164
 go_wp2
 go_quiet (fail)
 go_wp2_with (first
  | (go_at_call 130; refine (hL _).mono ?_; rintro e9 w9 ⟨rfl, hw9⟩; obtain rfl := hw9.symm))
 rw [HE.out]
 refine (HS.out _ (HT.out.1.keep (((Keep.refl [] w).drewN nq).alloc _))).mono ?_
 rintro e9 w2 ⟨rfl, o9, k9, hw2⟩
 have HW : Hid _ := after_short2 w0 w w2 v nq k9 o9 HR.out.1 HR.out.2.1 HR.out.2.2 HT.out.2 hw2
 clear hw2
 go_wp2_with fail
 go_region_held3 (fun _ => True) (exact trivial)
  (first
  | (go_at_call 112; refine (numDigits_any (dF n) HD.out.1.1 HD.out.1.2 w2.drew HW.out.2.2.2.1).mono ?_; rintro e9 w9 ⟨rfl, hw9⟩; obtain rfl := hw9.symm)
  | (go_at_call 187; refine (setDigits_n n w.heap.size w2.drew HD.out HW.out.2.2.2.2.1).mono ?_; rintro e9 w3 ⟨rfl, g1, g2, g3⟩; have HX : Hid _ := after_set2 n w0 w2 w3 v w.heap.size HW.out.1 HW.out.2.1 HW.out.2.2.1 HR.out.2.1.size HW.out.2.2.2.2.2.2 ⟨g1.os, g1.tape, g1.output, g1.size, g1.block⟩ g2 g3; clear g1 g2 g3))
 have hz1 : 1 ≤ ((ndF n : Nat) : Int) ∧ ((ndF n : Nat) : Int) ≤ 10 := by
  have := HD.out.2.1.1
  have := HD.out.2.2.1.2.1
  unfold ndF
  omega
 have HZ : Hid (1 ≤ ndF n ∧ ndF n ≤ 10) := ⟨by omega, by omega⟩
 have HEX : Hid (-100 < exF n ∧ exF n < 100) := by
  have h1 := HD.out.2.2.1
  have h2 := HD.out.2.2.2
  show -100 < exF n ∧ exF n < 100
  unfold exF
  omega
 go_wp2_with fail
 rw [show max (((ndF n : Nat) : Int) - 1) 0 = ((ndF n : Nat) : Int) - 1 by omega]
 refine (fmtE_n n w.heap.size w0 w3 v HX.out HZ.out HEX.out).mono ?_
 rintro e9 w4 ⟨v4, rfl, hF4⟩
 have HY : Hid _ := hF4
 clear hF4
 go_wp2_with fail
 go_ret
 exact ⟨_, rfl, HY.out.row, HY.out.keep⟩
set_option maxRecDepth 1000000 in
set_option maxHeartbeats 4000000 in
theorem ftoa32_sub (n : Nat) (h1 : 1 ≤ n) (h2 : n < 2139095040) (hn : n < 8388608) (w0 w : World) (v : Value) (hT : TabR w) (hU : TabU w) (hrow : Row w v []) (hk : Keep [] w0 w) (hf : Fresh w0 w v) :
  Calls Tryz.prog 164 #[v, .float .f32 n, .int .u8 101, .int .i64 (-1)] w fun e w' => ∃ v', e = .returned v' ∧ Row w' v' (txtE n) ∧ Keep [] w0 w' := by
 have hb := run_sbits n
 obtain ⟨a1, a2, a3, a4, _⟩ := at_facts n h1 h2
 obtain ⟨d1, d2⟩ := dF_bounds n h1 h2
 obtain ⟨t1, t2, t3, t4⟩ := tzN_ok (dF n) d1 d2
 obtain ⟨m1, m2, m3, m4⟩ := ndN_ok (dF n) d1 d2
 have hp := pF_bounds n h1 h2
 have hE : atE n = -149 := ((at_facts n h1 h2).2.2.2.2.2.1 hn).2
 have hM : atM n = n := ((at_facts n h1 h2).2.2.2.2.2.1 hn).1
 have f1 : (n : Int) / 8388608 = 0 := by omega
 have f5 : bits .and .i64 0 255 = 0 := by decide
 have f2 : bits .and .u64 (n : Int) 8388607 = (n : Int) := by rw [and23 n (by omega)]; omega
 have f3 : ((n : Int) == 0) = false := by simp; omega
 have f0 : (n : Int) / 2147483648 = 0 := by omega
 have hsl : upF n ≤ 63 := by unfold upF; omega
 have hl1 := Nat.log2_self_le (show atM n ≠ 0 by omega)
 have hl2 : atM n < 2 ^ ((atM n).log2 + 1) := Nat.lt_log2_self
 have hlog : (atM n).log2 < 24 := (Nat.log2_lt (by omega)).2 (by omega)
 have hlen : (Lib.bitLen (n : Int).toNat : Int) = 64 - ((upF n : Nat) : Int) := by
  have hc : (n : Int) = ((atM n : Nat) : Int) := by omega
  rw [hc]
  rw [Int.toNat_natCast, bitLen_log (atM n) (by omega) (by omega)]
  unfold upF
  omega
 have hL := len64_at (n : Int) (by omega) (by omega) _ hlen
 have hmul : atM n * 2 ^ upF n < 18446744073709551616 := by
  have e1 : 2 ^ ((atM n).log2 + 1) * 2 ^ upF n = 18446744073709551616 := by
   rw [← Nat.pow_add, show (atM n).log2 + 1 + upF n = 64 by unfold upF; omega]
  rw [← e1]
  exact Nat.mul_lt_mul_of_pos_right hl2 (Nat.two_pow_pos _)
 obtain ⟨mm, hmm⟩ : ∃ x : Int, x = ((atM n * 2 ^ upF n : Nat) : Int) := ⟨_, rfl⟩
 have f10 : IntKind.u64.wrap ((n : Int) * 2 ^ upF n) = mm := by
  rw [hmm]
  have e2 : (n : Int) * 2 ^ upF n = ((atM n * 2 ^ upF n : Nat) : Int) := by
   rw [hM]
   norm_cast
  rw [e2]
  exact u64_small _ (by omega) (by omega)
 have f11 : (64 : Int) - (64 - ((upF n : Nat) : Int)) = ((upF n : Nat) : Int) := by omega
 have hsi : (0 : Int) ≤ ((upF n : Nat) : Int) ∧ ((upF n : Nat) : Int) ≤ 63 := by omega
 have HR : Hid (Row w v [] ∧ Keep [] w0 w ∧ Fresh w0 w v) := ⟨hrow, hk, hf⟩
 have HT : Hid (TabR w ∧ TabU w) := ⟨hT, hU⟩
 have HS : Hid (∀ w, TabR w → Calls Tryz.prog 186 #[.int .u64 mm, .int .i64 (atE n - (upF n : Int))] w fun r w' => r = .returned (.tuple #[.int .u64 ((dF n : Nat) : Int), .int .i64 (pF n)]) ∧ ∃ (o : Obj) (k : Nat), w' = (w.alloc o).drewN k) := fun w hT => by
  rw [hmm]
  exact short_all n h1 h2 w hT
 have hEs : (-126 : Int) - ((upF n : Nat) : Int) - 23 = atE n - ((upF n : Nat) : Int) := by rw [hE]; omega
 have HE : Hid ((-126 : Int) - ((upF n : Nat) : Int) - 23 = atE n - ((upF n : Nat) : Int)) := hEs
 have HD : Hid ((1 ≤ dF n ∧ dF n < 1073741824) ∧ (tzN (dF n) < ndN (dF n) ∧ tzN (dF n) < 10 ∧ (∀ i, i < tzN (dF n) → dF n / 10 ^ i % 10 = 0) ∧ dF n / 10 ^ tzN (dF n) % 10 ≠ 0) ∧ (1 ≤ ndN (dF n) ∧ ndN (dF n) ≤ 10 ∧ dF n < 10 ^ ndN (dF n)) ∧ -60 ≤ pF n ∧ pF n ≤ 60) := ⟨⟨d1, d2⟩, ⟨t1, t2, t3, t4⟩, ⟨m1, m2, m4⟩, hp⟩
 clear hrow hk hf hT hU h1 h2 a1 a2 a3 a4 d1 d2 t1 t2 t3 t4 m1 m2 m3 m4 hp hl1 hl2 hlog hlen hmul hE hM hsl hn hEs hmm
 go_enter Tryz.func164, Tryz.ntmps164
 go_wp2
 go_quiet (fail)
 go_wp2_with (first
  | (go_at_call 130; refine (hL _).mono ?_; rintro e9 w9 ⟨rfl, hw9⟩; obtain rfl := hw9.symm))
 rw [HE.out]
 refine (HS.out _ (HT.out.1.keep (((Keep.refl [] w).drewN nq).alloc _))).mono ?_
 rintro e9 w2 ⟨rfl, o9, k9, hw2⟩
 have HW : Hid _ := after_short2 w0 w w2 v nq k9 o9 HR.out.1 HR.out.2.1 HR.out.2.2 HT.out.2 hw2
 clear hw2
 go_wp2_with fail
 go_region_held3 (fun _ => True) (exact trivial)
  (first
  | (go_at_call 112; refine (numDigits_any (dF n) HD.out.1.1 HD.out.1.2 w2.drew HW.out.2.2.2.1).mono ?_; rintro e9 w9 ⟨rfl, hw9⟩; obtain rfl := hw9.symm)
  | (go_at_call 187; refine (setDigits_n n w.heap.size w2.drew HD.out HW.out.2.2.2.2.1).mono ?_; rintro e9 w3 ⟨rfl, g1, g2, g3⟩; have HX : Hid _ := after_set2 n w0 w2 w3 v w.heap.size HW.out.1 HW.out.2.1 HW.out.2.2.1 HR.out.2.1.size HW.out.2.2.2.2.2.2 ⟨g1.os, g1.tape, g1.output, g1.size, g1.block⟩ g2 g3; clear g1 g2 g3))
 have hz1 : 1 ≤ ((ndF n : Nat) : Int) ∧ ((ndF n : Nat) : Int) ≤ 10 := by
  have := HD.out.2.1.1
  have := HD.out.2.2.1.2.1
  unfold ndF
  omega
 have HZ : Hid (1 ≤ ndF n ∧ ndF n ≤ 10) := ⟨by omega, by omega⟩
 have HEX : Hid (-100 < exF n ∧ exF n < 100) := by
  have h1 := HD.out.2.2.1
  have h2 := HD.out.2.2.2
  show -100 < exF n ∧ exF n < 100
  unfold exF
  omega
 go_wp2_with fail
 rw [show max (((ndF n : Nat) : Int) - 1) 0 = ((ndF n : Nat) : Int) - 1 by omega]
 refine (fmtE_n n w.heap.size w0 w3 v HX.out HZ.out HEX.out).mono ?_
 rintro e9 w4 ⟨v4, rfl, hF4⟩
 have HY : Hid _ := hF4
 clear hF4
 go_wp2_with fail
 go_ret
 exact ⟨_, rfl, HY.out.row, HY.out.keep⟩
end Go.Proofs.YtfpcpociejefaaaGreatDoor
