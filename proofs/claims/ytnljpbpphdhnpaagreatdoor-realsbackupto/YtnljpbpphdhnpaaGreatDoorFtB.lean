/- The library's shortFloat in one, for every float32 above 0. -/
import Derived.Test.YtnljpbpphdhnpaaGreatDoorShC
import Derived.Test.YtnljpbpphdhnpaaGreatDoorDoA

namespace Go.Proofs.YtnljpbpphdhnpaaGreatDoor
open Go.RowKit Go.PlainAid

/-- is it a power of two whose lower neighbour stands at half the distance? -/
def skw (n : Nat) : Bool := decide (n % 8388608 = 0) && decide (16777216 ≤ n)
def jF (n : Nat) : Nat := if skw n then jS (atE n) else jN (atE n)
/-- four times a worth of so many quarters, brought to the scale, cut -/
def u4 (n X : Nat) : Nat := uN (X * 2 ^ (atE n).toNat * 10 ^ (jF n - 31)) (2 ^ (-(atE n)).toNat * 10 ^ (31 - jF n))
def xlo (n : Nat) : Nat := if skw n then 4 * atM n - 1 else 4 * atM n - 2
/-- the digits as a number, and the power of ten of the last one -/
def shN (n : Nat) : Nat × Nat := shD (u4 n (xlo n)) (u4 n (4 * atM n + 2)) (u4 n (4 * atM n)) (atM n % 2)
def dF (n : Nat) : Nat := (shN n).1
def pF (n : Nat) : Int := 31 - (jF n : Int) + ((shN n).2 : Int)

def scaleOk (E : Int) (j : Nat) : Prop := 2 ^ (-E).toNat * 10 ^ (31 - j) ≤ 2 ^ E.toNat * 10 ^ (j - 31) ∧ 2 ^ E.toNat * 10 ^ (j - 31) ≤ 14 * (2 ^ (-E).toNat * 10 ^ (31 - j))
instance (E : Int) (j : Nat) : Decidable (scaleOk E j) := by unfold scaleOk; infer_instance
theorem scales_ok : ∀ n : Nat, n < 254 → scaleOk ((n : Int) - 149) (jN ((n : Int) - 149)) ∧ (1 ≤ n → scaleOk ((n : Int) - 149) (jS ((n : Int) - 149))) := by
  decide +kernel
theorem uN_bounds (a b lo hi : Nat) (hb : 0 < b) (h1 : lo * b ≤ a) (h2 : a ≤ hi * b) : lo ≤ uN a b ∧ uN a b ≤ hi + 1 := by
  have g1 : lo ≤ a / b := (Nat.le_div_iff_mul_le hb).2 h1
  have g2 : a / b ≤ hi := Nat.div_le_of_le_mul (by rw [Nat.mul_comm]; exact h2)
  unfold uN
  split <;> omega
theorem at_facts (n : Nat) (h1 : 1 ≤ n) (h2 : n < 2139095040) : -149 ≤ atE n ∧ atE n ≤ 104 ∧ 1 ≤ atM n ∧ atM n < 16777216 ∧ (8388608 ≤ n → 8388608 ≤ atM n) ∧ (n < 8388608 → atM n = n ∧ atE n = -149) ∧ (skw n = true → atM n = 8388608 ∧ -148 ≤ atE n) ∧ (skw n = false → 8388608 ≤ n → atM n = 8388608 → atE n = -149) := by
  unfold atE atM skw
  by_cases h : n < 8388608
  · simp only [if_pos h]
    refine ⟨by omega, by omega, by omega, by omega, fun h5 => absurd h5 (by omega), by simp, fun hs => ?_, fun _ h5 _ => absurd h5 (by omega)⟩
    simp at hs
    omega
  · simp only [if_neg h]
    refine ⟨by omega, by omega, by omega, by omega, fun _ => by omega, fun h6 => absurd h6 h, fun hs => ?_, fun hs _ hm => ?_⟩
    · simp at hs
      omega
    · simp at hs
      have : n % 8388608 = 0 := by omega
      have := hs this
      omega
theorem row_of (n : Nat) (h1 : 1 ≤ n) (h2 : n < 2139095040) : rowOk (atE n) (jF n) ∧ scaleOk (atE n) (jF n) := by
  obtain ⟨a1, a2, _, _, _, _, a7, _⟩ := at_facts n h1 h2
  obtain ⟨k, hk⟩ : ∃ k : Nat, atE n = (k : Int) - 149 := ⟨(atE n + 149).toNat, by omega⟩
  have hk2 : k < 254 := by omega
  unfold jF
  by_cases hs : skw n = true
  · rw [if_pos hs]
    have := (a7 hs).2
    rw [hk]
    exact ⟨(rows_ok k hk2).2 (by omega), (scales_ok k hk2).2 (by omega)⟩
  · rw [if_neg hs, hk]
    exact ⟨(rows_ok k hk2).1, (scales_ok k hk2).1⟩
theorem u4_bounds (n X : Nat) (h1 : 1 ≤ n) (h2 : n < 2139095040) : X ≤ u4 n X ∧ u4 n X ≤ 14 * X + 1 := by
  obtain ⟨_, s1, s2⟩ := row_of n h1 h2
  unfold u4
  have hb : 0 < 2 ^ (-(atE n)).toNat * 10 ^ (31 - jF n) := Nat.mul_pos (Nat.two_pow_pos _) (Nat.pow_pos (by decide))
  refine uN_bounds _ _ _ _ hb ?_ ?_
  · rw [Nat.mul_assoc X]
    exact Nat.mul_le_mul_left _ s1
  · rw [Nat.mul_assoc X, Nat.mul_comm 14 X, Nat.mul_assoc X]
    exact Nat.mul_le_mul_left _ s2
end Go.Proofs.YtnljpbpphdhnpaaGreatDoor

/- The library's shortFloat in one, for every float32 above 0: its contract. -/
namespace Go.Proofs.YtnljpbpphdhnpaaGreatDoor
open Go.RowKit Go.PlainAid

/-- the powers of ten from -31 to 45, as they are laid -/
def TabR (w : World) : Prop := ∀ j, j < 77 → w.cell? ⟨15, (317 + j) * 2, none⟩ = some (.int .u64 (hiR j : Int)) ∧ w.cell? ⟨15, (317 + j) * 2 + 1, none⟩ = some (.int .u64 (loR j : Int))
/-- how far a worth's whole number is brought up -/
def upF (n : Nat) : Nat := 63 - (atM n).log2

theorem smax_ok : ∀ n : Nat, n < 254 → 37 - ((n : Int) - 149) - lpR (jN ((n : Int) - 149)) ≤ 40 ∧ 37 - ((n : Int) - 149) - lpR (jS ((n : Int) - 149)) ≤ 40 := by
  decide +kernel
theorem smax (n : Nat) (h1 : 1 ≤ n) (h2 : n < 2139095040) : 37 - atE n - lpR (jF n) ≤ 40 := by
  obtain ⟨a1, a2, _⟩ := at_facts n h1 h2
  obtain ⟨k, hk⟩ : ∃ k : Nat, atE n = (k : Int) - 149 := ⟨(atE n + 149).toNat, by omega⟩
  have := smax_ok k (by omega)
  unfold jF
  rw [hk]
  split
  · exact this.2
  · exact this.1
theorem short_all (n : Nat) (h1 : 1 ≤ n) (h2 : n < 2139095040) (w : World) (hT : TabR w) :
    Calls Tryz.prog 138 #[.int .u64 ((atM n * 2 ^ upF n : Nat) : Int), .int .i64 (atE n - (upF n : Int))] w fun r w' => r = .returned (.tuple #[.int .u64 ((dF n : Nat) : Int), .int .i64 (pF n)]) ∧ ∃ (o : Obj) (k : Nat), w' = (w.alloc o).drewN k := by
  obtain ⟨a1, a2, a3, a4, a5, a6, a7, a8⟩ := at_facts n h1 h2
  obtain ⟨r1, r2⟩ := row_of n h1 h2
  have hj := r1.1
  obtain ⟨c0, c1⟩ := hT (jF n) hj
  have hlp := row_facts (jF n) hj
  have hsk : ∀ X t s : Nat, X < 67108867 → 38 ≤ t → X * 2 ^ t + 4 ≤ 18446744073709551616 → (s : Int) = (t : Int) - 1 - atE n - lpR (jF n) → uscN (X * 2 ^ t) (hiR (jF n)) (loR (jF n)) s = u4 n X := fun X t s hX ht hx hs => usc_any (atE n) (jF n) X s t hX ht hx hs r1
  have hb := u4_bounds n
  have hM4 : 4 * atM n + 2 < 67108867 := by omega
  have hlo : 2 ≤ xlo n ∧ xlo n ≤ 4 * atM n := by unfold xlo; split <;> omega
  have bl := hb (xlo n) h1 h2
  have bh := hb (4 * atM n + 2) h1 h2
  have bm := hb (4 * atM n) h1 h2
  have hs34 := r1.2.2.1
  by_cases hn : 8388608 ≤ n
  · -- 2 to the power 23 or more
    have hM := a5 hn
    have hlog : (atM n).log2 = 23 := by
      have g1 : (atM n).log2 < 24 := (Nat.log2_lt (by omega)).2 (by omega)
      have g2 : 23 ≤ (atM n).log2 := (Nat.le_log2 (by omega)).2 (by omega)
      omega
    have hsF : upF n = 40 := by unfold upF; omega
    rw [hsF]
    obtain ⟨s, hs⟩ : ∃ s : Nat, (s : Int) = 37 - atE n - lpR (jF n) := ⟨(37 - atE n - lpR (jF n)).toNat, by omega⟩
    have hs64 : s < 64 := by
      have := (smax n h1 h2)
      omega
    have hul := hsk (xlo n) 38 s (by omega) (by omega) (by omega) (by omega)
    have huh := hsk (4 * atM n + 2) 38 s hM4 (by omega) (by omega) (by omega)
    have hum := hsk (4 * atM n) 38 s (by omega) (by omega) (by omega) (by omega)
    have p38 : (2 : Nat) ^ 38 = 274877906944 := by decide
    have p40 : (2 : Nat) ^ 40 = 1099511627776 := by decide
    rw [p38] at hul huh hum
    rw [p40]
    have huh2 : uscN (atM n * 1099511627776 + 549755813888) (hiR (jF n)) (loR (jF n)) s = u4 n (4 * atM n + 2) := by
      rw [show atM n * 1099511627776 + 549755813888 = (4 * atM n + 2) * 274877906944 by omega]; exact huh
    have hum2 : uscN (atM n * 1099511627776) (hiR (jF n)) (loR (jF n)) s = u4 n (4 * atM n) := by
      rw [show atM n * 1099511627776 = 4 * atM n * 274877906944 by omega]; exact hum
    unfold dF pF shN
    by_cases hs1 : skw n = true
    · obtain ⟨hM2, hE2⟩ := a7 hs1
      have hx : xlo n = 4 * atM n - 1 := by unfold xlo; rw [if_pos hs1]
      have hjE : ((jF n : Nat) : Int) = 31 - (((atE n - 40 + 40) * 631305 - 261663) / 2097152) := by
        unfold jF jS; rw [if_pos hs1]; omega
      have hul2 : uscN (atM n * 1099511627776 - 274877906944) (hiR (jF n)) (loR (jF n)) s = u4 n (xlo n) := by
        rw [show atM n * 1099511627776 - 274877906944 = xlo n * 274877906944 by omega]; exact hul
      rw [show atM n % 2 = 0 by omega]
      refine (short_S0 (atM n * 1099511627776) (atM n) (atE n - 40) (jF n) s _ _ _ (by omega) (by omega) (by omega) (by omega) (by omega) ⟨by omega, by omega⟩ hjE hj (by omega) hs64 hul2 huh2 hum2 (by omega) (by omega) (by omega) w c0 c1).mono ?_
      rintro e w' ⟨he, k, hw⟩
      exact ⟨he, _, k, hw⟩
    · have hs0 : skw n = false := by simpa using hs1
      have hx : xlo n = 4 * atM n - 2 := by unfold xlo; rw [if_neg hs1]
      have hjE : ((jF n : Nat) : Int) = 31 - ((atE n - 40 + 40) * 78913 / 262144) := by
        unfold jF jN; rw [if_neg hs1]; omega
      have hul2 : uscN (atM n * 1099511627776 - 549755813888) (hiR (jF n)) (loR (jF n)) s = u4 n (xlo n) := by
        rw [show atM n * 1099511627776 - 549755813888 = xlo n * 274877906944 by omega]; exact hul
      by_cases hM3 : atM n = 8388608
      · have hE3 := a8 hs0 hn hM3
        rw [show atM n % 2 = 0 by omega]
        refine (short_L0 (atM n * 1099511627776) (atM n) (atE n - 40) (jF n) s _ _ _ (by omega) (by omega) (by omega) (by omega) (by omega) ⟨by omega, by omega⟩ hjE hj (by omega) hs64 hul2 huh2 hum2 (by omega) (by omega) (by omega) w c0 c1).mono ?_
        rintro e w' ⟨he, k, hw⟩
        exact ⟨he, _, k, hw⟩
      · by_cases ho : atM n % 2 = 0
        · rw [ho]
          refine (short_N0 (atM n * 1099511627776) (atM n) (atE n - 40) (jF n) s _ _ _ (by omega) (by omega) (by omega) (by omega) (by omega) (by omega) hjE hj (by omega) hs64 hul2 huh2 hum2 (by omega) (by omega) (by omega) w c0 c1).mono ?_
          rintro e w' ⟨he, k, hw⟩
          exact ⟨he, _, k, hw⟩
        · have ho1 : atM n % 2 = 1 := by omega
          rw [ho1]
          refine (short_N1 (atM n * 1099511627776) (atM n) (atE n - 40) (jF n) s _ _ _ (by omega) (by omega) (by omega) (by omega) (by omega) (by omega) hjE hj (by omega) hs64 hul2 huh2 hum2 (by omega) (by omega) (by omega) w c0 c1).mono ?_
          rintro e w' ⟨he, k, hw⟩
          exact ⟨he, _, k, hw⟩
  · -- below that
    obtain ⟨hMn, hEn⟩ := a6 (by omega)
    have hs0 : skw n = false := by
      unfold skw
      simp
      omega
    have hx : xlo n = 4 * atM n - 2 := by unfold xlo; rw [hs0]; rfl
    have hj76 : jF n = 76 := by
      unfold jF
      rw [hs0, hEn]
      decide
    have hl1 := Nat.log2_self_le (show atM n ≠ 0 by omega)
    have hl2 : atM n < 2 ^ ((atM n).log2 + 1) := Nat.lt_log2_self
    have hlog : (atM n).log2 < 23 := (Nat.log2_lt (by omega)).2 (by omega)
    obtain ⟨t, ht⟩ : ∃ t, t = upF n - 2 := ⟨_, rfl⟩
    have hz : upF n = t + 2 := by unfold upF at *; omega
    have hz41 : 41 ≤ upF n ∧ upF n ≤ 63 := by unfold upF; omega
    have hlt : (atM n).log2 + (t + 2) = 63 := by unfold upF at *; omega
    have e1 : 2 ^ (t + 2) = 4 * 2 ^ t := by rw [Nat.pow_add]; omega
    have e2 : 2 ^ (t + 2 - 1) = 2 * 2 ^ t := by rw [show t + 2 - 1 = t + 1 by omega, Nat.pow_succ]; omega
    have e3 : 2 ^ (atM n).log2 * 2 ^ (t + 2) = 9223372036854775808 := by
      rw [← Nat.pow_add, hlt]
    have e4 : 2 ^ ((atM n).log2 + 1) * 2 ^ (t + 2) = 18446744073709551616 := by
      rw [Nat.pow_succ, Nat.mul_right_comm, e3]
    have b1 : 9223372036854775808 ≤ atM n * 2 ^ (t + 2) := by
      rw [← e3]
      exact Nat.mul_le_mul_right _ hl1
    have b2 : (atM n + 1) * 2 ^ (t + 2) ≤ 18446744073709551616 := by
      rw [← e4]
      exact Nat.mul_le_mul_right _ hl2
    have b3 : 2 ^ 39 ≤ 2 ^ t := Nat.pow_le_pow_right (by decide) (by omega)
    have p39 : (2 : Nat) ^ 39 = 549755813888 := by decide
    rw [p39] at b3
    rw [Nat.add_mul, Nat.one_mul] at b2
    have hs : ((t - 1 : Nat) : Int) = (t : Int) - 1 - atE n - lpR (jF n) := by
      have : lpR 76 = 149 := by decide
      rw [hj76, this, hEn]
      omega
    have m1 : xlo n * 2 ^ t + 2 * 2 ^ t = atM n * 2 ^ (t + 2) := by
      rw [hx, e1, ← Nat.add_mul, show 4 * atM n - 2 + 2 = 4 * atM n by omega, Nat.mul_comm 4 (atM n), Nat.mul_assoc]
    have m2 : atM n * 2 ^ (t + 2) + 2 * 2 ^ t = (4 * atM n + 2) * 2 ^ t := by
      rw [e1, Nat.add_mul, Nat.mul_comm 4 (atM n), Nat.mul_assoc]
    have m3 : atM n * 2 ^ (t + 2) = 4 * atM n * 2 ^ t := by rw [e1, Nat.mul_comm 4 (atM n), Nat.mul_assoc]
    have hul := hsk (xlo n) t (t - 1) (by omega) (by omega) (by omega) hs
    have huh := hsk (4 * atM n + 2) t (t - 1) hM4 (by omega) (by omega) hs
    have hum := hsk (4 * atM n) t (t - 1) (by omega) (by omega) (by omega) hs
    rw [← m2] at huh
    rw [← m3] at hum
    rw [hj76] at hul huh hum c0 c1
    rw [hz]
    unfold dF pF shN
    rw [hj76]
    have hdiv : atM n * 2 ^ (t + 2) / 2 ^ (t + 2) = atM n := Nat.mul_div_cancel _ (Nat.two_pow_pos _)
    rw [hz] at hz41
    have he : atE n - ((t + 2 : Nat) : Int) = -149 - ((t + 2 : Nat) : Int) := by omega
    rw [he]
    have hpost : (31 : Int) - ((76 : Nat) : Int) = -45 := by decide
    rw [hpost]
    by_cases ho : atM n % 2 = 0
    · rw [ho]
      by_cases hm : atM n * 2 ^ (t + 2) = 9223372036854775808
      · refine (short_V0 (atM n * 2 ^ (t + 2)) (atM n) (t + 2) (xlo n * 2 ^ t) (atM n * 2 ^ (t + 2) + 2 * 2 ^ t) (-149 - ((t + 2 : Nat) : Int)) (t - 1) _ _ _ hz41 rfl hm (by omega) (by omega) (by omega) hdiv ho (by omega) (by omega) (by omega) hul huh hum (by omega) (by omega) (by omega) w c0 c1).mono ?_
        rintro e w' ⟨he, k, hw⟩
        exact ⟨he, _, k, hw⟩
      · refine (short_U0 (atM n * 2 ^ (t + 2)) (atM n) (t + 2) (xlo n * 2 ^ t) (atM n * 2 ^ (t + 2) + 2 * 2 ^ t) (-149 - ((t + 2 : Nat) : Int)) (t - 1) _ _ _ hz41 rfl hm (by omega) (by omega) (by omega) hdiv ho (by omega) (by omega) (by omega) hul huh hum (by omega) (by omega) (by omega) w c0 c1).mono ?_
        rintro e w' ⟨he, k, hw⟩
        exact ⟨he, _, k, hw⟩
    · have ho1 : atM n % 2 = 1 := by omega
      rw [ho1]
      by_cases hm : atM n * 2 ^ (t + 2) = 9223372036854775808
      · refine (short_V1 (atM n * 2 ^ (t + 2)) (atM n) (t + 2) (xlo n * 2 ^ t) (atM n * 2 ^ (t + 2) + 2 * 2 ^ t) (-149 - ((t + 2 : Nat) : Int)) (t - 1) _ _ _ hz41 rfl hm (by omega) (by omega) (by omega) hdiv ho1 (by omega) (by omega) (by omega) hul huh hum (by omega) (by omega) (by omega) w c0 c1).mono ?_
        rintro e w' ⟨he, k, hw⟩
        exact ⟨he, _, k, hw⟩
      · refine (short_U1 (atM n * 2 ^ (t + 2)) (atM n) (t + 2) (xlo n * 2 ^ t) (atM n * 2 ^ (t + 2) + 2 * 2 ^ t) (-149 - ((t + 2 : Nat) : Int)) (t - 1) _ _ _ hz41 rfl hm (by omega) (by omega) (by omega) hdiv ho1 (by omega) (by omega) (by omega) hul huh hum (by omega) (by omega) (by omega) w c0 c1).mono ?_
        rintro e w' ⟨he, k, hw⟩
        exact ⟨he, _, k, hw⟩
end Go.Proofs.YtnljpbpphdhnpaaGreatDoor
