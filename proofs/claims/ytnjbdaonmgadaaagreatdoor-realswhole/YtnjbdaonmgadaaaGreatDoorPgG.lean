/- A real of 32 bits as one of 64 and back; the library's exact way for short numbers, whole. -/
import Derived.Test.YtnjbdaonmgadaaaGreatDoorPgF
import Derived.Test.YtnjbdaonmgadaaaGreatDoorFloE
namespace Go.Proofs.YtnjbdaonmgadaaaGreatDoor
open Go.RowKit Go.PlainAid

theorem near_wide (m : Nat) (e : Int) (h0 : 0 < m) (hm : m < 16777216) (he : -149 ≤ e) (he2 : e ≤ 104) : Ieee.double.nearest false m e = wD (m * 2 ^ (52 - m.log2)) ((m.log2 : Int) + e) := by
  obtain ⟨c1, c2, c3, c4⟩ := dconsts
  obtain ⟨_, k1, k2, k3⟩ := nearS m h0 hm
  generalize hl : m.log2 = L at *
  unfold Ieee.Format.nearest
  rw [if_neg (by omega)]
  simp only [c1, c2, c3, hl, show Ieee.double.fractionBits = 52 from rfl]
  rw [show max (e + (L : Int) - ((52 : Nat) : Int)) (-1074) = e + (L : Int) - 52 by omega]
  rw [show (e - (e + (L : Int) - 52)).toNat = 52 - L by omega, show ((e + (L : Int) - 52) - e).toNat = 0 by omega, Nat.shiftLeft_eq]
  have hcut : Ieee.Toward.cut .even false (m * 2 ^ (52 - L)) 0 = m * 2 ^ (52 - L) := by
    unfold Ieee.Toward.cut
    simp [Nat.mod_one]
  rw [hcut, show ((e + (L : Int) - 52) - -1074).toNat = ((L : Int) + e + 1022).toNat by omega]
  unfold Ieee.Format.word wD
  simp only [Bool.false_eq_true, if_false]
  rw [Nat.min_eq_left]
  have : ((L : Int) + e + 1022).toNat ≤ 1149 := by omega
  omega
theorem read_at (n : Nat) (h : n < 2139095040) : Ieee.single.read n = .number false (atM n) (atE n) := by
  have e1 : Ieee.single.signWeight = 2147483648 := by decide
  have e2 : Ieee.single.binade = 8388608 := by decide
  have e3 : Ieee.single.infRung = 2139095040 := by decide
  have e4 : Ieee.single.leastPlace = -149 := by decide
  unfold Ieee.Format.read atM atE
  simp only [e1, e2, e3, e4]
  rw [show n % 2147483648 = n by omega, show n / 2147483648 % 2 = 0 by omega]
  by_cases hb : n < 8388608
  · rw [if_pos hb, if_pos hb, if_pos hb]; rfl
  · rw [if_neg hb, if_pos h, if_neg hb, if_neg hb]
    congr 1
    omega
/-- widened -/
theorem fD_wide (n : Nat) (h : n < 2139095040) : floatToFloatBits .f32 n .f64 = some (fD n (atE n)) := by
  unfold floatToFloatBits
  rw [if_neg (by decide)]
  show (match Ieee.single.read n with | .nan _ _ => none | .infinity s => some (Ieee.double.write (.infinity s)) | .number s m e => if (Ieee.double.read (Ieee.double.write (.number s m e))).isInfinity then none else some (Ieee.double.write (.number s m e))) = _
  rw [read_at n h]
  simp only []
  by_cases h0 : atM n = 0
  · have hn : n = 0 := by unfold atM at h0; split at h0 <;> omega
    subst hn
    decide
  · have a1 := atE_lo n
    have a2 := atE_hi n h
    obtain ⟨_, k1, k2, k3⟩ := nearS (atM n) (by omega) (atM_lt n)
    have hw : Ieee.double.write (.number false (atM n) (atE n)) = fD n (atE n) := by
      unfold fD
      rw [if_neg h0]
      exact near_wide (atM n) (atE n) (by omega) (atM_lt n) a1 a2
    rw [hw]
    have hr : Ieee.double.read (fD n (atE n)) = .number false (atM n * 2 ^ (52 - (atM n).log2)) (((atM n).log2 : Int) + atE n - 52) := by
      unfold fD
      rw [if_neg h0]
      exact readD _ _ k1 k2 (by omega) (by omega)
    rw [hr]
    rfl

/-- what the exact way answers -/
def ExA (R : Nat) (e : Ending) : Prop := (∃ f, e = .returned (.tuple #[.float .f32 f, .bool false])) ∨ e = .returned (.tuple #[.float .f32 R, .bool true])

theorem exact_any (d p : Nat) (hd0 : 0 < d) (hd : d < 18446744073709551616) (hp : p ≤ 18) (w : World) (hT : TabF w) :
    Calls Tryz.prog 120 #[.int .u64 (d : Int), .int .i64 (p : Int), .bool false] w fun e w' => ExA (rndR (d * 10 ^ p * P149)) e ∧ w' = w := by
  obtain ⟨g, o, cap, hv, hk⟩ := hT
  by_cases hl : 8388608 ≤ d
  · refine (exact_long d p w hl hd).mono ?_
    rintro e w' ⟨rfl, hw⟩
    exact ⟨.inl ⟨_, rfl⟩, hw⟩
  · have hc : ∀ w, (convert 66 23 (.int .u64 (d : Int))).run Tryz.prog w = .ok (.float .f32 (rndR (d * P149))) w := fun w => by
      rw [← fromI_nat, ← fromI_float]; exact run_convert_int_float w 66 23 .u64 .f32 _ (by kernel_rfl) Tryz.underlying23
    obtain ⟨v1, v2⟩ := held d hd0 (by omega)
    have hk' : ∀ k, k ≤ 10 → w.cell? ⟨g, o + k, none⟩ = some (.float .f32 (rndR (10 ^ k * P149))) := fun k h => by
      have := hk k h
      rwa [fromI_nat] at this
    have hmul : ∀ (n k : Nat), 0 < n → n ≤ 16777216 → k ≤ 10 → ∀ w, (binOp .mul 23 (.float .f32 (rndR (n * P149))) (.float .f32 (rndR (10 ^ k * P149)))).run Tryz.prog w = .ok (.float .f32 (rndR (n * 10 ^ k * P149))) w := fun n k h0 h1 h2 w => by
      obtain ⟨a1, a2⟩ := held n h0 h1
      obtain ⟨b1, b2⟩ := ten_held k h2
      exact run_float_arith (P := Tryz.prog) w .mul 23 .f32 _ _ _ (mul_whole _ _ n (10 ^ k) a2 b2 a1 b1 h0 (Nat.pow_pos (by decide)))
    by_cases h0 : p = 0
    · subst h0
      refine (exact_zero d _ w (by omega) hc).mono ?_
      rintro e w' ⟨rfl, hw⟩
      exact ⟨.inr (by rw [Nat.pow_zero, Nat.mul_one]), hw⟩
    · by_cases h10 : p ≤ 10
      · obtain ⟨t1, t2⟩ := gt_seven d hd0 (by omega)
        rw [decide_eq_false (by omega)] at t1
        refine (exact_mid d p _ _ _ g o cap w (by omega) (by omega) h10 hc hv (hk' p h10) (hmul d p hd0 (by omega) h10) t1 t2).mono ?_
        rintro e w' ⟨rfl, hw⟩
        exact ⟨.inr rfl, hw⟩
      · by_cases h18 : p = 18
        · refine (exact_18 d p _ w (by omega) h18 hc).mono ?_
          rintro e w' ⟨rfl, hw⟩
          exact ⟨.inl ⟨_, rfl⟩, hw⟩
        · have hq : p = (p - 10) + 10 := by omega
          have hb : 10 ^ (p - 10) ≤ 10 ^ 7 := Nat.pow_le_pow_right (by decide) (by omega)
          have hpos : 0 < 10 ^ (p - 10) := Nat.pow_pos (by decide)
          have hn0 : 0 < d * 10 ^ (p - 10) := Nat.mul_pos hd0 hpos
          have hn1 : d * 10 ^ (p - 10) ≤ 8388607 * 10 ^ 7 := Nat.mul_le_mul (by omega) hb
          obtain ⟨t1, t2⟩ := gt_seven (d * 10 ^ (p - 10)) hn0 (by omega)
          by_cases h7 : 10000000 < d * 10 ^ (p - 10)
          · rw [decide_eq_true h7] at t1
            refine (exact_not d p (p - 10) _ _ _ g o cap w (by omega) (by omega) (by omega) (by omega) hc hv (hk' (p - 10) (by omega)) (hmul d (p - 10) hd0 (by omega) (by omega)) t1).mono ?_
            rintro e w' ⟨rfl, hw⟩
            exact ⟨.inl ⟨_, rfl⟩, hw⟩
          · rw [decide_eq_false h7] at t1
            refine (exact_far d p (p - 10) _ _ _ _ _ g o cap w (by omega) (by omega) (by omega) (by omega) hc hv (hk' (p - 10) (by omega)) (hk' 10 (by omega)) (hmul d (p - 10) hd0 (by omega) (by omega)) (hmul (d * 10 ^ (p - 10)) 10 hn0 (by omega) (by omega)) t1 t2).mono ?_
            rintro e w' ⟨rfl, hw⟩
            refine ⟨.inr ?_, hw⟩
            rw [Nat.mul_assoc d, ← Nat.pow_add, ← hq]
end Go.Proofs.YtnjbdaonmgadaaaGreatDoor
