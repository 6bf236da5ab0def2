/- The library's numDigits, of any number up to 2^30. -/
import Derived.Test.YtfpcpociejefaaaGreatDoorShA
namespace Go.Proofs.YtfpcpociejefaaaGreatDoor
open Go.RowKit Go.PlainAid
/-- whole powers of ten, as they are laid -/
def TabU (w : World) : Prop := ∀ k, k < 11 → w.cell? ⟨2, k, none⟩ = some (.int .u64 ((10 ^ k : Nat) : Int))
def kN (d : Nat) : Nat := (d.log2 + 1) * 78913 / 262144
def ndN (d : Nat) : Nat := if 10 ^ kN d ≤ d then kN d + 1 else kN d
theorem len_facts : ∀ L, L < 31 → L * 78913 / 262144 < 10 ∧ 2 ^ L ≤ 10 ^ (L * 78913 / 262144 + 1) ∧ (1 ≤ L → 10 ^ (L * 78913 / 262144) ≤ 2 ^ (L - 1) * 10 ∧ (L * 78913 / 262144 = 0 → L ≤ 3)) := by decide
theorem ndN_ok (d : Nat) (h0 : 1 ≤ d) (h1 : d < 1073741824) : 1 ≤ ndN d ∧ ndN d ≤ 10 ∧ 10 ^ (ndN d - 1) ≤ d ∧ d < 10 ^ ndN d := by
 have hl : d.log2 < 30 := (Nat.log2_lt (by omega)).2 h1
 obtain ⟨f1, f2, f3⟩ := len_facts (d.log2 + 1) (by omega)
 obtain ⟨f4, f5⟩ := f3 (by omega)
 have g1 : 2 ^ d.log2 ≤ d := Nat.log2_self_le (by omega)
 have g2 : d < 2 ^ (d.log2 + 1) := Nat.lt_log2_self
 rw [Nat.add_sub_cancel] at f4
 unfold ndN
 unfold kN
 generalize (d.log2 + 1) * 78913 / 262144 = k at *
 by_cases h : 10 ^ k ≤ d
 ·rw [if_pos h]
  refine ⟨by omega, by omega, by simpa using h, ?_⟩
  omega
 ·rw [if_neg h]
  have hk : 1 ≤ k := by
   rcases Nat.eq_zero_or_pos k with h2 | h2
   ·subst h2; simp at h; omega
   ·exact h2
  obtain ⟨q, rfl⟩ : ∃ q, k = q + 1 := ⟨k - 1, by omega⟩
  rw [Nat.pow_succ] at f4
  refine ⟨hk, by omega, by rw [Nat.add_sub_cancel]; omega, by omega⟩
set_option maxRecDepth 1000000 in
theorem numDigits_any (d : Nat) (h0 : 1 ≤ d) (h1 : d < 1073741824) (w : World) (hT : TabU w) : Calls Tryz.prog 112 #[.int .u64 (d : Int)] w fun e w' => e = .returned (.int .i64 ((ndN d : Nat) : Int)) ∧ w' = w := by
 have hl : d.log2 < 30 := (Nat.log2_lt (by omega)).2 h1
 obtain ⟨f1, _, _⟩ := len_facts (d.log2 + 1) (by omega)
 have hlen : (Lib.bitLen (d : Int).toNat : Int) = ((d.log2 + 1 : Nat) : Int) := by rw [Int.toNat_natCast, bitLen_log d (by omega) (by omega)]
 have hL := len64_at (d : Int) (by omega) (by omega) _ hlen
 have hk : ((d.log2 + 1 : Nat) : Int) * 78913 / 262144 = ((kN d : Nat) : Int) := by unfold kN; omega
 have hG := log10_any ((d.log2 + 1 : Nat) : Int) (by omega)
 rw [hk] at hG
 have hk10 : kN d < 10 := f1
 have hc := hT (kN d) (by omega)
 have hnd : ((ndN d : Nat) : Int) = (kN d : Int) + (if decide (((10 ^ kN d : Nat) : Int) ≤ (d : Int)) = true then 1 else 0) := by
  unfold ndN
  generalize 10 ^ kN d = tt
  by_cases h : tt ≤ d
  ·rw [if_pos h, if_pos (decide_eq_true (by omega))]; omega
  ·rw [if_neg h, if_neg (by simp; omega)]; omega
 have hB := bool2i_any (decide (((10 ^ kN d : Nat) : Int) ≤ (d : Int)))
 have hb01 : 0 ≤ (if decide (((10 ^ kN d : Nat) : Int) ≤ (d : Int)) = true then (1 : Int) else 0) ∧ (if decide (((10 ^ kN d : Nat) : Int) ≤ (d : Int)) = true then (1 : Int) else 0) ≤ 1 := by split <;> omega
 rw [hnd]
 generalize (if decide (((10 ^ kN d : Nat) : Int) ≤ (d : Int)) = true then (1 : Int) else 0) = bb at *
 generalize kN d = k at *
 generalize ((10 ^ k : Nat) : Int) = t at *
 have hk2 : (k : Int) < 10 := by omega
 clear hlen hk hl f1 hnd h0 h1
 go_enter Tryz.func112, Tryz.ntmps112
 go_wp2_with fail
 refine (hL _).mono ?_
 rintro e9 w9 ⟨rfl, hw9⟩
 obtain rfl := hw9.symm
 clear hL
 go_wp2_with fail
 refine (hG _).mono ?_
 rintro e9 w9 ⟨rfl, hw9⟩
 obtain rfl := hw9.symm
 clear hG
 go_wp2_with fail
 refine (hB _).mono ?_
 rintro e9 w9 ⟨rfl, hw9⟩
 obtain rfl := hw9.symm
 clear hB
 go_wp2_with fail
 go_ret
 exact ⟨by simp, rfl⟩
end Go.Proofs.YtfpcpociejefaaaGreatDoor
