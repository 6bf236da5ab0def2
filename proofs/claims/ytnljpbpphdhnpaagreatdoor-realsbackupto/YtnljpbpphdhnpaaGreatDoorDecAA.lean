/- The library's floatBits of a decimal that stands for A over B: the document's nearest real, and whether it is too great. -/
import Derived.Test.YtnljpbpphdhnpaaGreatDoorDecE
import Derived.Test.YtnljpbpphdhnpaaGreatDoorDecF
import Derived.Test.YtnljpbpphdhnpaaGreatDoorDecD
import Derived.Test.YtnljpbpphdhnpaaGreatDoorDecW
namespace Go.Proofs.YtnljpbpphdhnpaaGreatDoor
open Go.RowKit Go.PlainAid

/-- what is whole of 2^200 times A over B, and whether something is left -/
def wF (A B : Nat) : Nat := A * 2 ^ 200 / B
def wS (A B : Nat) : Bool := decide (A * 2 ^ 200 % B ≠ 0)
theorem wF_div (A B D : Nat) : wF A B / 2 ^ (51 + D) = A * 2 ^ 149 / (B * 2 ^ D) := by
  unfold wF
  rw [Nat.div_div_eq_div_mul, show A * 2 ^ 200 = A * 2 ^ 149 * 2 ^ 51 by rw [Nat.mul_assoc, ← Nat.pow_add], show B * 2 ^ (51 + D) = B * 2 ^ D * 2 ^ 51 by rw [Nat.mul_assoc, ← Nat.pow_add, Nat.add_comm 51 D], Nat.mul_div_mul_right _ _ (Nat.two_pow_pos 51)]
theorem upB_more (a b n : Nat) (h : b < a) : upB a b n = true := by unfold upB; rw [decide_eq_true h]; rfl
theorem upB_half (a b n : Nat) (h : a = b) : upB a b n = decide (n % 2 = 1) := by unfold upB; rw [decide_eq_false (by omega), decide_eq_true h]; rfl
theorem upB_less (a b n : Nat) (h : a < b) : upB a b n = false := by unfold upB; rw [decide_eq_false (by omega), decide_eq_false (by omega)]; rfl
theorem mant_is (A B D : Nat) (hB : 0 < B) : rndU (uN (4 * (A * 2 ^ 149)) (B * 2 ^ D)) = wF A B / 2 ^ (51 + D) + (if upFs (wF A B) (51 + D) (wS A B) = true then 1 else 0) := by
  have hQ : 0 < B * 2 ^ D := Nat.mul_pos hB (Nat.two_pow_pos D)
  have e4 : 4 * (A * 2 ^ 149) / (B * 2 ^ D) / 4 = A * 2 ^ 149 / (B * 2 ^ D) := by
    rw [Nat.div_div_eq_div_mul, Nat.mul_comm 4, Nat.mul_div_mul_right _ _ (by decide)]
  rw [rnd_uN _ _ hQ, e4, wF_div A B D, show 2 * (4 * (A * 2 ^ 149)) = 4 * (2 * (A * 2 ^ 149)) by omega, show (2 * (A * 2 ^ 149 / (B * 2 ^ D)) + 1) * (4 * (B * 2 ^ D)) = 4 * ((2 * (A * 2 ^ 149 / (B * 2 ^ D)) + 1) * (B * 2 ^ D)) by rw [Nat.mul_left_comm], upB_four]
  congr 2
  have hd := wF_div A B D
  have hdm := Nat.div_add_mod (A * 2 ^ 200) B
  have hr := Nat.mod_lt (A * 2 ^ 200) hB
  rw [show A * 2 ^ 200 / B = wF A B from rfl] at hdm
  have hc := half_cases B (wF A B) (A * 2 ^ 200 % B) ((2 * (A * 2 ^ 149 / (B * 2 ^ D)) + 1) * 2 ^ (51 + D - 1)) (A * 2 ^ 200) hdm hr
  clear hr
  have hs0 : A * 2 ^ 200 % B = 0 → wS A B = false := fun h => decide_eq_false (fun k => k h)
  have hs1 : A * 2 ^ 200 % B ≠ 0 → wS A B = true := fun h => decide_eq_true h
  obtain ⟨q, hq⟩ : ∃ q, A * 2 ^ 149 / (B * 2 ^ D) = q := ⟨_, rfl⟩
  rw [hq] at hd hc ⊢
  -- both sides doubled
  have h1 : 2 ^ 51 * (2 * (A * 2 ^ 149)) = 2 * (A * 2 ^ 200) := by
    rw [show A * 2 ^ 200 = 2 ^ 51 * (A * 2 ^ 149) by rw [Nat.mul_left_comm, ← Nat.pow_add]]; omega
  have h2 : 2 ^ 51 * ((2 * q + 1) * (B * 2 ^ D)) = 2 * ((2 * q + 1) * 2 ^ (51 + D - 1) * B) := by
    have h3 : 2 ^ 51 * 2 ^ D = 2 * 2 ^ (51 + D - 1) := by rw [← Nat.pow_add, two_split (51 + D) (by omega)]
    have h4 : 2 ^ 51 * ((2 * q + 1) * (B * 2 ^ D)) = (2 * q + 1) * B * (2 ^ 51 * 2 ^ D) := by simp only [Nat.mul_assoc, Nat.mul_left_comm, Nat.mul_comm]
    rw [h4, h3]
    simp only [Nat.mul_assoc, Nat.mul_left_comm, Nat.mul_comm]
  have hp : 0 < 2 ^ 51 := Nat.two_pow_pos 51
  obtain ⟨V, hV⟩ : ∃ V, 2 * (A * 2 ^ 149) = V := ⟨_, rfl⟩
  obtain ⟨S, hS⟩ : ∃ S, (2 * q + 1) * (B * 2 ^ D) = S := ⟨_, rfl⟩
  obtain ⟨T, hT⟩ : ∃ T, (2 * q + 1) * 2 ^ (51 + D - 1) = T := ⟨_, rfl⟩
  obtain ⟨U, hU⟩ : ∃ U, A * 2 ^ 200 = U := ⟨_, rfl⟩
  rw [hV] at h1 ⊢
  rw [hS] at h2 ⊢
  rw [hT] at h2 hc
  rw [hU] at h1 hc hdm hs0 hs1
  have hT2 : (2 * (wF A B / 2 ^ (51 + D)) + 1) * 2 ^ (51 + D - 1) = T := by rw [hd, hT]
  rcases Nat.lt_trichotomy V S with h | h | h
  · have : 2 ^ 51 * V < 2 ^ 51 * S := Nat.mul_lt_mul_of_pos_left h hp
    have g := hc.2.2 (by omega)
    rw [upB_less V S q h, upFs_less (wF A B) (51 + D) _ (by rw [hT2]; exact g)]
  · have g := hc.2.1 (by rw [h] at h1; omega)
    rw [upB_half V S q h, upFs_half (wF A B) (51 + D) _ (by rw [hT2]; exact g.1), hs0 g.2, hd]
    simp
  · have : 2 ^ 51 * S < 2 ^ 51 * V := Nat.mul_lt_mul_of_pos_left h hp
    have g := hc.1 (by omega)
    rw [upB_more V S q h, upFs_more (wF A B) (51 + D) _]
    rw [hT2]
    rcases g with g | ⟨g1, g2⟩
    · exact .inl g
    · exact .inr ⟨g1, hs1 g2⟩
theorem bits_any (w : World) (b A Bn mm : Nat) (D : Nat → Int) (nd : Nat) (dp : Int) (tr : Bool) (g : GD w b 2000 (wF A Bn) (wS A Bn) 200 D nd dp tr) (hT : TabD w b) (hp1 : -60 ≤ dp) (hp2 : dp ≤ 60) (hF1 : 140737488355328 ≤ wF A Bn) (hF2 : wF A Bn < 2 ^ 333) (hBn : 0 < Bn) (hl : LowB A Bn mm) :
    Calls Tryz.prog 160 #[.pointer (some ⟨b, 0, none⟩), .pointer (some ⟨8, 0, none⟩)] w fun e w' => e = .returned (.tuple #[.int .u64 (nearB A Bn mm : Nat), .bool (decide (nearB A Bn mm = 2139095040))]) ∧ Keep [b] w w' := by
  obtain ⟨M, hM⟩ : ∃ M, (wF A Bn).log2 + 1 = M := ⟨_, rfl⟩
  have hM0 : 1 ≤ M := by omega
  have hM2 : wF A Bn < 2 ^ M := by rw [← hM]; exact Nat.lt_log2_self
  have hM1 : 2 ^ M ≤ 2 * wF A Bn := by
    have := Nat.log2_self_le (n := wF A Bn) (by omega)
    rw [← hM, Nat.pow_succ]; omega
  -- the cut mantissa
  have hq : ∀ m' k, M = m' + k → wF A Bn / 2 ^ m' < 2 ^ k ∧ (1 ≤ k → 2 ^ (k - 1) ≤ wF A Bn / 2 ^ m') := by
    intro m' k e
    subst e
    refine ⟨?_, fun hk => ?_⟩
    · rw [Nat.div_lt_iff_lt_mul (Nat.two_pow_pos _), ← Nat.pow_add, Nat.add_comm k]; exact hM2
    · rw [Nat.le_div_iff_mul_le (Nat.two_pow_pos _), ← Nat.pow_add]
      rw [two_split (m' + k) (by omega), show m' + k - 1 = k - 1 + m' by omega] at hM1
      omega
  by_cases hbig : 329 ≤ M
  · have hn : nearB A Bn mm = 2139095040 := by
      refine near_inf A Bn (M - 75) mm hBn hl ?_ (by omega)
      rw [← wF_div A Bn (M - 75)]
      have := (hq (51 + (M - 75)) 24 (by omega)).2 (by decide)
      exact this
    rw [hn, decide_eq_true rfl]
    exact over_big w b _ _ D nd dp tr g hT hp1 hp2 hF1 hF2 M hM1 hM2 hM0 hbig
  · by_cases hlow : M < 75
    · have hq0 : A * 2 ^ 149 / (Bn * 2 ^ 0) < 8388608 := by
        rw [← wF_div A Bn 0, Nat.div_lt_iff_lt_mul (Nat.two_pow_pos _)]
        have : 2 ^ M ≤ 2 ^ 74 := Nat.pow_le_pow_right (by decide) (by omega)
        omega
      have hn := near_cut A Bn 0 mm hBn hl (.inr rfl) (by omega) (by omega)
      rw [mant_is A Bn 0 hBn, Nat.zero_mul, Nat.zero_add] at hn
      rw [← wF_div A Bn 0] at hq0
      have hm8 : nearB A Bn mm ≤ 8388608 := by
        rw [hn]; split <;> omega
      rw [decide_eq_false (by omega)]
      exact bits_den w b _ _ D nd dp tr g hT hp1 hp2 hF1 hF2 M hM1 hM2 hM0 hlow _ hn
    · obtain ⟨q1, q2⟩ := hq (M - 24) 24 (by omega)
      have q2' := q2 (by decide)
      have e51 : 51 + (M - 75) = M - 24 := by omega
      have hqd := wF_div A Bn (M - 75)
      rw [e51] at hqd
      rw [hqd] at q1 q2'
      have hn := near_cut A Bn (M - 75) mm hBn hl (.inl q2') q1 (by omega)
      rw [mant_is A Bn (M - 75) hBn, e51] at hn
      rw [← hqd] at q1 q2'
      by_cases hfin : nearB A Bn mm < 2139095040
      · rw [decide_eq_false (by omega), hn]
        exact bits_norm w b _ _ D nd dp tr g hT hp1 hp2 hF1 hF2 M hM1 hM2 hM0 (by omega) (by omega) _ rfl (by rw [← hn]; exact hfin)
      · have h24 : wF A Bn / 2 ^ (M - 24) + (if upFs (wF A Bn) (M - 24) (wS A Bn) = true then 1 else 0) = 16777216 ∧ M = 328 := by
          have : (if upFs (wF A Bn) (M - 24) (wS A Bn) = true then 1 else 0) ≤ 1 := by split <;> omega
          omega
        have hn2 : nearB A Bn mm = 2139095040 := by rw [hn, h24.1, h24.2]
        rw [hn2, decide_eq_true rfl]
        exact over_edge w b _ _ D nd dp tr g hT hp1 hp2 hF1 hF2 M hM1 hM2 hM0 h24.2 h24.1
end Go.Proofs.YtnljpbpphdhnpaaGreatDoor
