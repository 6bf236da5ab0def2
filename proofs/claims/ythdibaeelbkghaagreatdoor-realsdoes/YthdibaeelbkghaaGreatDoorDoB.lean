/- The document's product of two reals. -/
import Derived.Test.YthdibaeelbkghaaGreatDoorDoM
import Derived.Test.YthdibaeelbkghaaGreatDoorRefG
import Derived.Test.YthdibaeelbkghaaGreatDoorIntB
namespace Go.Proofs.YthdibaeelbkghaaGreatDoor
open Go.RowKit Go.PlainAid

theorem key_nan' {r : Nat} (h : r < 4294967296) (hk : keyN r = 4290772992) : nanB r = true := by
  cases hn : nanB r
  · unfold keyN at hk
    rw [hn, if_neg (by decide)] at hk
    unfold nanB at hn
    simp at hn
    split at hk <;> omega
  · rfl
theorem float_word (neg : Bool) (n : Nat) (h : n ≤ 2139095040) (w : World) : Calls Tryz.prog 22 #[.bool neg, .int .u32 (n : Int)] w fun e w' => e = .returned (.float .f32 (wordN neg n)) ∧ w' = w := float_any neg n h w
theorem nearB_le {A B n : Nat} (h : LowB A B n) : nearB A B n ≤ 2139095040 := by
  have := h.1
  unfold nearB
  split
  · omega
  · split <;> omega

theorem by_worth (x y : Nat) (M N : Nat) (E F : Int) (hM : M * 2 ^ (E + 149).toNat = valN x) (hN : N * 2 ^ (F + 149).toNat = valN y) (hE : -149 ≤ E) (hF : -149 ≤ F) :
    M * N * 2 ^ (E + F).toNat * 2 ^ 149 * 2 ^ 149 = valN x * valN y * 2 ^ (-(E + F)).toNat := by
  rw [← hM, ← hN]
  have e1 : M * N * 2 ^ (E + F).toNat * 2 ^ 149 * 2 ^ 149 = M * N * 2 ^ ((E + F).toNat + 149 + 149) := by
    rw [Nat.pow_add, Nat.pow_add]; simp only [Nat.mul_assoc]
  have e2 : M * 2 ^ (E + 149).toNat * (N * 2 ^ (F + 149).toNat) * 2 ^ (-(E + F)).toNat = M * N * 2 ^ ((E + 149).toNat + (F + 149).toNat + (-(E + F)).toNat) := by
    rw [Nat.pow_add, Nat.pow_add, Nat.mul_mul_mul_comm]; simp only [Nat.mul_assoc]
  rw [e1, e2]
  congr 2
  omega

theorem like_mul (a b n : Nat) (h1 : rungN a < 2139095040) (h2 : rungN b < 2139095040) (hl : LowB (atM (rungN a) * atM (rungN b) * 2 ^ (atE (rungN a) + atE (rungN b)).toNat) (2 ^ (-(atE (rungN a) + atE (rungN b))).toNat) n) :
    Like (wordN (sgnB a ^^ sgnB b) (nearB (atM (rungN a) * atM (rungN b) * 2 ^ (atE (rungN a) + atE (rungN b)).toNat) (2 ^ (-(atE (rungN a) + atE (rungN b))).toNat) n)) (doN 5 a b) := by
  have b1 := at_bounds (rungN a) (by omega)
  have b2 := at_bounds (rungN b) (by omega)
  have h3 := by_worth (rungN a) (rungN b) _ _ _ _ (at_worth _) (at_worth _) b1.2.1 b2.2.1
  obtain ⟨V, hV⟩ : ∃ V, atM (rungN a) * atM (rungN b) * 2 ^ (atE (rungN a) + atE (rungN b)).toNat * 2 ^ 149 = V := ⟨_, rfl⟩
  rw [hV] at h3
  have h4 := mul_num a b _ V _ n h1 h2 hV (Nat.two_pow_pos _) h3 hl
  rw [word_eq] at h4
  obtain ⟨w1, w2, _, _⟩ := wordN_facts (sgnB a ^^ sgnB b) _ (nearB_le hl)
  exact ⟨w1, .inr (doN_some (op := .mul) rfl h4 w2).symm⟩

set_option maxRecDepth 1000000 in
set_option maxHeartbeats 1600000 in
theorem by_fin (a b : Nat) (ha : a < 4294967296) (hb : b < 4294967296) (na : nanB a = false) (nb : nanB b = false) (hfin : rungN a < 2139095040 ∧ rungN b < 2139095040) (w : World) :
    Calls Tryz.prog 13 #[.float .f32 a, .float .f32 b] w fun e w' => ∃ r, e = .returned (.float .f32 r) ∧ Like r (doN 5 a b) ∧ Keep [] w w' := by
  have hra : rungN a ≤ 2139095040 := by simpa [nanB, rungN] using na
  have hrb : rungN b ≤ 2139095040 := by simpa [nanB, rungN] using nb
  have hBa := rBelow_any a ha
  have hBb := rBelow_any b hb
  rw [below_sgn a ha na] at hBa
  rw [below_sgn b hb nb] at hBb
  have hFa := finite_any a ha
  have hFb := finite_any b hb
  have hNa := number_any a ha na
  have hNb := number_any b hb nb
  rw [show finB a = true by unfold finB; simpa using hfin.1] at hFa
  rw [show finB b = true by unfold finB; simpa using hfin.2] at hFb
  have hAa := at_any (rungN a) hfin.1
  have hAb := at_any (rungN b) hfin.2
  have b1 := at_bounds (rungN a) hra
  have b2 := at_bounds (rungN b) hrb
  have hp : atM (rungN a) * atM (rungN b) < 281474976710656 := by
    have := Nat.mul_le_mul (show atM (rungN a) ≤ 16777215 by omega) (show atM (rungN b) ≤ 16777215 by omega)
    omega
  have hR := fun n => like_mul a b n hfin.1 hfin.2
  have hW0 := fun w => worth_any (atM (rungN a) * atM (rungN b)) (atE (rungN a) + atE (rungN b)) (by omega) (by omega) (by omega) w
  have HR : Hid _ := hR
  clear hR
  rw [show ((atM (rungN a) * atM (rungN b) : Nat) : Int) = ((atM (rungN a) : Nat) : Int) * ((atM (rungN b) : Nat) : Int) from Int.natCast_mul _ _] at hW0
  generalize hX : atM (rungN a) * atM (rungN b) * 2 ^ (atE (rungN a) + atE (rungN b)).toNat = X at *
  generalize hY : 2 ^ (-(atE (rungN a) + atE (rungN b))).toNat = Y at *
  clear hX hY
  have p0 : (0 : Int) ≤ ((atM (rungN a) : Nat) : Int) * ((atM (rungN b) : Nat) : Int) := by rw [← Int.natCast_mul]; omega
  have p1 : ((atM (rungN a) : Nat) : Int) * ((atM (rungN b) : Nat) : Int) < 281474976710656 := by rw [← Int.natCast_mul]; omega
  have b3 : -149 ≤ atE (rungN a) := b1.2.1
  have b4 : atE (rungN a) ≤ 105 := b1.2.2
  have b5 : -149 ≤ atE (rungN b) := b2.2.1
  have b6 : atE (rungN b) ≤ 105 := b2.2.2
  clear b1 b2 hp hfin na nb hra hrb
  generalize ((atM (rungN a) : Nat) : Int) = M at *
  generalize ((atM (rungN b) : Nat) : Int) = N at *
  generalize atE (rungN a) = E at *
  generalize atE (rungN b) = F at *
  generalize hpg : M * N = p at *
  generalize rungN a = ra at *
  generalize rungN b = rb at *
  generalize sgnB a = sa at *
  generalize sgnB b = sb at *
  generalize doN 5 a b = Z at *
  cases sa <;> cases sb
  all_goals
    go_enter Tryz.func13, Tryz.ntmps13
    go_wp2_with (first
      | (go_at_call_of 9 a; refine (hBa _).mono ?_; rintro e9 w9 ⟨rfl, hw9⟩; obtain rfl := hw9.symm)
      | (go_at_call_of 9 b; refine (hBb _).mono ?_; rintro e9 w9 ⟨rfl, hw9⟩; obtain rfl := hw9.symm)
      | (go_at_call_of 20 a; refine (hFa _).mono ?_; rintro e9 w9 ⟨rfl, n1, rfl⟩)
      | (go_at_call_of 20 b; refine (hFb _).mono ?_; rintro e9 w9 ⟨rfl, n2, rfl⟩)
      | (go_at_call_of 21 a; refine (hNa _).mono ?_; rintro e9 w9 ⟨rfl, hw9⟩; obtain rfl := hw9.symm)
      | (go_at_call_of 21 b; refine (hNb _).mono ?_; rintro e9 w9 ⟨rfl, hw9⟩; obtain rfl := hw9.symm)
      | (go_at_call_of 23 ra; refine (hAa _).mono ?_; rintro e9 w9 ⟨rfl, hw9⟩; obtain rfl := hw9.symm)
      | (go_at_call_of 23 rb; refine (hAb _).mono ?_; rintro e9 w9 ⟨rfl, hw9⟩; obtain rfl := hw9.symm)
      | (go_at_call 25; refine (hW0 _).mono ?_; rintro e9 w1 ⟨va, vb, rfl, ⟨h1, h2⟩, h3⟩)
      | (go_at_call 24; refine (nearest_any va vb X Y 1000 1000 w1 h1 h2 (by omega) (by omega)).mono ?_; rintro e9 w2 ⟨n, hl, rfl, hk2⟩; have HL : Hid (LowB X Y n ∧ Keep [] (w.drewN (n1 + n2)) w2) := ⟨hl, h3.trans' hk2⟩; have hF9 := fun neg => float_word neg (nearB X Y n) (nearB_le hl); clear hl hk2; generalize hgn : nearB X Y n = nn at *; have HGN : Hid (nearB X Y n = nn) := hgn; clear hgn)
      | (go_at_call 22; refine (hF9 _ _).mono ?_; rintro e9 w9 ⟨rfl, hw9⟩; obtain rfl := hw9.symm))
    go_ret
    refine ⟨_, rfl, ?_, ((Keep.refl [] w).drewN _).trans' HL.out.2⟩
    have := HR.out n HL.out.1
    rw [HGN.out] at this
    exact this
set_option maxRecDepth 1000000 in
set_option maxHeartbeats 1600000 in
theorem by_a0 (a b : Nat) (ha : a < 4294967296) (hb : b < 4294967296) (na : nanB a = false) (nb : nanB b = false) (hi : rungN a = 2139095040) (hz : rungN b = 0) (w : World) :
    Calls Tryz.prog 13 #[.float .f32 a, .float .f32 b] w fun e w' => ∃ r, e = .returned (.float .f32 r) ∧ Like r (doN 5 a b) ∧ Keep [] w w' := by
  have hra : rungN a ≤ 2139095040 := by simpa [nanB, rungN] using na
  have hrb : rungN b ≤ 2139095040 := by simpa [nanB, rungN] using nb
  have hBa := rBelow_any a ha
  have hBb := rBelow_any b hb
  rw [below_sgn a ha na] at hBa
  rw [below_sgn b hb nb] at hBb
  have hFa := finite_any a ha
  have hFb := finite_any b hb
  have hNa := number_any a ha na
  have hNb := number_any b hb nb
  have hZn : Ieee.single.mul a b = none → nanB (doN 5 a b) = true := fun h => by rw [doN_none (op := .mul) rfl h]; decide
  rw [show finB a = false by unfold finB; simp; omega] at hFa
  rw [hi] at hNa
  rw [show ((2139095040 : Nat) : Int) = 2139095040 from rfl] at hNa
  rw [hz] at hNb
  rw [show ((0 : Nat) : Int) = 0 from rfl] at hNb
  have HZ : Hid (nanB (doN 5 a b) = true) := hZn (mul_none' a b (.inl ⟨hi, hz⟩))
  clear hZn hi hz na nb hra hrb hFb
  generalize sgnB a = sa at *
  generalize sgnB b = sb at *
  generalize doN 5 a b = Z at *
  cases sa <;> cases sb
  all_goals
    go_enter Tryz.func13, Tryz.ntmps13
    go_wp2_with (first
      | (go_at_call_of 9 a; refine (hBa _).mono ?_; rintro e9 w9 ⟨rfl, hw9⟩; obtain rfl := hw9.symm)
      | (go_at_call_of 9 b; refine (hBb _).mono ?_; rintro e9 w9 ⟨rfl, hw9⟩; obtain rfl := hw9.symm)
      | (go_at_call_of 20 a; refine (hFa _).mono ?_; rintro e9 w9 ⟨rfl, n1, rfl⟩)
      | (go_at_call_of 21 a; refine (hNa _).mono ?_; rintro e9 w9 ⟨rfl, hw9⟩; obtain rfl := hw9.symm)
      | (go_at_call_of 21 b; refine (hNb _).mono ?_; rintro e9 w9 ⟨rfl, hw9⟩; obtain rfl := hw9.symm)
      | (go_at_call 12; refine (rNan_any _).mono ?_; rintro e9 w9 ⟨r, rfl, hr1, hr2, n3, rfl⟩))
    go_ret
    exact ⟨_, rfl, ⟨hr1, .inl ⟨key_nan' hr1 hr2, HZ.out⟩⟩, (Keep.refl [] w).drewN _⟩
set_option maxRecDepth 1000000 in
set_option maxHeartbeats 1600000 in
theorem by_a1 (a b : Nat) (ha : a < 4294967296) (hb : b < 4294967296) (na : nanB a = false) (nb : nanB b = false) (hi : rungN a = 2139095040) (hz : rungN b ≠ 0) (w : World) :
    Calls Tryz.prog 13 #[.float .f32 a, .float .f32 b] w fun e w' => ∃ r, e = .returned (.float .f32 r) ∧ Like r (doN 5 a b) ∧ Keep [] w w' := by
  have hra : rungN a ≤ 2139095040 := by simpa [nanB, rungN] using na
  have hrb : rungN b ≤ 2139095040 := by simpa [nanB, rungN] using nb
  have hBa := rBelow_any a ha
  have hBb := rBelow_any b hb
  rw [below_sgn a ha na] at hBa
  rw [below_sgn b hb nb] at hBb
  have hFa := finite_any a ha
  have hFb := finite_any b hb
  have hNa := number_any a ha na
  have hNb := number_any b hb nb
  have hZi : Ieee.single.mul a b = some (wordN (sgnB a ^^ sgnB b) 2139095040) → Like (wordN (sgnB a ^^ sgnB b) 2139095040) (doN 5 a b) := fun h => by
    obtain ⟨w1, w2, _, _⟩ := wordN_facts (sgnB a ^^ sgnB b) 2139095040 (Nat.le_refl _)
    exact ⟨w1, .inr (doN_some (op := .mul) rfl h w2).symm⟩
  have hF9 := fun neg => float_word neg 2139095040 (Nat.le_refl _)
  rw [show ((2139095040 : Nat) : Int) = 2139095040 from rfl] at hF9
  rw [show finB a = false by unfold finB; simp; omega] at hFa
  rw [hi] at hNa
  rw [show ((2139095040 : Nat) : Int) = 2139095040 from rfl] at hNa
  have HZ : Hid (Like (wordN (sgnB a ^^ sgnB b) 2139095040) (doN 5 a b)) := hZi (mul_inf' a b hra hrb (.inl ⟨hi, hz⟩))
  have t0 : ((rungN b : Int) == 0) = false := by simp; omega
  clear hZi hi hz na nb hra hrb hFb
  generalize sgnB a = sa at *
  generalize sgnB b = sb at *
  generalize doN 5 a b = Z at *
  generalize rungN b = rb at *
  cases sa <;> cases sb
  all_goals
    go_enter Tryz.func13, Tryz.ntmps13
    go_wp2_with (first
      | (go_at_call_of 9 a; refine (hBa _).mono ?_; rintro e9 w9 ⟨rfl, hw9⟩; obtain rfl := hw9.symm)
      | (go_at_call_of 9 b; refine (hBb _).mono ?_; rintro e9 w9 ⟨rfl, hw9⟩; obtain rfl := hw9.symm)
      | (go_at_call_of 20 a; refine (hFa _).mono ?_; rintro e9 w9 ⟨rfl, n1, rfl⟩)
      | (go_at_call_of 21 a; refine (hNa _).mono ?_; rintro e9 w9 ⟨rfl, hw9⟩; obtain rfl := hw9.symm)
      | (go_at_call_of 21 b; refine (hNb _).mono ?_; rintro e9 w9 ⟨rfl, hw9⟩; obtain rfl := hw9.symm)
      | (go_at_call 22; refine (hF9 _ _).mono ?_; rintro e9 w9 ⟨rfl, hw9⟩; obtain rfl := hw9.symm))
    go_ret
    exact ⟨_, rfl, HZ.out, (Keep.refl [] w).drewN _⟩
set_option maxRecDepth 1000000 in
set_option maxHeartbeats 1600000 in
theorem by_b0 (a b : Nat) (ha : a < 4294967296) (hb : b < 4294967296) (na : nanB a = false) (nb : nanB b = false) (hj : rungN b = 2139095040) (hz : rungN a = 0) (w : World) :
    Calls Tryz.prog 13 #[.float .f32 a, .float .f32 b] w fun e w' => ∃ r, e = .returned (.float .f32 r) ∧ Like r (doN 5 a b) ∧ Keep [] w w' := by
  have hra : rungN a ≤ 2139095040 := by simpa [nanB, rungN] using na
  have hrb : rungN b ≤ 2139095040 := by simpa [nanB, rungN] using nb
  have hBa := rBelow_any a ha
  have hBb := rBelow_any b hb
  rw [below_sgn a ha na] at hBa
  rw [below_sgn b hb nb] at hBb
  have hFa := finite_any a ha
  have hFb := finite_any b hb
  have hNa := number_any a ha na
  have hNb := number_any b hb nb
  have hZn : Ieee.single.mul a b = none → nanB (doN 5 a b) = true := fun h => by rw [doN_none (op := .mul) rfl h]; decide
  rw [show finB a = true by unfold finB; simp; omega] at hFa
  rw [show finB b = false by unfold finB; simp; omega] at hFb
  rw [hj] at hNb
  rw [show ((2139095040 : Nat) : Int) = 2139095040 from rfl] at hNb
  rw [hz] at hNa
  rw [show ((0 : Nat) : Int) = 0 from rfl] at hNa
  have HZ : Hid (nanB (doN 5 a b) = true) := hZn (mul_none' a b (.inr ⟨hz, hj⟩))
  clear hZn hj hz na nb hra hrb
  generalize sgnB a = sa at *
  generalize sgnB b = sb at *
  generalize doN 5 a b = Z at *
  cases sa <;> cases sb
  all_goals
    go_enter Tryz.func13, Tryz.ntmps13
    go_wp2_with (first
      | (go_at_call_of 9 a; refine (hBa _).mono ?_; rintro e9 w9 ⟨rfl, hw9⟩; obtain rfl := hw9.symm)
      | (go_at_call_of 9 b; refine (hBb _).mono ?_; rintro e9 w9 ⟨rfl, hw9⟩; obtain rfl := hw9.symm)
      | (go_at_call_of 20 a; refine (hFa _).mono ?_; rintro e9 w9 ⟨rfl, n1, rfl⟩)
      | (go_at_call_of 20 b; refine (hFb _).mono ?_; rintro e9 w9 ⟨rfl, n2, rfl⟩)
      | (go_at_call_of 21 a; refine (hNa _).mono ?_; rintro e9 w9 ⟨rfl, hw9⟩; obtain rfl := hw9.symm)
      | (go_at_call_of 21 b; refine (hNb _).mono ?_; rintro e9 w9 ⟨rfl, hw9⟩; obtain rfl := hw9.symm)
      | (go_at_call 12; refine (rNan_any _).mono ?_; rintro e9 w9 ⟨r, rfl, hr1, hr2, n3, rfl⟩))
    go_ret
    exact ⟨_, rfl, ⟨hr1, .inl ⟨key_nan' hr1 hr2, HZ.out⟩⟩, (Keep.refl [] w).drewN _⟩
set_option maxRecDepth 1000000 in
set_option maxHeartbeats 1600000 in
theorem by_b1 (a b : Nat) (ha : a < 4294967296) (hb : b < 4294967296) (na : nanB a = false) (nb : nanB b = false) (hi : rungN a ≠ 2139095040) (hj : rungN b = 2139095040) (hz : rungN a ≠ 0) (w : World) :
    Calls Tryz.prog 13 #[.float .f32 a, .float .f32 b] w fun e w' => ∃ r, e = .returned (.float .f32 r) ∧ Like r (doN 5 a b) ∧ Keep [] w w' := by
  have hra : rungN a ≤ 2139095040 := by simpa [nanB, rungN] using na
  have hrb : rungN b ≤ 2139095040 := by simpa [nanB, rungN] using nb
  have hBa := rBelow_any a ha
  have hBb := rBelow_any b hb
  rw [below_sgn a ha na] at hBa
  rw [below_sgn b hb nb] at hBb
  have hFa := finite_any a ha
  have hFb := finite_any b hb
  have hNa := number_any a ha na
  have hNb := number_any b hb nb
  have hZi : Ieee.single.mul a b = some (wordN (sgnB a ^^ sgnB b) 2139095040) → Like (wordN (sgnB a ^^ sgnB b) 2139095040) (doN 5 a b) := fun h => by
    obtain ⟨w1, w2, _, _⟩ := wordN_facts (sgnB a ^^ sgnB b) 2139095040 (Nat.le_refl _)
    exact ⟨w1, .inr (doN_some (op := .mul) rfl h w2).symm⟩
  have hF9 := fun neg => float_word neg 2139095040 (Nat.le_refl _)
  rw [show ((2139095040 : Nat) : Int) = 2139095040 from rfl] at hF9
  rw [show finB a = true by unfold finB; simp; omega] at hFa
  rw [show finB b = false by unfold finB; simp; omega] at hFb
  rw [hj] at hNb
  rw [show ((2139095040 : Nat) : Int) = 2139095040 from rfl] at hNb
  have HZ : Hid (Like (wordN (sgnB a ^^ sgnB b) 2139095040) (doN 5 a b)) := hZi (mul_inf' a b hra hrb (.inr ⟨hz, hj⟩))
  have t0 : ((rungN a : Int) == 0) = false := by simp; omega
  clear hZi hi hj hz na nb hra hrb
  generalize sgnB a = sa at *
  generalize sgnB b = sb at *
  generalize doN 5 a b = Z at *
  generalize rungN a = ra at *
  cases sa <;> cases sb
  all_goals
    go_enter Tryz.func13, Tryz.ntmps13
    go_wp2_with (first
      | (go_at_call_of 9 a; refine (hBa _).mono ?_; rintro e9 w9 ⟨rfl, hw9⟩; obtain rfl := hw9.symm)
      | (go_at_call_of 9 b; refine (hBb _).mono ?_; rintro e9 w9 ⟨rfl, hw9⟩; obtain rfl := hw9.symm)
      | (go_at_call_of 20 a; refine (hFa _).mono ?_; rintro e9 w9 ⟨rfl, n1, rfl⟩)
      | (go_at_call_of 20 b; refine (hFb _).mono ?_; rintro e9 w9 ⟨rfl, n2, rfl⟩)
      | (go_at_call_of 21 a; refine (hNa _).mono ?_; rintro e9 w9 ⟨rfl, hw9⟩; obtain rfl := hw9.symm)
      | (go_at_call_of 21 b; refine (hNb _).mono ?_; rintro e9 w9 ⟨rfl, hw9⟩; obtain rfl := hw9.symm)
      | (go_at_call 22; refine (hF9 _ _).mono ?_; rintro e9 w9 ⟨rfl, hw9⟩; obtain rfl := hw9.symm))
    go_ret
    exact ⟨_, rfl, HZ.out, (Keep.refl [] w).drewN _⟩
theorem by_any (a b : Nat) (ha : a < 4294967296) (hb : b < 4294967296) (na : nanB a = false) (nb : nanB b = false) (w : World) :
    Calls Tryz.prog 13 #[.float .f32 a, .float .f32 b] w fun e w' => ∃ r, e = .returned (.float .f32 r) ∧ Like r (doN 5 a b) ∧ Keep [] w w' := by
  have hra : rungN a ≤ 2139095040 := by simpa [nanB, rungN] using na
  have hrb : rungN b ≤ 2139095040 := by simpa [nanB, rungN] using nb
  by_cases hi : rungN a = 2139095040
  · by_cases hz : rungN b = 0
    · exact by_a0 a b ha hb na nb hi hz w
    · exact by_a1 a b ha hb na nb hi hz w
  · by_cases hj : rungN b = 2139095040
    · by_cases hz : rungN a = 0
      · exact by_b0 a b ha hb na nb hj hz w
      · exact by_b1 a b ha hb na nb hi hj hz w
    · exact by_fin a b ha hb na nb ⟨by omega, by omega⟩ w
end Go.Proofs.YthdibaeelbkghaaGreatDoor
