/- The document's sum of two finite reals. -/
import Derived.Test.YthdibaeelbkghaaGreatDoorDoD
namespace Go.Proofs.YthdibaeelbkghaaGreatDoor
open Go.RowKit Go.PlainAid

set_option maxRecDepth 1000000 in
set_option maxHeartbeats 1600000 in
theorem plus_same (a b : Nat) (ha : a < 4294967296) (hb : b < 4294967296) (na : nanB a = false) (nb : nanB b = false) (hfa : rungN a < 2139095040) (hfb : rungN b < 2139095040) (hs : sgnB b = sgnB a) (h0 : valN (rungN a) + valN (rungN b) ≠ 0) (w : World) :
    Calls Tryz.prog 15 #[.float .f32 a, .float .f32 b] w fun e w' => ∃ r, e = .returned (.float .f32 r) ∧ Like r (doN 7 a b) ∧ Keep [] w w' := by
  have hBa := rBelow_any a ha
  have hBb := rBelow_any b hb
  rw [below_sgn a ha na] at hBa
  rw [below_sgn b hb nb] at hBb
  have hFa := finite_any a ha
  have hFb := finite_any b hb
  rw [show finB a = true by unfold finB; simpa using hfa] at hFa
  rw [show finB b = true by unfold finB; simpa using hfb] at hFb
  have hNa := number_any a ha na
  have hNb := number_any b hb nb
  have hAa := at_any (rungN a) hfa
  have hAb := at_any (rungN b) hfb
  have hPa := pow_at (rungN a) (by omega)
  have hPb := pow_at (rungN b) (by omega)
  have b1 := at_bounds (rungN a) (by omega)
  have b2 := at_bounds (rungN b) (by omega)
  have hUa := fun w => number_big (atM (rungN a)) (by omega) w
  have hUb := fun w => number_big (atM (rungN b)) (by omega) w
  have b3 : -149 ≤ atE (rungN a) := b1.2.1
  have b4 : atE (rungN a) ≤ 105 := b1.2.2
  have b5 : -149 ≤ atE (rungN b) := b2.2.1
  have b6 : atE (rungN b) ≤ 105 := b2.2.2
  have HR : Hid _ := add_same a b hfa hfb hs h0
  rw [hs] at hBb
  try rw [hs] at HR
  clear hs
  clear b1 b2 hfa hfb na nb
  generalize atM (rungN a) = M at *
  generalize atM (rungN b) = N at *
  generalize atE (rungN a) = E at *
  generalize atE (rungN b) = F at *
  generalize valN (rungN a) = va at *
  generalize valN (rungN b) = vb at *
  generalize rungN a = ra at *
  generalize rungN b = rb at *
  generalize sgnB a = sa at *
  generalize doN 7 a b = Z at *
  have hsb : (sa == sa) = true := by simp
  go_enter Tryz.func15, Tryz.ntmps15
  go_wp2_with (first
    | (go_at_call_of 9 a; refine (hBa _).mono ?_; rintro e9 w9 ⟨rfl, hw9⟩; obtain rfl := hw9.symm)
    | (go_at_call_of 9 b; refine (hBb _).mono ?_; rintro e9 w9 ⟨rfl, hw9⟩; obtain rfl := hw9.symm)
    | (go_at_call_of 20 a; refine (hFa _).mono ?_; rintro e9 w9 ⟨rfl, n1, rfl⟩)
    | (go_at_call_of 20 b; refine (hFb _).mono ?_; rintro e9 w9 ⟨rfl, n2, rfl⟩)
    | (go_at_call_of 21 a; refine (hNa _).mono ?_; rintro e9 w9 ⟨rfl, hw9⟩; obtain rfl := hw9.symm)
    | (go_at_call_of 21 b; refine (hNb _).mono ?_; rintro e9 w9 ⟨rfl, hw9⟩; obtain rfl := hw9.symm)
    | (go_at_call_of 23 ra; refine (hAa _).mono ?_; rintro e9 w9 ⟨rfl, hw9⟩; obtain rfl := hw9.symm)
    | (go_at_call_of 23 rb; refine (hAb _).mono ?_; rintro e9 w9 ⟨rfl, hw9⟩; obtain rfl := hw9.symm)
    | (go_at_call_of 27 M; refine (hUa _).mono ?_; rintro e9 w1 ⟨v1, rfl, hb1, hf1, hk1⟩)
    | (go_at_call_of 28 E; refine (hPa v1 w1 hb1).mono ?_; rintro e9 w2 ⟨xo, xn, xc, rfl, hx2, hk2⟩; have HA : Hid (Big w2 (.slice xo xn xc) va 300 ∧ Keep [] (w.drewN (n1 + n2)) w2) := ⟨hx2, hk1.trans' hk2⟩; clear hb1 hf1 hk1 hx2 hk2)
    | (go_at_call_of 27 N; refine (hUb _).mono ?_; rintro e9 w3 ⟨v3, rfl, hb3, hf3, hk3⟩)
    | (go_at_call_of 28 F; refine (hPb v3 w3 hb3).mono ?_; rintro e9 w4 ⟨yo, yn, yc, rfl, hy4, hk4⟩; have HB : Hid (Big w4 (.slice xo xn xc) va 300 ∧ Big w4 (.slice yo yn yc) vb 300 ∧ Keep [] (w.drewN (n1 + n2)) w4) := ⟨HA.out.1.keep (hk3.trans' hk4) (Off.nil _), hy4, HA.out.2.trans' (hk3.trans' hk4)⟩; clear hb3 hf3 hk3 hy4 hk4 HA)
    | (go_at_call 29; refine (sum_at (.slice xo xn xc) (.slice yo yn yc) va vb w4 HB.out.1 HB.out.2.1).mono ?_; rintro e9 w5 ⟨zo, zn, zc, rfl, hz5, hl5, hk5⟩; have t9 : ((zn : Int) == 0) = false := beq_eq_false_iff_ne.2 (by omega); have HZ : Hid (Big w5 (.slice zo zn zc) (va + vb) 400 ∧ Keep [] (w.drewN (n1 + n2)) w5) := ⟨hz5, HB.out.2.2.trans' hk5⟩; clear hz5 hl5 hk5)
    | (go_at_call 28; refine (pow_one w5).mono ?_; rintro e9 w6 ⟨po, pn, pc, rfl, hp6, hk6⟩)
    | (go_at_call 24; refine (nearest_any (.slice zo zn zc) (.slice po pn pc) (va + vb) (2 ^ 149) 400 300 w6 ((HZ.out.1.keep (Keep.alloc1 w5 _) (Off.nil _)).keep hk6 (Off.nil _)) hp6 (by omega) (by omega)).mono ?_; rintro e9 w7 ⟨n, hl, rfl, hk7⟩; have hF9 := fun neg => float_word neg (nearB (va + vb) (2 ^ 149) n) (nearB_le hl); rw [near_sum _ n hl] at hF9 ⊢; have HK : Hid (Keep [] (w.drewN (n1 + n2)) w7) := HZ.out.2.trans' (((Keep.alloc1 w5 _).trans' hk6).trans' hk7); clear hl hk6 hk7 hp6; generalize hgn : rndR (va + vb) = nn at *; clear hgn)
    | (go_at_call 22; refine (hF9 _ _).mono ?_; rintro e9 w9 ⟨rfl, hw9⟩; obtain rfl := hw9.symm))
  go_ret
  exact ⟨_, rfl, HR.out, ((Keep.refl [] w).drewN _).trans' HK.out⟩

set_option maxRecDepth 1000000 in
set_option maxHeartbeats 1600000 in
theorem plus_same0 (a b : Nat) (ha : a < 4294967296) (hb : b < 4294967296) (na : nanB a = false) (nb : nanB b = false) (hfa : rungN a < 2139095040) (hfb : rungN b < 2139095040) (hs : sgnB b = sgnB a) (h0 : valN (rungN a) + valN (rungN b) = 0) (w : World) :
    Calls Tryz.prog 15 #[.float .f32 a, .float .f32 b] w fun e w' => ∃ r, e = .returned (.float .f32 r) ∧ Like r (doN 7 a b) ∧ Keep [] w w' := by
  have hBa := rBelow_any a ha
  have hBb := rBelow_any b hb
  rw [below_sgn a ha na] at hBa
  rw [below_sgn b hb nb] at hBb
  have hFa := finite_any a ha
  have hFb := finite_any b hb
  rw [show finB a = true by unfold finB; simpa using hfa] at hFa
  rw [show finB b = true by unfold finB; simpa using hfb] at hFb
  have hNa := number_any a ha na
  have hNb := number_any b hb nb
  have hAa := at_any (rungN a) hfa
  have hAb := at_any (rungN b) hfb
  have hPa := pow_at (rungN a) (by omega)
  have hPb := pow_at (rungN b) (by omega)
  have b1 := at_bounds (rungN a) (by omega)
  have b2 := at_bounds (rungN b) (by omega)
  have hUa := fun w => number_big (atM (rungN a)) (by omega) w
  have hUb := fun w => number_big (atM (rungN b)) (by omega) w
  have b3 : -149 ≤ atE (rungN a) := b1.2.1
  have b4 : atE (rungN a) ≤ 105 := b1.2.2
  have b5 : -149 ≤ atE (rungN b) := b2.2.1
  have b6 : atE (rungN b) ≤ 105 := b2.2.2
  have HR : Hid _ := add_same0 a b hfa hfb h0
  have hF0 := fun neg => float_word neg 0 (by decide)
  rw [show ((0 : Nat) : Int) = 0 from rfl] at hF0
  rw [hs] at hBb
  try rw [hs] at HR
  clear hs
  clear b1 b2 hfa hfb na nb
  generalize atM (rungN a) = M at *
  generalize atM (rungN b) = N at *
  generalize atE (rungN a) = E at *
  generalize atE (rungN b) = F at *
  generalize valN (rungN a) = va at *
  generalize valN (rungN b) = vb at *
  generalize rungN a = ra at *
  generalize rungN b = rb at *
  generalize sgnB a = sa at *
  generalize doN 7 a b = Z at *
  cases sa
  all_goals
    go_enter Tryz.func15, Tryz.ntmps15
    go_wp2_with (first
      | (go_at_call_of 9 a; refine (hBa _).mono ?_; rintro e9 w9 ⟨rfl, hw9⟩; obtain rfl := hw9.symm)
      | (go_at_call_of 9 b; refine (hBb _).mono ?_; rintro e9 w9 ⟨rfl, hw9⟩; obtain rfl := hw9.symm)
      | (go_at_call_of 20 a; refine (hFa _).mono ?_; rintro e9 w9 ⟨rfl, n1, rfl⟩)
      | (go_at_call_of 20 b; refine (hFb _).mono ?_; rintro e9 w9 ⟨rfl, n2, rfl⟩)
      | (go_at_call_of 21 a; refine (hNa _).mono ?_; rintro e9 w9 ⟨rfl, hw9⟩; obtain rfl := hw9.symm)
      | (go_at_call_of 21 b; refine (hNb _).mono ?_; rintro e9 w9 ⟨rfl, hw9⟩; obtain rfl := hw9.symm)
      | (go_at_call_of 23 ra; refine (hAa _).mono ?_; rintro e9 w9 ⟨rfl, hw9⟩; obtain rfl := hw9.symm)
      | (go_at_call_of 23 rb; refine (hAb _).mono ?_; rintro e9 w9 ⟨rfl, hw9⟩; obtain rfl := hw9.symm)
      | (go_at_call_of 27 M; refine (hUa _).mono ?_; rintro e9 w1 ⟨v1, rfl, hb1, hf1, hk1⟩)
      | (go_at_call_of 28 E; refine (hPa v1 w1 hb1).mono ?_; rintro e9 w2 ⟨xo, xn, xc, rfl, hx2, hk2⟩; have HA : Hid (Big w2 (.slice xo xn xc) va 300 ∧ Keep [] (w.drewN (n1 + n2)) w2) := ⟨hx2, hk1.trans' hk2⟩; clear hb1 hf1 hk1 hx2 hk2)
      | (go_at_call_of 27 N; refine (hUb _).mono ?_; rintro e9 w3 ⟨v3, rfl, hb3, hf3, hk3⟩)
      | (go_at_call_of 28 F; refine (hPb v3 w3 hb3).mono ?_; rintro e9 w4 ⟨yo, yn, yc, rfl, hy4, hk4⟩; have HB : Hid (Big w4 (.slice xo xn xc) va 300 ∧ Big w4 (.slice yo yn yc) vb 300 ∧ Keep [] (w.drewN (n1 + n2)) w4) := ⟨HA.out.1.keep (hk3.trans' hk4) (Off.nil _), hy4, HA.out.2.trans' (hk3.trans' hk4)⟩; clear hb3 hf3 hk3 hy4 hk4 HA)
      | (go_at_call 29; refine (sum_at (.slice xo xn xc) (.slice yo yn yc) va vb w4 HB.out.1 HB.out.2.1).mono ?_; rintro e9 w5 ⟨zo, zn, zc, rfl, hz5, hl5, hk5⟩; have t9 : ((zn : Int) == 0) = true := beq_iff_eq.2 (by omega); have HZ : Hid (Big w5 (.slice zo zn zc) (va + vb) 400 ∧ Keep [] (w.drewN (n1 + n2)) w5) := ⟨hz5, HB.out.2.2.trans' hk5⟩; clear hz5 hl5 hk5)
      | (go_at_call 22; refine (hF0 _ _).mono ?_; rintro e9 w9 ⟨rfl, hw9⟩; obtain rfl := hw9.symm))
    go_ret
    exact ⟨_, rfl, HR.out, ((Keep.refl [] w).drewN _).trans' HZ.out.2⟩

set_option maxRecDepth 1000000 in
set_option maxHeartbeats 1600000 in
theorem plus_more (a b : Nat) (ha : a < 4294967296) (hb : b < 4294967296) (na : nanB a = false) (nb : nanB b = false) (hfa : rungN a < 2139095040) (hfb : rungN b < 2139095040) (hs : sgnB b = !sgnB a) (h0 : valN (rungN b) < valN (rungN a)) (w : World) :
    Calls Tryz.prog 15 #[.float .f32 a, .float .f32 b] w fun e w' => ∃ r, e = .returned (.float .f32 r) ∧ Like r (doN 7 a b) ∧ Keep [] w w' := by
  have hBa := rBelow_any a ha
  have hBb := rBelow_any b hb
  rw [below_sgn a ha na] at hBa
  rw [below_sgn b hb nb] at hBb
  have hFa := finite_any a ha
  have hFb := finite_any b hb
  rw [show finB a = true by unfold finB; simpa using hfa] at hFa
  rw [show finB b = true by unfold finB; simpa using hfb] at hFb
  have hNa := number_any a ha na
  have hNb := number_any b hb nb
  have hAa := at_any (rungN a) hfa
  have hAb := at_any (rungN b) hfb
  have hPa := pow_at (rungN a) (by omega)
  have hPb := pow_at (rungN b) (by omega)
  have b1 := at_bounds (rungN a) (by omega)
  have b2 := at_bounds (rungN b) (by omega)
  have hUa := fun w => number_big (atM (rungN a)) (by omega) w
  have hUb := fun w => number_big (atM (rungN b)) (by omega) w
  have b3 : -149 ≤ atE (rungN a) := b1.2.1
  have b4 : atE (rungN a) ≤ 105 := b1.2.2
  have b5 : -149 ≤ atE (rungN b) := b2.2.1
  have b6 : atE (rungN b) ≤ 105 := b2.2.2
  have HR : Hid _ := add_more a b hfa hfb hs h0
  rw [hs] at hBb
  try rw [hs] at HR
  clear hs
  clear b1 b2 hfa hfb na nb
  generalize atM (rungN a) = M at *
  generalize atM (rungN b) = N at *
  generalize atE (rungN a) = E at *
  generalize atE (rungN b) = F at *
  generalize valN (rungN a) = va at *
  generalize valN (rungN b) = vb at *
  generalize rungN a = ra at *
  generalize rungN b = rb at *
  generalize sgnB a = sa at *
  generalize doN 7 a b = Z at *
  have hsb : (sa == !sa) = false := by cases sa <;> rfl
  have hcmp : cmpI (va : Nat) (vb : Nat) = 1 := by unfold cmpI; rw [if_neg (by omega), if_pos (by omega)]
  go_enter Tryz.func15, Tryz.ntmps15
  go_wp2_with (first
    | (go_at_call_of 9 a; refine (hBa _).mono ?_; rintro e9 w9 ⟨rfl, hw9⟩; obtain rfl := hw9.symm)
    | (go_at_call_of 9 b; refine (hBb _).mono ?_; rintro e9 w9 ⟨rfl, hw9⟩; obtain rfl := hw9.symm)
    | (go_at_call_of 20 a; refine (hFa _).mono ?_; rintro e9 w9 ⟨rfl, n1, rfl⟩)
    | (go_at_call_of 20 b; refine (hFb _).mono ?_; rintro e9 w9 ⟨rfl, n2, rfl⟩)
    | (go_at_call_of 21 a; refine (hNa _).mono ?_; rintro e9 w9 ⟨rfl, hw9⟩; obtain rfl := hw9.symm)
    | (go_at_call_of 21 b; refine (hNb _).mono ?_; rintro e9 w9 ⟨rfl, hw9⟩; obtain rfl := hw9.symm)
    | (go_at_call_of 23 ra; refine (hAa _).mono ?_; rintro e9 w9 ⟨rfl, hw9⟩; obtain rfl := hw9.symm)
    | (go_at_call_of 23 rb; refine (hAb _).mono ?_; rintro e9 w9 ⟨rfl, hw9⟩; obtain rfl := hw9.symm)
    | (go_at_call_of 27 M; refine (hUa _).mono ?_; rintro e9 w1 ⟨v1, rfl, hb1, hf1, hk1⟩)
    | (go_at_call_of 28 E; refine (hPa v1 w1 hb1).mono ?_; rintro e9 w2 ⟨xo, xn, xc, rfl, hx2, hk2⟩; have HA : Hid (Big w2 (.slice xo xn xc) va 300 ∧ Keep [] (w.drewN (n1 + n2)) w2) := ⟨hx2, hk1.trans' hk2⟩; clear hb1 hf1 hk1 hx2 hk2)
    | (go_at_call_of 27 N; refine (hUb _).mono ?_; rintro e9 w3 ⟨v3, rfl, hb3, hf3, hk3⟩)
    | (go_at_call_of 28 F; refine (hPb v3 w3 hb3).mono ?_; rintro e9 w4 ⟨yo, yn, yc, rfl, hy4, hk4⟩; have HB : Hid (Big w4 (.slice xo xn xc) va 300 ∧ Big w4 (.slice yo yn yc) vb 300 ∧ Keep [] (w.drewN (n1 + n2)) w4) := ⟨HA.out.1.keep (hk3.trans' hk4) (Off.nil _), hy4, HA.out.2.trans' (hk3.trans' hk4)⟩; clear hb3 hf3 hk3 hy4 hk4 HA)
    | (go_at_call 30; refine (compare_nums (.slice xo xn xc) (.slice yo yn yc) va vb 300 300 w4 HB.out.1 HB.out.2.1).mono ?_; rw [hcmp]; rintro e9 w5c ⟨rfl, hk5c⟩)
    | (go_at_call 31; refine (less_at (.slice xo xn xc) (.slice yo yn yc) va vb w5c (HB.out.1.keep hk5c (Off.nil _)) (HB.out.2.1.keep hk5c (Off.nil _)) (by omega)).mono ?_; rintro e9 w5 ⟨zo, zn, zc, rfl, hz5, hl5, hk5⟩; have t9 : ((zn : Int) == 0) = false := beq_eq_false_iff_ne.2 (by omega); have HZ : Hid (Big w5 (.slice zo zn zc) (va - vb) 400 ∧ Keep [] (w.drewN (n1 + n2)) w5) := ⟨hz5, HB.out.2.2.trans' (hk5c.trans' hk5)⟩; clear hz5 hl5 hk5)
    | (go_at_call 28; refine (pow_one w5).mono ?_; rintro e9 w6 ⟨po, pn, pc, rfl, hp6, hk6⟩)
    | (go_at_call 24; refine (nearest_any (.slice zo zn zc) (.slice po pn pc) (va - vb) (2 ^ 149) 400 300 w6 ((HZ.out.1.keep (Keep.alloc1 w5 _) (Off.nil _)).keep hk6 (Off.nil _)) hp6 (by omega) (by omega)).mono ?_; rintro e9 w7 ⟨n, hl, rfl, hk7⟩; have hF9 := fun neg => float_word neg (nearB (va - vb) (2 ^ 149) n) (nearB_le hl); rw [near_sum _ n hl] at hF9 ⊢; have HK : Hid (Keep [] (w.drewN (n1 + n2)) w7) := HZ.out.2.trans' (((Keep.alloc1 w5 _).trans' hk6).trans' hk7); clear hl hk6 hk7 hp6; generalize hgn : rndR (va - vb) = nn at *; clear hgn)
    | (go_at_call 22; refine (hF9 _ _).mono ?_; rintro e9 w9 ⟨rfl, hw9⟩; obtain rfl := hw9.symm))
  go_ret
  exact ⟨_, rfl, HR.out, ((Keep.refl [] w).drewN _).trans' HK.out⟩

set_option maxRecDepth 1000000 in
set_option maxHeartbeats 1600000 in
theorem plus_fewer (a b : Nat) (ha : a < 4294967296) (hb : b < 4294967296) (na : nanB a = false) (nb : nanB b = false) (hfa : rungN a < 2139095040) (hfb : rungN b < 2139095040) (hs : sgnB b = !sgnB a) (h0 : valN (rungN a) < valN (rungN b)) (w : World) :
    Calls Tryz.prog 15 #[.float .f32 a, .float .f32 b] w fun e w' => ∃ r, e = .returned (.float .f32 r) ∧ Like r (doN 7 a b) ∧ Keep [] w w' := by
  have hBa := rBelow_any a ha
  have hBb := rBelow_any b hb
  rw [below_sgn a ha na] at hBa
  rw [below_sgn b hb nb] at hBb
  have hFa := finite_any a ha
  have hFb := finite_any b hb
  rw [show finB a = true by unfold finB; simpa using hfa] at hFa
  rw [show finB b = true by unfold finB; simpa using hfb] at hFb
  have hNa := number_any a ha na
  have hNb := number_any b hb nb
  have hAa := at_any (rungN a) hfa
  have hAb := at_any (rungN b) hfb
  have hPa := pow_at (rungN a) (by omega)
  have hPb := pow_at (rungN b) (by omega)
  have b1 := at_bounds (rungN a) (by omega)
  have b2 := at_bounds (rungN b) (by omega)
  have hUa := fun w => number_big (atM (rungN a)) (by omega) w
  have hUb := fun w => number_big (atM (rungN b)) (by omega) w
  have b3 : -149 ≤ atE (rungN a) := b1.2.1
  have b4 : atE (rungN a) ≤ 105 := b1.2.2
  have b5 : -149 ≤ atE (rungN b) := b2.2.1
  have b6 : atE (rungN b) ≤ 105 := b2.2.2
  have HR : Hid _ := add_fewer a b hfa hfb hs h0
  rw [hs] at hBb
  try rw [hs] at HR
  clear hs
  clear b1 b2 hfa hfb na nb
  generalize atM (rungN a) = M at *
  generalize atM (rungN b) = N at *
  generalize atE (rungN a) = E at *
  generalize atE (rungN b) = F at *
  generalize valN (rungN a) = va at *
  generalize valN (rungN b) = vb at *
  generalize rungN a = ra at *
  generalize rungN b = rb at *
  generalize sgnB a = sa at *
  generalize doN 7 a b = Z at *
  have hsb : (sa == !sa) = false := by cases sa <;> rfl
  have hcmp : cmpI (va : Nat) (vb : Nat) = -1 := by unfold cmpI; rw [if_pos (by omega)]
  go_enter Tryz.func15, Tryz.ntmps15
  go_wp2_with (first
    | (go_at_call_of 9 a; refine (hBa _).mono ?_; rintro e9 w9 ⟨rfl, hw9⟩; obtain rfl := hw9.symm)
    | (go_at_call_of 9 b; refine (hBb _).mono ?_; rintro e9 w9 ⟨rfl, hw9⟩; obtain rfl := hw9.symm)
    | (go_at_call_of 20 a; refine (hFa _).mono ?_; rintro e9 w9 ⟨rfl, n1, rfl⟩)
    | (go_at_call_of 20 b; refine (hFb _).mono ?_; rintro e9 w9 ⟨rfl, n2, rfl⟩)
    | (go_at_call_of 21 a; refine (hNa _).mono ?_; rintro e9 w9 ⟨rfl, hw9⟩; obtain rfl := hw9.symm)
    | (go_at_call_of 21 b; refine (hNb _).mono ?_; rintro e9 w9 ⟨rfl, hw9⟩; obtain rfl := hw9.symm)
    | (go_at_call_of 23 ra; refine (hAa _).mono ?_; rintro e9 w9 ⟨rfl, hw9⟩; obtain rfl := hw9.symm)
    | (go_at_call_of 23 rb; refine (hAb _).mono ?_; rintro e9 w9 ⟨rfl, hw9⟩; obtain rfl := hw9.symm)
    | (go_at_call_of 27 M; refine (hUa _).mono ?_; rintro e9 w1 ⟨v1, rfl, hb1, hf1, hk1⟩)
    | (go_at_call_of 28 E; refine (hPa v1 w1 hb1).mono ?_; rintro e9 w2 ⟨xo, xn, xc, rfl, hx2, hk2⟩; have HA : Hid (Big w2 (.slice xo xn xc) va 300 ∧ Keep [] (w.drewN (n1 + n2)) w2) := ⟨hx2, hk1.trans' hk2⟩; clear hb1 hf1 hk1 hx2 hk2)
    | (go_at_call_of 27 N; refine (hUb _).mono ?_; rintro e9 w3 ⟨v3, rfl, hb3, hf3, hk3⟩)
    | (go_at_call_of 28 F; refine (hPb v3 w3 hb3).mono ?_; rintro e9 w4 ⟨yo, yn, yc, rfl, hy4, hk4⟩; have HB : Hid (Big w4 (.slice xo xn xc) va 300 ∧ Big w4 (.slice yo yn yc) vb 300 ∧ Keep [] (w.drewN (n1 + n2)) w4) := ⟨HA.out.1.keep (hk3.trans' hk4) (Off.nil _), hy4, HA.out.2.trans' (hk3.trans' hk4)⟩; clear hb3 hf3 hk3 hy4 hk4 HA)
    | (go_at_call 30; refine (compare_nums (.slice xo xn xc) (.slice yo yn yc) va vb 300 300 w4 HB.out.1 HB.out.2.1).mono ?_; rw [hcmp]; rintro e9 w5c ⟨rfl, hk5c⟩)
    | (go_at_call 31; refine (less_at (.slice yo yn yc) (.slice xo xn xc) vb va w5c (HB.out.2.1.keep hk5c (Off.nil _)) (HB.out.1.keep hk5c (Off.nil _)) (by omega)).mono ?_; rintro e9 w5 ⟨zo, zn, zc, rfl, hz5, hl5, hk5⟩; have t9 : ((zn : Int) == 0) = false := beq_eq_false_iff_ne.2 (by omega); have HZ : Hid (Big w5 (.slice zo zn zc) (vb - va) 400 ∧ Keep [] (w.drewN (n1 + n2)) w5) := ⟨hz5, HB.out.2.2.trans' (hk5c.trans' hk5)⟩; clear hz5 hl5 hk5)
    | (go_at_call 28; refine (pow_one w5).mono ?_; rintro e9 w6 ⟨po, pn, pc, rfl, hp6, hk6⟩)
    | (go_at_call 24; refine (nearest_any (.slice zo zn zc) (.slice po pn pc) (vb - va) (2 ^ 149) 400 300 w6 ((HZ.out.1.keep (Keep.alloc1 w5 _) (Off.nil _)).keep hk6 (Off.nil _)) hp6 (by omega) (by omega)).mono ?_; rintro e9 w7 ⟨n, hl, rfl, hk7⟩; have hF9 := fun neg => float_word neg (nearB (vb - va) (2 ^ 149) n) (nearB_le hl); rw [near_sum _ n hl] at hF9 ⊢; have HK : Hid (Keep [] (w.drewN (n1 + n2)) w7) := HZ.out.2.trans' (((Keep.alloc1 w5 _).trans' hk6).trans' hk7); clear hl hk6 hk7 hp6; generalize hgn : rndR (vb - va) = nn at *; clear hgn)
    | (go_at_call 22; refine (hF9 _ _).mono ?_; rintro e9 w9 ⟨rfl, hw9⟩; obtain rfl := hw9.symm))
  go_ret
  exact ⟨_, rfl, HR.out, ((Keep.refl [] w).drewN _).trans' HK.out⟩

set_option maxRecDepth 1000000 in
set_option maxHeartbeats 1600000 in
theorem plus_none (a b : Nat) (ha : a < 4294967296) (hb : b < 4294967296) (na : nanB a = false) (nb : nanB b = false) (hfa : rungN a < 2139095040) (hfb : rungN b < 2139095040) (hs : sgnB b = !sgnB a) (h0 : valN (rungN a) = valN (rungN b)) (w : World) :
    Calls Tryz.prog 15 #[.float .f32 a, .float .f32 b] w fun e w' => ∃ r, e = .returned (.float .f32 r) ∧ Like r (doN 7 a b) ∧ Keep [] w w' := by
  have hBa := rBelow_any a ha
  have hBb := rBelow_any b hb
  rw [below_sgn a ha na] at hBa
  rw [below_sgn b hb nb] at hBb
  have hFa := finite_any a ha
  have hFb := finite_any b hb
  rw [show finB a = true by unfold finB; simpa using hfa] at hFa
  rw [show finB b = true by unfold finB; simpa using hfb] at hFb
  have hNa := number_any a ha na
  have hNb := number_any b hb nb
  have hAa := at_any (rungN a) hfa
  have hAb := at_any (rungN b) hfb
  have hPa := pow_at (rungN a) (by omega)
  have hPb := pow_at (rungN b) (by omega)
  have b1 := at_bounds (rungN a) (by omega)
  have b2 := at_bounds (rungN b) (by omega)
  have hUa := fun w => number_big (atM (rungN a)) (by omega) w
  have hUb := fun w => number_big (atM (rungN b)) (by omega) w
  have b3 : -149 ≤ atE (rungN a) := b1.2.1
  have b4 : atE (rungN a) ≤ 105 := b1.2.2
  have b5 : -149 ≤ atE (rungN b) := b2.2.1
  have b6 : atE (rungN b) ≤ 105 := b2.2.2
  have HR : Hid _ := add_none a b hfa hfb hs h0
  have hF0 := fun neg => float_word neg 0 (by decide)
  rw [show ((0 : Nat) : Int) = 0 from rfl] at hF0
  rw [hs] at hBb
  try rw [hs] at HR
  clear hs
  clear b1 b2 hfa hfb na nb
  generalize atM (rungN a) = M at *
  generalize atM (rungN b) = N at *
  generalize atE (rungN a) = E at *
  generalize atE (rungN b) = F at *
  generalize valN (rungN a) = va at *
  generalize valN (rungN b) = vb at *
  generalize rungN a = ra at *
  generalize rungN b = rb at *
  generalize sgnB a = sa at *
  generalize doN 7 a b = Z at *
  have hcmp : cmpI (va : Nat) (vb : Nat) = 0 := by unfold cmpI; rw [if_neg (by omega), if_neg (by omega)]
  cases sa
  all_goals
    go_enter Tryz.func15, Tryz.ntmps15
    go_wp2_with (first
      | (go_at_call_of 9 a; refine (hBa _).mono ?_; rintro e9 w9 ⟨rfl, hw9⟩; obtain rfl := hw9.symm)
      | (go_at_call_of 9 b; refine (hBb _).mono ?_; rintro e9 w9 ⟨rfl, hw9⟩; obtain rfl := hw9.symm)
      | (go_at_call_of 20 a; refine (hFa _).mono ?_; rintro e9 w9 ⟨rfl, n1, rfl⟩)
      | (go_at_call_of 20 b; refine (hFb _).mono ?_; rintro e9 w9 ⟨rfl, n2, rfl⟩)
      | (go_at_call_of 21 a; refine (hNa _).mono ?_; rintro e9 w9 ⟨rfl, hw9⟩; obtain rfl := hw9.symm)
      | (go_at_call_of 21 b; refine (hNb _).mono ?_; rintro e9 w9 ⟨rfl, hw9⟩; obtain rfl := hw9.symm)
      | (go_at_call_of 23 ra; refine (hAa _).mono ?_; rintro e9 w9 ⟨rfl, hw9⟩; obtain rfl := hw9.symm)
      | (go_at_call_of 23 rb; refine (hAb _).mono ?_; rintro e9 w9 ⟨rfl, hw9⟩; obtain rfl := hw9.symm)
      | (go_at_call_of 27 M; refine (hUa _).mono ?_; rintro e9 w1 ⟨v1, rfl, hb1, hf1, hk1⟩)
      | (go_at_call_of 28 E; refine (hPa v1 w1 hb1).mono ?_; rintro e9 w2 ⟨xo, xn, xc, rfl, hx2, hk2⟩; have HA : Hid (Big w2 (.slice xo xn xc) va 300 ∧ Keep [] (w.drewN (n1 + n2)) w2) := ⟨hx2, hk1.trans' hk2⟩; clear hb1 hf1 hk1 hx2 hk2)
      | (go_at_call_of 27 N; refine (hUb _).mono ?_; rintro e9 w3 ⟨v3, rfl, hb3, hf3, hk3⟩)
      | (go_at_call_of 28 F; refine (hPb v3 w3 hb3).mono ?_; rintro e9 w4 ⟨yo, yn, yc, rfl, hy4, hk4⟩; have HB : Hid (Big w4 (.slice xo xn xc) va 300 ∧ Big w4 (.slice yo yn yc) vb 300 ∧ Keep [] (w.drewN (n1 + n2)) w4) := ⟨HA.out.1.keep (hk3.trans' hk4) (Off.nil _), hy4, HA.out.2.trans' (hk3.trans' hk4)⟩; clear hb3 hf3 hk3 hy4 hk4 HA)
      | (go_at_call 30; refine (compare_nums (.slice xo xn xc) (.slice yo yn yc) va vb 300 300 w4 HB.out.1 HB.out.2.1).mono ?_; rw [hcmp]; rintro e9 w5c ⟨rfl, hk5c⟩)
      | (go_at_call 31; refine (less_at (.slice xo xn xc) (.slice yo yn yc) va vb w5c (HB.out.1.keep hk5c (Off.nil _)) (HB.out.2.1.keep hk5c (Off.nil _)) (by omega)).mono ?_; rintro e9 w5 ⟨zo, zn, zc, rfl, hz5, hl5, hk5⟩; have t9 : ((zn : Int) == 0) = true := beq_iff_eq.2 (by omega); have HZ : Hid (Big w5 (.slice zo zn zc) (va - vb) 400 ∧ Keep [] (w.drewN (n1 + n2)) w5) := ⟨hz5, HB.out.2.2.trans' (hk5c.trans' hk5)⟩; clear hz5 hl5 hk5)
      | (go_at_call 22; refine (hF0 _ _).mono ?_; rintro e9 w9 ⟨rfl, hw9⟩; obtain rfl := hw9.symm))
    go_ret
    exact ⟨_, rfl, HR.out, ((Keep.refl [] w).drewN _).trans' HZ.out.2⟩

end Go.Proofs.YthdibaeelbkghaaGreatDoor
