/- The document's quotient of two reals. -/
import Derived.Test.YthdibaeelbkghaaGreatDoorDoB
import Derived.Deep.RegionHeld3
namespace Go.Proofs.YthdibaeelbkghaaGreatDoor
open Go.RowKit Go.PlainAid

theorem over_worth (x y : Nat) (M N : Nat) (E F : Int) (hM : M * 2 ^ (E + 149).toNat = valN x) (hN : N * 2 ^ (F + 149).toNat = valN y) (hE : -149 ≤ E) (hF : -149 ≤ F) :
    M * 2 ^ (E - F).toNat * valN y = valN x * (2 ^ (-(E - F)).toNat * N) := by
  rw [← hM, ← hN]
  have e1 : M * 2 ^ (E - F).toNat * (N * 2 ^ (F + 149).toNat) = M * N * 2 ^ ((E - F).toNat + (F + 149).toNat) := by
    rw [Nat.pow_add, Nat.mul_mul_mul_comm]
  have e2 : M * 2 ^ (E + 149).toNat * (2 ^ (-(E - F)).toNat * N) = M * N * 2 ^ ((E + 149).toNat + (-(E - F)).toNat) := by
    rw [Nat.pow_add, Nat.mul_comm (2 ^ (-(E - F)).toNat) N, Nat.mul_mul_mul_comm]
  rw [e1, e2]
  congr 2
  omega

theorem like_div (a b n : Nat) (h1 : rungN a < 2139095040) (h2 : rungN b < 2139095040) (h0 : rungN b ≠ 0) (hl : LowB (atM (rungN a) * 2 ^ (atE (rungN a) - atE (rungN b)).toNat) (2 ^ (-(atE (rungN a) - atE (rungN b))).toNat * atM (rungN b)) n) :
    Like (wordN (sgnB a ^^ sgnB b) (nearB (atM (rungN a) * 2 ^ (atE (rungN a) - atE (rungN b)).toNat) (2 ^ (-(atE (rungN a) - atE (rungN b))).toNat * atM (rungN b)) n)) (doN 6 a b) := by
  have b1 := at_bounds (rungN a) (by omega)
  have b2 := at_bounds (rungN b) (by omega)
  have h3 := over_worth (rungN a) (rungN b) _ _ _ _ (at_worth _) (at_worth _) b1.2.1 b2.2.1
  have hv : 0 < valN (rungN b) := valN_pos (by omega)
  have hN : 0 < atM (rungN b) := by unfold atM; split <;> omega
  obtain ⟨V, hV⟩ : ∃ V, atM (rungN a) * 2 ^ (atE (rungN a) - atE (rungN b)).toNat * 2 ^ 149 = V := ⟨_, rfl⟩
  have h4 := div_num a b _ V _ n h1 h2 (by omega) hV (Nat.mul_pos (Nat.two_pow_pos _) hN) h3 hl
  rw [word_eq] at h4
  obtain ⟨w1, w2, _, _⟩ := wordN_facts (sgnB a ^^ sgnB b) _ (nearB_le hl)
  exact ⟨w1, .inr (doN_some (op := .quo) rfl h4 w2).symm⟩

/-- what is held: the two parts -/
def Two (W : World) (q : Nat) (c d : Value) (w : World) : Prop := (w.cell? ⟨q, 0, none⟩ = some c ∧ w.cell? ⟨q, 1, none⟩ = some d) ∧ Keep [] W w
theorem Two.start {W : World} {q : Nat} {c d : Value} (h : W.cell? ⟨q, 0, none⟩ = some c ∧ W.cell? ⟨q, 1, none⟩ = some d) : Two W q c d W.drew := ⟨h, (Keep.refl _ W).drew⟩
theorem Two.next {W wi wj : World} {q : Nat} {c d : Value} (hk : Keep [] wi wj) (h : Two W q c d wi) : Two W q c d wj :=
  ⟨⟨hk.cell' h.1.1 (by simp), hk.cell' h.1.2 (by simp)⟩, h.2.trans' hk⟩
theorem Two.same {W wi : World} {q : Nat} {c d : Value} (h : Two W q c d wi) : Two W q c d wi := h

set_option maxRecDepth 1000000 in
set_option maxHeartbeats 1600000 in
theorem over_fin (a b : Nat) (ha : a < 4294967296) (hb : b < 4294967296) (na : nanB a = false) (nb : nanB b = false) (hfa : rungN a < 2139095040) (hfb : rungN b < 2139095040) (h0 : rungN b ≠ 0) (w : World) :
    Calls Tryz.prog 14 #[.float .f32 a, .float .f32 b] w fun e w' => ∃ r, e = .returned (.float .f32 r) ∧ Like r (doN 6 a b) ∧ Keep [] w w' := by
  have hBa := rBelow_any a ha
  have hBb := rBelow_any b hb
  rw [below_sgn a ha na] at hBa
  rw [below_sgn b hb nb] at hBb
  have hNa := number_any a ha na
  have hNb := number_any b hb nb
  have hAa := at_any (rungN a) hfa
  have hAb := at_any (rungN b) hfb
  have b1 := at_bounds (rungN a) (by omega)
  have b2 := at_bounds (rungN b) (by omega)
  have hR := fun n => like_div a b n hfa hfb h0
  have hW0 := fun w => worth_any (atM (rungN a)) (atE (rungN a) - atE (rungN b)) (by omega) (by omega) (by omega) w
  have hU := fun w => number_big (atM (rungN b)) (by omega) w
  have HR : Hid _ := hR
  clear hR
  have hLa : (rungN a : Int) < 2139095040 := by omega
  have t1 : ((rungN b : Int) == 0) = false := by simp; omega
  have t2 : ((rungN a : Int) == 2139095040) = false := by simp; omega
  have t3 : ((rungN b : Int) == 2139095040) = false := by simp; omega
  generalize hX : atM (rungN a) * 2 ^ (atE (rungN a) - atE (rungN b)).toNat = X at *
  generalize hY : 2 ^ (-(atE (rungN a) - atE (rungN b))).toNat = Y at *
  clear hX hY
  have b3 : -149 ≤ atE (rungN a) := b1.2.1
  have b4 : atE (rungN a) ≤ 105 := b1.2.2
  have b5 : -149 ≤ atE (rungN b) := b2.2.1
  have b6 : atE (rungN b) ≤ 105 := b2.2.2
  clear b1 b2 hfa hfb h0 na nb
  generalize ((atM (rungN a) : Nat) : Int) = M at *
  generalize atM (rungN b) = N at *
  generalize atE (rungN a) = E at *
  generalize atE (rungN b) = F at *
  generalize rungN a = ra at *
  generalize rungN b = rb at *
  generalize sgnB a = sa at *
  generalize sgnB b = sb at *
  generalize doN 6 a b = Z at *
  have hxor : (sa ^^ sb) = !(sa == sb) := by cases sa <;> cases sb <;> rfl
  rw [hxor] at HR
  clear hxor
  cases t0 : ((ra : Int) == 0)
  all_goals
    go_enter Tryz.func14, Tryz.ntmps14
    go_wp2_with (first
      | (go_at_call_of 9 a; refine (hBa _).mono ?_; rintro e9 w9 ⟨rfl, hw9⟩; obtain rfl := hw9.symm)
      | (go_at_call_of 9 b; refine (hBb _).mono ?_; rintro e9 w9 ⟨rfl, hw9⟩; obtain rfl := hw9.symm)
      | (go_at_call_of 21 a; refine (hNa _).mono ?_; rintro e9 w9 ⟨rfl, hw9⟩; obtain rfl := hw9.symm)
      | (go_at_call_of 21 b; refine (hNb _).mono ?_; rintro e9 w9 ⟨rfl, hw9⟩; obtain rfl := hw9.symm)
      | (go_at_call_of 23 ra; refine (hAa _).mono ?_; rintro e9 w9 ⟨rfl, hw9⟩; obtain rfl := hw9.symm)
      | (go_at_call_of 23 rb; refine (hAb _).mono ?_; rintro e9 w9 ⟨rfl, hw9⟩; obtain rfl := hw9.symm)
      | (go_at_call 25; refine (hW0 _).mono ?_; rintro e9 w1 ⟨vc, vd, rfl, ⟨hc, hd⟩, hk1⟩; obtain ⟨co, nc, cc, rfl⟩ := hc.sl; obtain ⟨dO, nd, cd, rfl⟩ := hd.sl; have HC : Hid (Big w1 (.slice co nc cc) X 1000 ∧ Big w1 (.slice dO nd cd) Y 1000 ∧ Keep [] w w1) := ⟨hc, hd, hk1⟩; clear hc hd hk1))
    have KW : Keep [] w1 (w1.alloc (Obj.cells #[Value.slice co nc cc, Value.slice dO nd cd] 46)) := Keep.alloc1 _ _
    have HW : Hid (Big (w1.alloc (Obj.cells #[Value.slice co nc cc, Value.slice dO nd cd] 46)) (.slice co nc cc) X 1000 ∧ Big (w1.alloc (Obj.cells #[Value.slice co nc cc, Value.slice dO nd cd] 46)) (.slice dO nd cd) Y 1000 ∧ Keep [] w (w1.alloc (Obj.cells #[Value.slice co nc cc, Value.slice dO nd cd] 46))) :=
      ⟨HC.out.1.keep KW (Off.nil _), HC.out.2.1.keep KW (Off.nil _), HC.out.2.2.trans' KW⟩
    have h4 : (w1.alloc (Obj.cells #[Value.slice co nc cc, Value.slice dO nd cd] 46)).cell? ⟨w1.heap.size, 0, none⟩ = some (.slice co nc cc) ∧ (w1.alloc (Obj.cells #[Value.slice co nc cc, Value.slice dO nd cd] 46)).cell? ⟨w1.heap.size, 1, none⟩ = some (.slice dO nd cd) := ⟨by simp, by simp⟩
    clear HC KW
    generalize (w1.alloc (Obj.cells #[Value.slice co nc cc, Value.slice dO nd cd] 46)) = W at HW h4 ⊢
    generalize w1.heap.size = q at h4 ⊢
    go_region_held3 (fun w' => (w'.cell? ⟨q, 0, none⟩ = some (.slice co nc cc) ∧ w'.cell? ⟨q, 1, none⟩ = some (.slice dO nd cd)) ∧ Keep [] W w')
      (first | exact Two.start h4 | exact Two.next (by assumption) (by assumption) | assumption)
      (first
      | (go_at_call 27; refine (hU _).mono ?_; rintro e9 w5 ⟨v5, rfl, hb5, hf5, hk5⟩)
      | (go_at_call 26; refine (product_big (.slice dO nd cd) v5 Y N 1000 3 w5 ((HW.out.2.1.keep ((Keep.refl [] W).drew) (Off.nil _)).keep hk5 (Off.nil _)) hb5 (by omega) (by omega)).mono ?_; rintro e9 w6 ⟨v6, rfl, ⟨hb6, hf6⟩, hk6⟩; obtain ⟨po, np, cp, rfl⟩ := hb6.sl)
      | (go_at_call 24; refine (nearest_any (.slice co nc cc) (.slice po np cp) X (Y * N) 1000 1004 w6 (((HW.out.1.keep ((Keep.refl [] W).drew) (Off.nil _)).keep hk5 (Off.nil _)).keep hk6 (Off.nil _)) hb6 (by omega) (by omega)).mono ?_; rintro e9 w7 ⟨n, hl, rfl, hk7⟩; have hF9 := fun neg => float_word neg (nearB X (Y * N) n) (nearB_le hl); have HL : Hid (LowB X (Y * N) n) := hl; clear hl; generalize hgn : nearB X (Y * N) n = nn at *; have HGN : Hid (nearB X (Y * N) n = nn) := hgn; clear hgn)
      | (go_at_call 22; refine (hF9 _ _).mono ?_; rintro e9 w9 ⟨rfl, hw9⟩; obtain rfl := hw9.symm))
    go_wp2
    go_ret
    rename_i hH
    refine ⟨_, rfl, ?_, HW.out.2.2.trans' hH.2⟩
    have := HR.out n HL.out
    rw [HGN.out] at this
    exact this

set_option maxRecDepth 1000000 in
set_option maxHeartbeats 1600000 in
theorem over_nan (a b : Nat) (ha : a < 4294967296) (hb : b < 4294967296) (na : nanB a = false) (nb : nanB b = false) (h : rungN a = 0 ∧ rungN b = 0 ∨ rungN a = 2139095040 ∧ rungN b = 2139095040) (w : World) :
    Calls Tryz.prog 14 #[.float .f32 a, .float .f32 b] w fun e w' => ∃ r, e = .returned (.float .f32 r) ∧ Like r (doN 6 a b) ∧ Keep [] w w' := by
  have hBa := rBelow_any a ha
  have hBb := rBelow_any b hb
  rw [below_sgn a ha na] at hBa
  rw [below_sgn b hb nb] at hBb
  have hNa := number_any a ha na
  have hNb := number_any b hb nb
  have hz : nanB (doN 6 a b) = true := by rw [doN_none (op := .quo) rfl (div_none' a b h)]; decide
  have HZ : Hid (nanB (doN 6 a b) = true) := hz
  clear hz
  rcases h with ⟨h1, h2⟩ | ⟨h1, h2⟩
  all_goals
    rw [h1] at hNa
    rw [h2] at hNb
    first | rw [show ((0 : Nat) : Int) = 0 from rfl] at hNa hNb | rw [show ((2139095040 : Nat) : Int) = 2139095040 from rfl] at hNa hNb
    clear h1 h2 na nb
    generalize sgnB a = sa at *
    generalize sgnB b = sb at *
    generalize doN 6 a b = Z at *
    go_enter Tryz.func14, Tryz.ntmps14
    go_wp2_with (first
      | (go_at_call_of 9 a; refine (hBa _).mono ?_; rintro e9 w9 ⟨rfl, hw9⟩; obtain rfl := hw9.symm)
      | (go_at_call_of 9 b; refine (hBb _).mono ?_; rintro e9 w9 ⟨rfl, hw9⟩; obtain rfl := hw9.symm)
      | (go_at_call_of 21 a; refine (hNa _).mono ?_; rintro e9 w9 ⟨rfl, hw9⟩; obtain rfl := hw9.symm)
      | (go_at_call_of 21 b; refine (hNb _).mono ?_; rintro e9 w9 ⟨rfl, hw9⟩; obtain rfl := hw9.symm)
      | (go_at_call 12; refine (rNan_any _).mono ?_; rintro e9 w9 ⟨r, rfl, hr1, hr2, n3, rfl⟩))
    go_ret
    exact ⟨_, rfl, ⟨hr1, .inl ⟨key_nan' hr1 hr2, HZ.out⟩⟩, (Keep.refl [] w).drewN _⟩

set_option maxRecDepth 1000000 in
set_option maxHeartbeats 1600000 in
theorem over_inf (a b : Nat) (ha : a < 4294967296) (hb : b < 4294967296) (na : nanB a = false) (nb : nanB b = false) (h : rungN a < 2139095040 ∧ rungN a ≠ 0 ∧ rungN b = 0 ∨ rungN a = 2139095040 ∧ rungN b < 2139095040) (w : World) :
    Calls Tryz.prog 14 #[.float .f32 a, .float .f32 b] w fun e w' => ∃ r, e = .returned (.float .f32 r) ∧ Like r (doN 6 a b) ∧ Keep [] w w' := by
  have hBa := rBelow_any a ha
  have hBb := rBelow_any b hb
  rw [below_sgn a ha na] at hBa
  rw [below_sgn b hb nb] at hBb
  have hNa := number_any a ha na
  have hNb := number_any b hb nb
  have hz : Like (wordN (sgnB a ^^ sgnB b) 2139095040) (doN 6 a b) := by
    obtain ⟨w1, w2, _, _⟩ := wordN_facts (sgnB a ^^ sgnB b) 2139095040 (Nat.le_refl _)
    exact ⟨w1, .inr (doN_some (op := .quo) rfl (div_inf' a b h) w2).symm⟩
  rw [show (sgnB a ^^ sgnB b) = !(sgnB a == sgnB b) by cases sgnB a <;> cases sgnB b <;> rfl] at hz
  have HZ : Hid _ := hz
  clear hz
  have hF9 := fun neg => float_word neg 2139095040 (Nat.le_refl _)
  rw [show ((2139095040 : Nat) : Int) = 2139095040 from rfl] at hF9
  rcases h with ⟨h0, h1, h2⟩ | ⟨h1, h2⟩
  · have t1 : ((rungN a : Int) == 0) = false := by simp; omega
    have t2 : ((rungN a : Int) == 2139095040) = false := by simp; omega
    have t3 : ((rungN b : Int) == 0) = true := by simp; omega
    clear h0 h1 h2 na nb
    generalize rungN a = ra at *
    generalize rungN b = rb at *
    generalize sgnB a = sa at *
    generalize sgnB b = sb at *
    generalize doN 6 a b = Z at *
    go_enter Tryz.func14, Tryz.ntmps14
    go_wp2_with (first
      | (go_at_call_of 9 a; refine (hBa _).mono ?_; rintro e9 w9 ⟨rfl, hw9⟩; obtain rfl := hw9.symm)
      | (go_at_call_of 9 b; refine (hBb _).mono ?_; rintro e9 w9 ⟨rfl, hw9⟩; obtain rfl := hw9.symm)
      | (go_at_call_of 21 a; refine (hNa _).mono ?_; rintro e9 w9 ⟨rfl, hw9⟩; obtain rfl := hw9.symm)
      | (go_at_call_of 21 b; refine (hNb _).mono ?_; rintro e9 w9 ⟨rfl, hw9⟩; obtain rfl := hw9.symm)
      | (go_at_call 22; refine (hF9 _ _).mono ?_; rintro e9 w9 ⟨rfl, hw9⟩; obtain rfl := hw9.symm))
    go_ret
    exact ⟨_, rfl, HZ.out, Keep.refl [] w⟩
  · have t1 : ((rungN a : Int) == 0) = false := by simp; omega
    have t2 : ((rungN a : Int) == 2139095040) = true := by simp; omega
    have t4 : ((rungN b : Int) == 2139095040) = false := by simp; omega
    by_cases h0 : rungN b = 0
    all_goals
      cases t3 : ((rungN b : Int) == 0)
      all_goals
        clear h1 h2 na nb h0
        generalize rungN a = ra at *
        generalize rungN b = rb at *
        generalize sgnB a = sa at *
        generalize sgnB b = sb at *
        generalize doN 6 a b = Z at *
        go_enter Tryz.func14, Tryz.ntmps14
        go_wp2_with (first
          | (go_at_call_of 9 a; refine (hBa _).mono ?_; rintro e9 w9 ⟨rfl, hw9⟩; obtain rfl := hw9.symm)
          | (go_at_call_of 9 b; refine (hBb _).mono ?_; rintro e9 w9 ⟨rfl, hw9⟩; obtain rfl := hw9.symm)
          | (go_at_call_of 21 a; refine (hNa _).mono ?_; rintro e9 w9 ⟨rfl, hw9⟩; obtain rfl := hw9.symm)
          | (go_at_call_of 21 b; refine (hNb _).mono ?_; rintro e9 w9 ⟨rfl, hw9⟩; obtain rfl := hw9.symm)
          | (go_at_call 22; refine (hF9 _ _).mono ?_; rintro e9 w9 ⟨rfl, hw9⟩; obtain rfl := hw9.symm))
        go_ret
        exact ⟨_, rfl, HZ.out, Keep.refl [] w⟩

set_option maxRecDepth 1000000 in
set_option maxHeartbeats 1600000 in
theorem over_zero (a b : Nat) (ha : a < 4294967296) (hb : b < 4294967296) (na : nanB a = false) (nb : nanB b = false) (h1 : rungN a < 2139095040) (h2 : rungN b = 2139095040) (w : World) :
    Calls Tryz.prog 14 #[.float .f32 a, .float .f32 b] w fun e w' => ∃ r, e = .returned (.float .f32 r) ∧ Like r (doN 6 a b) ∧ Keep [] w w' := by
  have hBa := rBelow_any a ha
  have hBb := rBelow_any b hb
  rw [below_sgn a ha na] at hBa
  rw [below_sgn b hb nb] at hBb
  have hNa := number_any a ha na
  have hNb := number_any b hb nb
  have hz : Like (wordN (sgnB a ^^ sgnB b) 0) (doN 6 a b) := by
    obtain ⟨w1, w2, _, _⟩ := wordN_facts (sgnB a ^^ sgnB b) 0 (by decide)
    exact ⟨w1, .inr (doN_some (op := .quo) rfl (div_zero' a b h1 h2) w2).symm⟩
  rw [show (sgnB a ^^ sgnB b) = !(sgnB a == sgnB b) by cases sgnB a <;> cases sgnB b <;> rfl] at hz
  have HZ : Hid _ := hz
  clear hz
  have hF9 := fun neg => float_word neg 0 (by decide)
  rw [show ((0 : Nat) : Int) = 0 from rfl] at hF9
  have t2 : ((rungN a : Int) == 2139095040) = false := by simp; omega
  have t3 : ((rungN b : Int) == 0) = false := by simp; omega
  have t4 : ((rungN b : Int) == 2139095040) = true := by simp; omega
  cases t1 : ((rungN a : Int) == 0)
  all_goals
    clear h1 h2 na nb
    generalize rungN a = ra at *
    generalize rungN b = rb at *
    generalize sgnB a = sa at *
    generalize sgnB b = sb at *
    generalize doN 6 a b = Z at *
    go_enter Tryz.func14, Tryz.ntmps14
    go_wp2_with (first
      | (go_at_call_of 9 a; refine (hBa _).mono ?_; rintro e9 w9 ⟨rfl, hw9⟩; obtain rfl := hw9.symm)
      | (go_at_call_of 9 b; refine (hBb _).mono ?_; rintro e9 w9 ⟨rfl, hw9⟩; obtain rfl := hw9.symm)
      | (go_at_call_of 21 a; refine (hNa _).mono ?_; rintro e9 w9 ⟨rfl, hw9⟩; obtain rfl := hw9.symm)
      | (go_at_call_of 21 b; refine (hNb _).mono ?_; rintro e9 w9 ⟨rfl, hw9⟩; obtain rfl := hw9.symm)
      | (go_at_call 22; refine (hF9 _ _).mono ?_; rintro e9 w9 ⟨rfl, hw9⟩; obtain rfl := hw9.symm))
    go_ret
    exact ⟨_, rfl, HZ.out, Keep.refl [] w⟩

theorem over_any (a b : Nat) (ha : a < 4294967296) (hb : b < 4294967296) (na : nanB a = false) (nb : nanB b = false) (w : World) :
    Calls Tryz.prog 14 #[.float .f32 a, .float .f32 b] w fun e w' => ∃ r, e = .returned (.float .f32 r) ∧ Like r (doN 6 a b) ∧ Keep [] w w' := by
  have hra : rungN a ≤ 2139095040 := by simpa [nanB, rungN] using na
  have hrb : rungN b ≤ 2139095040 := by simpa [nanB, rungN] using nb
  by_cases hi : rungN a = 2139095040
  · by_cases hj : rungN b = 2139095040
    · exact over_nan a b ha hb na nb (.inr ⟨hi, hj⟩) w
    · exact over_inf a b ha hb na nb (.inr ⟨hi, by omega⟩) w
  · by_cases hj : rungN b = 2139095040
    · exact over_zero a b ha hb na nb (by omega) hj w
    · by_cases h0 : rungN b = 0
      · by_cases h1 : rungN a = 0
        · exact over_nan a b ha hb na nb (.inl ⟨h1, h0⟩) w
        · exact over_inf a b ha hb na nb (.inl ⟨by omega, h1, h0⟩) w
      · exact over_fin a b ha hb na nb (by omega) (by omega) h0 w
end Go.Proofs.YthdibaeelbkghaaGreatDoor
