/- The document's fewest digits. -/
import Derived.Test.YtjdihnkcigoajaaGreatDoorNgT
import Derived.Test.YtjdihnkcigoajaaGreatDoorTxP
import Derived.Lib.AppendIntMem

namespace Go.Proofs.YtjdihnkcigoajaaGreatDoor
open Go.RowKit Go.PlainAid

theorem near_ten (n q P : Nat) (k : Int) (hk : k = (P : Int) - 60) (h1 : 1 ≤ n) (h2 : n < 2139095040) (va vb : Value) (w : World) (ha : Big w va (q * 10 ^ k.toNat) 1000) (hb : Big w vb (10 ^ (-k).toNat) 1000) :
    Calls Tryz.prog 75 #[.agg #[va, vb]] w fun r w' => ∃ y : Nat, (y = n ↔ LiesI (l2N n) (h2N n) (n % 2) (q * tP P)) ∧ r = .returned (.int .u32 (y : Int)) ∧ Keep [] w w' := by
  refine (nearest_any va vb _ _ _ _ w ha hb (by omega) (by omega)).mono ?_
  rintro r w' ⟨m, hl, he, hkp⟩
  exact ⟨_, near_iff n _ _ m q P (Nat.pow_pos (by decide)) h1 h2 (ten_scale q P k hk) hl, he, hkp⟩
theorem against_tens (n q P : Nat) (k : Int) (hk : k = (P : Int) - 60) (h2 : n < 2139095040) (va vb : Value) (w : World) (ha : Big w va (q * 10 ^ k.toNat) 1000) (hb : Big w vb (10 ^ (-k).toNat) 1000) :
    Calls Tryz.prog 72 #[.agg #[va, vb], .int .u64 ((atM n : Nat) : Int), .int .i64 (atE n)] w fun r w' => r = .returned (.int .i64 (cmpI ((q * tP P : Nat) : Int) ((wN n : Nat) : Int))) ∧ Keep [] w w' := by
  have hbd := at_bounds n (by omega)
  have := against_any va vb _ _ _ _ (atM n) (atE n) w ha hb (by omega) (by omega) (by omega) (by omega) (by omega)
  rw [against_w n q P k hk] at this
  exact this

set_option maxRecDepth 1000000 in
set_option maxHeartbeats 1600000 in
theorem fewest_any (n : Nat) (h1 : 1 ≤ n) (h2 : n < 2139095040) (w : World) : Calls Tryz.prog 50 #[.int .u32 (n : Int)] w fun e w' => ∃ q s P : Nat, (IsD n q s P ∧ s ≤ 10) ∧ e = .returned (.tuple #[.int .i64 (q : Int), .int .i64 (s : Int), .int .i64 ((P : Int) - 60)]) ∧ Keep [] w w' := by
  have hAt := at_any n h2
  have H0 : Hid (tP 0 ≤ wN n) := K_start h1
  have HA : Hid (1 ≤ n ∧ n < 2139095040) := ⟨h1, h2⟩
  have hG : ∀ (q P : Nat) (k : Int) (va vb : Value) (w : World), k = (P : Int) - 60 → _ := fun q P k va vb w hk => against_tens n q P k hk h2 va vb w
  have hM : ∀ (T P : Nat) (k : Int) (w : World), k = (P : Int) - 60 → P ≤ 200 → T ≤ 1000000000000 → 1 ≤ T → wN n < T * tP P → ∀ Q, wN n / tP P = Q → _ := fun T P k w hk hP hT hT1 hw Q hQ => most_any n T P k hk hP h2 hT hT1 hw Q hQ w
  have hE : ∀ (q P : Nat) (k : Int) (w : World), k = (P : Int) - 60 → P ≤ 200 → q ≤ 1000000000000 → _ := fun q P k w hk hP hq => nearer_any n q P k hk hP h2 hq w
  have HG : Hid _ := hG
  have HM : Hid _ := hM
  have HE : Hid _ := hE
  clear hG hM hE h1 h2
  generalize ((atM n : Nat) : Int) = M at *
  generalize atE n = E at *
  go_enter Tryz.func50, Tryz.ntmps50
  go_wp2_with (first
    | (go_at_call 71; refine (hAt _).mono ?_; rintro e9 w9 ⟨rfl, hw9⟩; obtain rfl := hw9.symm))
  clear hAt
  go_loopw [7] (fun kv wr => ∃ K : Nat, kv = .int .i64 ((K : Int) - 60) ∧ Hid (tP K ≤ wN n) ∧ Hid (Keep [] w wr)) (fun kv _ => (100 - intOf kv).toNat)
  case atStart => exact ⟨0, rfl, H0, Keep.refl _ w⟩
  case round =>
    clear H0
    obtain ⟨K, rfl, HK, HW⟩ := hrel
    have hK := K_small HA.out.2 HK.out
    have hT1 := fun w => ten_any 1 ((K : Int) - 60 + 1) (by decide) (by omega) (by omega) w
    have hA1 := fun va vb w => HG.out 1 (K + 1) ((K : Int) - 60 + 1) va vb w (by omega)
    by_cases hc : tP (K + 1) ≤ wN n
    · have hge := (cmpI_le (1 * tP (K + 1)) (wN n)).2 (by rw [Nat.one_mul]; exact hc)
      have HC : Hid (tP (K + 1) ≤ wN n) := hc
      have hK2 := K_small HA.out.2 hc
      clear hc
      generalize cmpI ((1 * tP (K + 1) : Nat) : Int) ((wN n : Nat) : Int) = z at *
      go_wp2_with (first
        | (go_at_call 73; refine (hT1 _).mono ?_; rintro e9 w8 ⟨va, vb, rfl, ⟨hba, hbb⟩, hk8⟩)
        | (go_at_call 72; refine (hA1 _ _ _ hba hbb).mono ?_; rintro e9 w9 ⟨rfl, hk9⟩))
      have HK2 : Hid (Keep [] w w9) := (HW.out.trans' hk8).trans' hk9
      clear hk8 hk9 hba hbb
      go_roundw
      case rel => exact ⟨K + 1, by congr 1; omega, HC, HK2⟩
      case measure => simp only [intOf]; omega
    · have hz1 : cmpI ((1 * tP (K + 1) : Nat) : Int) ((wN n : Nat) : Int) = 1 := by
        rcases cmpI_three (1 * tP (K + 1)) (wN n) with h | h | h
        · exact h.1
        · omega
        · omega
      have HI : Hid (FewI n 1 K K) := (⟨by omega, by omega, HK.out, by omega, .inl rfl⟩ : FewI n 1 K K)
      rw [hz1] at hA1
      clear hc hz1
      go_wp2_with (first
        | (go_at_call 73; refine (hT1 _).mono ?_; rintro e9 w8 ⟨va, vb, rfl, ⟨hba, hbb⟩, hk8⟩)
        | (go_at_call 72; refine (hA1 _ _ _ hba hbb).mono ?_; rintro e9 w9 ⟨rfl, hk9⟩))
      have HK2 : Hid (Keep [] w w9) := (HW.out.trans' hk8).trans' hk9
      clear hk8 hk9 hba hbb hT1 hA1 HW
      -- the second loop
      have hK := K_small HA.out.2 HK.out
      obtain ⟨kk, hkk⟩ : ∃ kk : Int, (K : Int) - 60 = kk := ⟨_, rfl⟩
      rw [hkk]
      have hk1 : -60 ≤ kk := by omega
      have hk2 : kk ≤ 39 := by omega
      have HKK : Hid ((K : Int) - 60 = kk) := hkk
      clear hkk hK hw9 HK
      rename_i wo _
      go_loopw [8, 9] (fun tv sv wr => ∃ T s P : Nat, tv = .int .i64 (T : Int) ∧ sv = .int .i64 (s : Int) ∧ Hid (T = 10 ^ s ∧ FewI n s P K) ∧ Hid (Keep [] w wr)) (fun _ sv _ => (20 - intOf sv).toNat)
      case atStart => exact ⟨10, 1, K, rfl, rfl, ⟨by decide, HI.out⟩, HK2⟩
      case round =>
        clear HI HK2
        obtain ⟨T, s, P, rfl, rfl, HI, HK⟩ := hrel
        obtain ⟨hs10, hP0, hj⟩ := HI.out.2.small HA.out.1 HA.out.2
        have hs1 := HI.out.2.one
        have hpos := HI.out.2.pos
        have hTe := HI.out.1
        have hT10 : T ≤ 10000000000 := by rw [hTe]; exact Nat.le_trans (Nat.pow_le_pow_right (by decide) hs10) (by decide)
        have hT0 : 1 ≤ T := by rw [hTe]; exact Nat.one_le_pow _ _ (by decide)
        have hw : wN n < T * tP P := by
          have := HI.out.2.hi
          rw [← hpos, tP_add, ← hTe] at this
          exact this
        obtain ⟨L, hL⟩ : ∃ L : Int, kk - (s : Int) + 1 = L := ⟨_, rfl⟩
        have hLP : L = (P : Int) - 60 := by have := HKK.out; omega
        have hP200 : P ≤ 200 := by have := HKK.out; omega
        have hL1 : -60 ≤ L := by omega
        have hL2 : L ≤ 39 := by omega
        obtain ⟨Q, hQ⟩ : ∃ Q, wN n / tP P = Q := ⟨_, rfl⟩
        have hQT : Q < T := by rw [← hQ]; exact (Nat.div_lt_iff_lt_mul (tP_pos P)).2 hw
        have hQ10 : (Q : Int) ≤ 10000000000 := by omega
        have hMo := fun w => HM.out T P L w hLP hP200 (by omega) hT0 hw Q hQ
        have hT1 := fun w => ten_any Q L (by omega) (by omega) (by omega) w
        have hT2 := fun w => ten_any (Q + 1) L (by omega) (by omega) (by omega) w
        obtain ⟨Q1, hQ1⟩ : ∃ Q1 : Int, (Q : Int) + 1 = Q1 := ⟨_, rfl⟩
        rw [show ((Q + 1 : Nat) : Int) = Q1 by omega] at hT2
        have hN1 := fun va vb w => near_ten n Q P L hLP HA.out.1 HA.out.2 va vb w
        have hN2 := fun va vb w => near_ten n (Q + 1) P L hLP HA.out.1 HA.out.2 va vb w
        have hNe := fun w => HE.out Q P L w hLP hP200 (by omega)
        have HL : Hid (L = (P : Int) - 60 ∧ wN n / tP P = Q ∧ s ≤ 10 ∧ Q < T) := ⟨hLP, hQ, hs10, hQT⟩
        have hTi : (T : Int) ≤ 10000000000 := by omega
        have hsi : (s : Int) ≤ 10 := by omega
        have hnea : neaB n P Q = (decide (2 * wN n < (2 * Q + 1) * tP P) || (decide (2 * wN n = (2 * Q + 1) * tP P) && decide (Q % 2 = 0))) := rfl
        have HN : Hid _ := hnea
        have hout : ∀ q, Told (tP P) (wN n) (l2N n) (h2N n) (n % 2) q → _ := fun q ht => out_prog n q s P HA.out.1 HA.out.2 hs1 (by rw [show P + s - 1 = K by omega]; exact HI.out.2.lo) (by rw [hpos]; exact HI.out.2.hi) ht HI.out.2.no
        have HO : Hid _ := hout
        have hnx : ¬ LiesI (l2N n) (h2N n) (n % 2) (Q * tP P) → ¬ LiesI (l2N n) (h2N n) (n % 2) ((Q + 1) * tP P) → _ := fun a b => HI.out.2.next HA.out.1 HA.out.2 (by rw [hQ]; exact a) (by rw [hQ]; exact b)
        have HX : Hid _ := hnx
        clear hnx hout hnea hP0 hj hpos hTe hw hLP hP200 hQ hs10 hQT hT10
        by_cases ha : LiesI (l2N n) (h2N n) (n % 2) (Q * tP P)
        · by_cases hb : LiesI (l2N n) (h2N n) (n % 2) ((Q + 1) * tP P)
          · by_cases hnear : 2 * wN n < (2 * Q + 1) * tP P ∨ (2 * wN n = (2 * Q + 1) * tP P ∧ Q % 2 = 0)
            · have hr : neaB n P Q = true := by rw [HN.out]; simpa using hnear
              rw [hr] at hNe
              clear hr
              have HT : Hid (IsD n Q s P) := by
                rcases HO.out Q (.inl ⟨HL.out.2.1.symm, by rw [HL.out.2.1]; exact ha, fun _ => by rw [HL.out.2.1]; exact hnear⟩) with h | h
                · exact h.2
                · have := HL.out.2.2.2
                  rw [HI.out.1] at this
                  omega
              go_wp2_with (first
                | (go_at_call 74; refine (hMo _).mono ?_; rintro e9 w5 ⟨rfl, hk5⟩)
                | (go_at_call_of 73 (Value.int IntKind.i64 ((Q : Nat) : Int)); refine (hT1 _).mono ?_; rintro e9 w6 ⟨va, vb, rfl, ⟨hba, hbb⟩, hk6⟩)
                | (go_at_call_of 73 (Value.int IntKind.i64 Q1); refine (hT2 _).mono ?_; rintro e9 w8 ⟨vc, vd, rfl, ⟨hbc, hbd⟩, hk8⟩)
                | (go_at_call_of 75 va; refine (hN1 _ _ _ hba hbb).mono ?_; rintro e9 w7 ⟨y, hy, rfl, hk7⟩; obtain rfl : n = y := (hy.2 ha).symm; clear hba hbb hy)
                | (go_at_call_of 75 vc; refine (hN2 _ _ _ hbc hbd).mono ?_; rintro e9 w9 ⟨x, hx, rfl, hk9⟩; obtain rfl : n = x := (hx.2 hb).symm; clear hbc hbd hx)
                | (go_at_call 76; refine (hNe _).mono ?_; rintro e9 w10 ⟨rfl, hk10⟩))
              have HK2 : Hid (Keep [] w w9) := ((((HK.out.trans' hk5).trans' hk6).trans' hk7).trans' hk8).trans' hk9
              have HK3 : Hid (Keep [] w w10) := HK2.out.trans' hk10
              go_returns
              exact ⟨Q, s, P, ⟨HT.out, HL.out.2.2.1⟩, by rw [← HL.out.1]; rfl, HK3.out⟩
            · have hr : neaB n P Q = false := by rw [HN.out]; simpa using hnear
              rw [hr] at hNe
              clear hr
              have HT : Hid _ := HO.out (Q + 1) (.inr ⟨by rw [HL.out.2.1], by rw [HL.out.2.1]; exact hb, fun _ => by rw [HL.out.2.1]; exact hnear⟩)
              by_cases htop : Q + 1 = T
              · have HD : Hid (IsD n 1 1 (P + s)) := by
                  rcases HT.out with h | h
                  · exact absurd (htop.trans HI.out.1) h.1
                  · exact h.2
                have tt : (Q1 == (T : Int)) = true := beq_iff_eq.2 (by omega)
                clear HT htop
                go_wp2_with (first
                  | (go_at_call 74; refine (hMo _).mono ?_; rintro e9 w5 ⟨rfl, hk5⟩)
                  | (go_at_call_of 73 (Value.int IntKind.i64 ((Q : Nat) : Int)); refine (hT1 _).mono ?_; rintro e9 w6 ⟨va, vb, rfl, ⟨hba, hbb⟩, hk6⟩)
                  | (go_at_call_of 73 (Value.int IntKind.i64 Q1); refine (hT2 _).mono ?_; rintro e9 w8 ⟨vc, vd, rfl, ⟨hbc, hbd⟩, hk8⟩)
                  | (go_at_call_of 75 va; refine (hN1 _ _ _ hba hbb).mono ?_; rintro e9 w7 ⟨y, hy, rfl, hk7⟩; obtain rfl : n = y := (hy.2 ha).symm; clear hba hbb hy)
                  | (go_at_call_of 75 vc; refine (hN2 _ _ _ hbc hbd).mono ?_; rintro e9 w9 ⟨x, hx, rfl, hk9⟩; obtain rfl : n = x := (hx.2 hb).symm; clear hbc hbd hx)
                  | (go_at_call 76; refine (hNe _).mono ?_; rintro e9 w10 ⟨rfl, hk10⟩))
                have HK2 : Hid (Keep [] w w9) := ((((HK.out.trans' hk5).trans' hk6).trans' hk7).trans' hk8).trans' hk9
                have HK3 : Hid (Keep [] w w10) := HK2.out.trans' hk10
                go_returns
                exact ⟨1, 1, P + s, ⟨HD.out, by decide⟩, by rw [show ((P + s : Nat) : Int) - 60 = L + (s : Int) by have := HL.out.1; omega]; rfl, HK3.out⟩
              · have HD : Hid (IsD n (Q + 1) s P) := by
                  rcases HT.out with h | h
                  · exact h.2
                  · exact absurd (h.1.trans HI.out.1.symm) htop
                have tt : (Q1 == (T : Int)) = false := beq_eq_false_iff_ne.2 (by omega)
                clear HT htop
                go_wp2_with (first
                  | (go_at_call 74; refine (hMo _).mono ?_; rintro e9 w5 ⟨rfl, hk5⟩)
                  | (go_at_call_of 73 (Value.int IntKind.i64 ((Q : Nat) : Int)); refine (hT1 _).mono ?_; rintro e9 w6 ⟨va, vb, rfl, ⟨hba, hbb⟩, hk6⟩)
                  | (go_at_call_of 73 (Value.int IntKind.i64 Q1); refine (hT2 _).mono ?_; rintro e9 w8 ⟨vc, vd, rfl, ⟨hbc, hbd⟩, hk8⟩)
                  | (go_at_call_of 75 va; refine (hN1 _ _ _ hba hbb).mono ?_; rintro e9 w7 ⟨y, hy, rfl, hk7⟩; obtain rfl : n = y := (hy.2 ha).symm; clear hba hbb hy)
                  | (go_at_call_of 75 vc; refine (hN2 _ _ _ hbc hbd).mono ?_; rintro e9 w9 ⟨x, hx, rfl, hk9⟩; obtain rfl : n = x := (hx.2 hb).symm; clear hbc hbd hx)
                  | (go_at_call 76; refine (hNe _).mono ?_; rintro e9 w10 ⟨rfl, hk10⟩))
                have HK2 : Hid (Keep [] w w9) := ((((HK.out.trans' hk5).trans' hk6).trans' hk7).trans' hk8).trans' hk9
                have HK3 : Hid (Keep [] w w10) := HK2.out.trans' hk10
                go_returns
                exact ⟨Q + 1, s, P, ⟨HD.out, HL.out.2.2.1⟩, by rw [← HL.out.1, show ((Q + 1 : Nat) : Int) = Q1 by omega]; rfl, HK3.out⟩
          · clear hNe HN
            have HT : Hid (IsD n Q s P) := by
              rcases HO.out Q (.inl ⟨HL.out.2.1.symm, by rw [HL.out.2.1]; exact ha, fun h => absurd (by rw [HL.out.2.1] at h; exact h) hb⟩) with h | h
              · exact h.2
              · have := HL.out.2.2.2
                rw [HI.out.1] at this
                omega
            go_wp2_with (first
              | (go_at_call 74; refine (hMo _).mono ?_; rintro e9 w5 ⟨rfl, hk5⟩)
              | (go_at_call_of 73 (Value.int IntKind.i64 ((Q : Nat) : Int)); refine (hT1 _).mono ?_; rintro e9 w6 ⟨va, vb, rfl, ⟨hba, hbb⟩, hk6⟩)
              | (go_at_call_of 73 (Value.int IntKind.i64 Q1); refine (hT2 _).mono ?_; rintro e9 w8 ⟨vc, vd, rfl, ⟨hbc, hbd⟩, hk8⟩)
              | (go_at_call_of 75 va; refine (hN1 _ _ _ hba hbb).mono ?_; rintro e9 w7 ⟨y, hy, rfl, hk7⟩; obtain rfl : n = y := (hy.2 ha).symm; clear hba hbb hy)
              | (go_at_call_of 75 vc; refine (hN2 _ _ _ hbc hbd).mono ?_; rintro e9 w9 ⟨x, hx, rfl, hk9⟩; have tx : ((x : Int) == (n : Int)) = false := beq_eq_false_iff_ne.2 (fun h => hb (hx.1 (by omega))); clear hbc hbd hx))
            have HK2 : Hid (Keep [] w w9) := ((((HK.out.trans' hk5).trans' hk6).trans' hk7).trans' hk8).trans' hk9
            go_returns
            exact ⟨Q, s, P, ⟨HT.out, HL.out.2.2.1⟩, by rw [← HL.out.1]; rfl, HK2.out⟩
        · by_cases hb : LiesI (l2N n) (h2N n) (n % 2) ((Q + 1) * tP P)
          · clear hNe HN
            have HT : Hid _ := HO.out (Q + 1) (.inr ⟨by rw [HL.out.2.1], by rw [HL.out.2.1]; exact hb, fun h => absurd (by rw [HL.out.2.1] at h; exact h) ha⟩)
            by_cases htop : Q + 1 = T
            · have HD : Hid (IsD n 1 1 (P + s)) := by
                rcases HT.out with h | h
                · exact absurd (htop.trans HI.out.1) h.1
                · exact h.2
              have tt : (Q1 == (T : Int)) = true := beq_iff_eq.2 (by omega)
              clear HT htop
              go_wp2_with (first
                | (go_at_call 74; refine (hMo _).mono ?_; rintro e9 w5 ⟨rfl, hk5⟩)
                | (go_at_call_of 73 (Value.int IntKind.i64 ((Q : Nat) : Int)); refine (hT1 _).mono ?_; rintro e9 w6 ⟨va, vb, rfl, ⟨hba, hbb⟩, hk6⟩)
                | (go_at_call_of 73 (Value.int IntKind.i64 Q1); refine (hT2 _).mono ?_; rintro e9 w8 ⟨vc, vd, rfl, ⟨hbc, hbd⟩, hk8⟩)
                | (go_at_call_of 75 va; refine (hN1 _ _ _ hba hbb).mono ?_; rintro e9 w7 ⟨y, hy, rfl, hk7⟩; have ty : ((y : Int) == (n : Int)) = false := beq_eq_false_iff_ne.2 (fun h => ha (hy.1 (by omega))); clear hba hbb hy)
                | (go_at_call_of 75 vc; refine (hN2 _ _ _ hbc hbd).mono ?_; rintro e9 w9 ⟨x, hx, rfl, hk9⟩; obtain rfl : n = x := (hx.2 hb).symm; clear hbc hbd hx))
              have HK2 : Hid (Keep [] w w9) := ((((HK.out.trans' hk5).trans' hk6).trans' hk7).trans' hk8).trans' hk9
              go_returns
              exact ⟨1, 1, P + s, ⟨HD.out, by decide⟩, by rw [show ((P + s : Nat) : Int) - 60 = L + (s : Int) by have := HL.out.1; omega]; rfl, HK2.out⟩
            · have HD : Hid (IsD n (Q + 1) s P) := by
                rcases HT.out with h | h
                · exact h.2
                · exact absurd (h.1.trans HI.out.1.symm) htop
              have tt : (Q1 == (T : Int)) = false := beq_eq_false_iff_ne.2 (by omega)
              clear HT htop
              go_wp2_with (first
                | (go_at_call 74; refine (hMo _).mono ?_; rintro e9 w5 ⟨rfl, hk5⟩)
                | (go_at_call_of 73 (Value.int IntKind.i64 ((Q : Nat) : Int)); refine (hT1 _).mono ?_; rintro e9 w6 ⟨va, vb, rfl, ⟨hba, hbb⟩, hk6⟩)
                | (go_at_call_of 73 (Value.int IntKind.i64 Q1); refine (hT2 _).mono ?_; rintro e9 w8 ⟨vc, vd, rfl, ⟨hbc, hbd⟩, hk8⟩)
                | (go_at_call_of 75 va; refine (hN1 _ _ _ hba hbb).mono ?_; rintro e9 w7 ⟨y, hy, rfl, hk7⟩; have ty : ((y : Int) == (n : Int)) = false := beq_eq_false_iff_ne.2 (fun h => ha (hy.1 (by omega))); clear hba hbb hy)
                | (go_at_call_of 75 vc; refine (hN2 _ _ _ hbc hbd).mono ?_; rintro e9 w9 ⟨x, hx, rfl, hk9⟩; obtain rfl : n = x := (hx.2 hb).symm; clear hbc hbd hx))
              have HK2 : Hid (Keep [] w w9) := ((((HK.out.trans' hk5).trans' hk6).trans' hk7).trans' hk8).trans' hk9
              go_returns
              exact ⟨Q + 1, s, P, ⟨HD.out, HL.out.2.2.1⟩, by rw [← HL.out.1, show ((Q + 1 : Nat) : Int) = Q1 by omega]; rfl, HK2.out⟩
          · clear hNe HN HO
            obtain ⟨hPl, hF⟩ := HX.out ha hb
            have HF : Hid (FewI n (s + 1) (P - 1) K) := hF
            go_wp2_with (first
              | (go_at_call 74; refine (hMo _).mono ?_; rintro e9 w5 ⟨rfl, hk5⟩)
              | (go_at_call_of 73 (Value.int IntKind.i64 ((Q : Nat) : Int)); refine (hT1 _).mono ?_; rintro e9 w6 ⟨va, vb, rfl, ⟨hba, hbb⟩, hk6⟩)
              | (go_at_call_of 73 (Value.int IntKind.i64 Q1); refine (hT2 _).mono ?_; rintro e9 w8 ⟨vc, vd, rfl, ⟨hbc, hbd⟩, hk8⟩)
              | (go_at_call_of 75 va; refine (hN1 _ _ _ hba hbb).mono ?_; rintro e9 w7 ⟨y, hy, rfl, hk7⟩; have ty : ((y : Int) == (n : Int)) = false := beq_eq_false_iff_ne.2 (fun h => ha (hy.1 (by omega))); clear hba hbb hy)
              | (go_at_call_of 75 vc; refine (hN2 _ _ _ hbc hbd).mono ?_; rintro e9 w9 ⟨x, hx, rfl, hk9⟩; have tx : ((x : Int) == (n : Int)) = false := beq_eq_false_iff_ne.2 (fun h => hb (hx.1 (by omega))); clear hbc hbd hx))
            have HK2 : Hid (Keep [] w w9) := ((((HK.out.trans' hk5).trans' hk6).trans' hk7).trans' hk8).trans' hk9
            go_roundw
            case rel => exact ⟨T * 10, s + 1, P - 1, by go_num, by go_num, ⟨by rw [HI.out.1, Nat.pow_succ], HF.out⟩, HK2⟩
            case measure => simp only [intOf]; omega
end Go.Proofs.YtjdihnkcigoajaaGreatDoor


/- The document's decimal of a digit. -/
namespace Go.Proofs.YtjdihnkcigoajaaGreatDoor
open Go.RowKit Go.PlainAid

theorem one_str (w : World) (k : Int) : (convert 31 9 (.slice (some ⟨w.heap.size, 0, none⟩) 1 1)).run Tryz.prog (w.alloc (Obj.cells #[.int .u8 k] 5)) = .ok (.string ⟨#[UInt8.ofNat k.toNat]⟩) (w.alloc (Obj.cells #[.int .u8 k] 5)) := by
  generalize hw : w.alloc (Obj.cells #[.int .u8 k] 5) = w1
  have hc : w1.cell? ⟨w.heap.size, 0, none⟩ = some (.int .u8 k) := by
    rw [← hw]
    rw [World.cell?_alloc_new]
    rfl
  rw [run_convert_bytes_string w1 31 9 5 _ _ _ underS Tryz.underlying5 Tryz.underlying9]
  have hld : (loadCells ⟨w.heap.size, 0, none⟩ 1).run Tryz.prog w1 = .ok (([k] : List Int).map (Value.int .u8)).toArray w1 := by
    have := run_loadCells_list (P := Tryz.prog) w1 ⟨w.heap.size, 0, none⟩ [.int .u8 k] (by
      intro j u hu
      match j, hu with
      | 0, hu =>
        simp only [List.getElem?_cons_zero, Option.some.injEq] at hu
        rw [← hu, ← hc]
        rfl)
    exact this
  rw [run_bytesToString w1 _ 1 1 _ hld]
  rfl

set_option maxRecDepth 1000000 in
set_option maxHeartbeats 1600000 in
theorem decimal_digit (k : Nat) (hk : k < 10) (w : World) : Calls Tryz.prog 51 #[.int .i64 (k : Int)] w fun e w' => (∃ T : ByteArray, e = .returned (.string T) ∧ T.data.toList = [UInt8.ofNat (48 + k)]) ∧ Below w.heap.size w w' := by
  have hi : (k : Int) < 10 := by omega
  have hS := one_str w (48 + (k : Int))
  have hN : Hid ((48 + (k : Int)).toNat = 48 + k) := show (48 + (k : Int)).toNat = 48 + k by omega
  go_enter Tryz.func51, Tryz.ntmps51
  go_wp2
  go_ret
  refine ⟨⟨_, rfl, rfl⟩, ?_⟩
  exact Lib.below_grow _ w (Nat.le_refl _) 0 #[_]

end Go.Proofs.YtjdihnkcigoajaaGreatDoor

