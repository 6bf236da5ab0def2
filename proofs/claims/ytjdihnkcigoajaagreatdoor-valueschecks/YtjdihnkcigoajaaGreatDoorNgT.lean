/- The document's most and nearer. -/
import Derived.Test.YtjdihnkcigoajaaGreatDoorBigH
import Derived.Test.YtjdihnkcigoajaaGreatDoorBigH
namespace Go.Proofs.YtjdihnkcigoajaaGreatDoor
open Go.RowKit Go.PlainAid

/-- how the halving for the greatest number of tens stands -/
def MosI (n P lo hi : Nat) : Prop := lo < hi ∧ lo * tP P ≤ wN n ∧ wN n < hi * tP P
theorem cmpI_le (a b : Nat) : cmpI (a : Int) (b : Int) ≤ 0 ↔ a ≤ b := by
  unfold cmpI
  split
  · omega
  · split <;> omega

set_option maxRecDepth 1000000 in
set_option maxHeartbeats 1600000 in
theorem most_any (n T P : Nat) (k : Int) (hk : k = (P : Int) - 60) (hP : P ≤ 200) (h2 : n < 2139095040) (hT : T ≤ 1000000000000) (hT1 : 1 ≤ T) (hw : wN n < T * tP P) (Q : Nat) (hQ : wN n / tP P = Q) (w : World) :
    Calls Tryz.prog 74 #[.int .i64 (T : Int), .int .i64 k, .int .u64 ((atM n : Nat) : Int), .int .i64 (atE n)] w fun e w' => e = .returned (.int .i64 (Q : Int)) ∧ Keep [] w w' := by
  have H0 : Hid (MosI n P 0 T) := (⟨by omega, by rw [Nat.zero_mul]; exact Nat.zero_le _, hw⟩ : MosI n P 0 T)
  have hbd := at_bounds n (by omega)
  have hTi : (T : Int) ≤ 1000000000000 := by omega
  have HT : Hid (∀ (m : Nat) (w : World), m ≤ 1000000000000 → Calls Tryz.prog 73 #[.int .i64 (m : Int), .int .i64 k] w fun r w' => ∃ va vb, r = .returned (.agg #[va, vb]) ∧ (Big w' va (m * 10 ^ k.toNat) 1000 ∧ Big w' vb (10 ^ (-k).toNat) 1000) ∧ Keep [] w w') := by
    intro m w hm
    exact ten_any m k (by omega) (by omega) (by omega) w
  have HA : Hid (∀ (m : Nat) (va vb : Value) (w : World), Big w va (m * 10 ^ k.toNat) 1000 → Big w vb (10 ^ (-k).toNat) 1000 → Calls Tryz.prog 72 #[.agg #[va, vb], .int .u64 ((atM n : Nat) : Int), .int .i64 (atE n)] w fun r w' => r = .returned (.int .i64 (cmpI ((m * tP P : Nat) : Int) ((wN n : Nat) : Int))) ∧ Keep [] w w') := by
    intro m va vb w ha hb
    have := against_any va vb _ _ _ _ (atM n) (atE n) w ha hb (by omega) (by omega) (by omega) (by omega) (by omega)
    rw [against_w n m P k hk] at this
    exact this
  have hR : ∀ lo : Nat, MosI n P lo (lo + 1) → lo = Q := fun lo h => by
    rw [← hQ]
    have := (Nat.le_div_iff_mul_le (tP_pos P)).2 h.2.1
    have := (Nat.div_lt_iff_lt_mul (tP_pos P)).2 h.2.2
    omega
  have HR : Hid _ := hR
  clear hw hR hk hP h2 hbd hQ
  generalize ((atM n : Nat) : Int) = M at *
  generalize atE n = E at *
  go_enter Tryz.func74, Tryz.ntmps74
  go_wp2
  go_loopw [9, 10] (fun lv hv wr => ∃ lo hi : Nat, lv = .int .i64 (lo : Int) ∧ hv = .int .i64 (hi : Int) ∧ hi ≤ T ∧ Hid (MosI n P lo hi) ∧ Hid (Keep [] w wr)) (fun lv hv _ => (intOf hv - intOf lv).toNat)
  case atStart => exact ⟨0, T, rfl, rfl, Nat.le_refl _, H0, Keep.refl _ w⟩
  case round =>
    clear H0
    obtain ⟨lo, hi, rfl, rfl, hhT, HI, HK⟩ := hrel
    have hlh : lo < hi := HI.out.1
    by_cases hd : lo + 1 < hi
    · have hdi : 1 < (hi : Int) - lo := by omega
      obtain ⟨m, hmid⟩ : ∃ m : Nat, m = lo + (hi - lo) / 2 := ⟨_, rfl⟩
      have hmz : (lo : Int) + ((hi : Int) - lo).tdiv 2 = (m : Int) := by rw [Int.tdiv_eq_ediv_of_nonneg (by omega)]; omega
      have hm1 : lo < m := by omega
      have hm2 : m < hi := by omega
      clear hmid
      have hTen := fun w => HT.out m w (by omega)
      by_cases hc : m * tP P ≤ wN n
      · have hge := (cmpI_le _ _).2 hc
        have HJ : Hid (MosI n P m hi) := (⟨hm2, hc, HI.out.2.2⟩ : MosI n P m hi)
        have hA := fun va vb w => HA.out m va vb w
        clear hc
        generalize cmpI ((m * tP P : Nat) : Int) ((wN n : Nat) : Int) = z at *
        go_wp2_with (first
          | (go_at_call 73; refine (hTen _).mono ?_; rintro e9 w8 ⟨va, vb, rfl, ⟨hba, hbb⟩, hk8⟩)
          | (go_at_call 72; refine (hA _ _ _ hba hbb).mono ?_; rintro e9 w9 ⟨rfl, hk9⟩))
        have HK2 : Hid (Keep [] w w9) := (HK.out.trans' hk8).trans' hk9
        clear hk8 hk9 hba hbb
        go_roundw
        case rel => exact ⟨m, hi, rfl, rfl, hhT, HJ, HK2⟩
        case measure => simp only [intOf]; omega
      · have hge : ¬ cmpI ((m * tP P : Nat) : Int) ((wN n : Nat) : Int) ≤ 0 := fun h => hc ((cmpI_le _ _).1 h)
        have HJ : Hid (MosI n P lo m) := (⟨hm1, HI.out.2.1, by omega⟩ : MosI n P lo m)
        have hA := fun va vb w => HA.out m va vb w
        clear hc
        generalize cmpI ((m * tP P : Nat) : Int) ((wN n : Nat) : Int) = z at *
        go_wp2_with (first
          | (go_at_call 73; refine (hTen _).mono ?_; rintro e9 w8 ⟨va, vb, rfl, ⟨hba, hbb⟩, hk8⟩)
          | (go_at_call 72; refine (hA _ _ _ hba hbb).mono ?_; rintro e9 w9 ⟨rfl, hk9⟩))
        have HK2 : Hid (Keep [] w w9) := (HK.out.trans' hk8).trans' hk9
        clear hk8 hk9 hba hbb
        go_roundw
        case rel => exact ⟨lo, m, rfl, rfl, by omega, HJ, HK2⟩
        case measure => simp only [intOf]; omega
    · have hdi : ¬ 1 < (hi : Int) - lo := by omega
      obtain rfl : hi = lo + 1 := by omega
      have HZ : Hid (lo = Q) := HR.out lo HI.out
      go_wp2
      go_ret
      exact ⟨by rw [← HZ.out]; rfl, HK.out⟩

theorem cmpI_three (a b : Nat) : (cmpI (a : Int) (b : Int) = 1 ∧ b < a) ∨ (cmpI (a : Int) (b : Int) = 0 ∧ a = b) ∨ (cmpI (a : Int) (b : Int) = -1 ∧ a < b) := by
  unfold cmpI
  by_cases h : (a : Int) < b
  · rw [if_pos h]; omega
  · rw [if_neg h]
    by_cases g : (b : Int) < a
    · rw [if_pos g]; omega
    · rw [if_neg g]; omega
def neaB (n P q : Nat) : Bool := decide (2 * wN n < (2 * q + 1) * tP P) || (decide (2 * wN n = (2 * q + 1) * tP P) && decide (q % 2 = 0))
set_option maxRecDepth 1000000 in
set_option maxHeartbeats 1600000 in
theorem nearer_any (n q P : Nat) (k : Int) (hk : k = (P : Int) - 60) (hP : P ≤ 200) (h2 : n < 2139095040) (hq : q ≤ 1000000000000) (w : World) :
    Calls Tryz.prog 76 #[.int .i64 (q : Int), .int .i64 k, .int .u64 ((atM n : Nat) : Int), .int .i64 (atE n)] w fun e w' => e = .returned (.bool (neaB n P q)) ∧ Keep [] w w' := by
  have hbd := at_bounds n (by omega)
  have hqi : 0 ≤ (q : Int) ∧ (q : Int) ≤ 1000000000000 := by omega
  have hMi : 0 ≤ ((atM n : Nat) : Int) ∧ ((atM n : Nat) : Int) < 16777216 := by omega
  have HT : Hid (∀ w : World, Calls Tryz.prog 73 #[.int .i64 (2 * (q : Int) + 1), .int .i64 k] w fun r w' => ∃ va vb, r = .returned (.agg #[va, vb]) ∧ (Big w' va ((2 * q + 1) * 10 ^ k.toNat) 1000 ∧ Big w' vb (10 ^ (-k).toNat) 1000) ∧ Keep [] w w') := by
    intro w
    have := ten_any (2 * q + 1) k (by omega) (by omega) (by omega) w
    rw [show ((2 * q + 1 : Nat) : Int) = 2 * (q : Int) + 1 by omega] at this
    exact this
  have HA : Hid (∀ (va vb : Value) (w : World), Big w va ((2 * q + 1) * 10 ^ k.toNat) 1000 → Big w vb (10 ^ (-k).toNat) 1000 → Calls Tryz.prog 72 #[.agg #[va, vb], .int .u64 (2 * ((atM n : Nat) : Int)), .int .i64 (atE n)] w fun r w' => r = .returned (.int .i64 (cmpI (((2 * q + 1) * tP P : Nat) : Int) ((2 * wN n : Nat) : Int))) ∧ Keep [] w w') := by
    intro va vb w ha hb
    have := against_any va vb _ _ _ _ (2 * atM n) (atE n) w ha hb (by omega) (by omega) (by omega) (by omega) (by omega)
    rw [against_2w n (2 * q + 1) P k hk, show ((2 * atM n : Nat) : Int) = 2 * ((atM n : Nat) : Int) by omega] at this
    exact this
  have hN : neaB n P q = (decide (2 * wN n < (2 * q + 1) * tP P) || (decide (2 * wN n = (2 * q + 1) * tP P) && decide (q % 2 = 0))) := rfl
  have h3 := cmpI_three ((2 * q + 1) * tP P) (2 * wN n)
  generalize cmpI (((2 * q + 1) * tP P : Nat) : Int) ((2 * wN n : Nat) : Int) = z at *
  generalize ((atM n : Nat) : Int) = M at *
  generalize atE n = E at *
  generalize (2 * q + 1) * tP P = a at *
  generalize 2 * wN n = b at *
  generalize neaB n P q = r at *
  obtain ⟨hq0, hq1⟩ := hqi
  obtain ⟨hM0, hM1⟩ := hMi
  clear hbd hk hP h2 hq
  have hA := HA.out
  have hT := HT.out
  clear HA HT
  have HM : Hid (2 * (q : Int) + 1 ≤ 2000000000001) := show 2 * (q : Int) + 1 ≤ 2000000000001 by omega
  rcases h3 with ⟨rfl, h⟩ | ⟨rfl, h⟩ | ⟨rfl, h⟩
  · have hr : r = true := by rw [hN, decide_eq_true h]; rfl
    subst hr
    clear hN h
    go_enter Tryz.func76, Tryz.ntmps76
    go_wp2_with (first
      | (go_at_call 73; refine (hT _).mono ?_; rintro e9 w8 ⟨va, vb, rfl, ⟨hba, hbb⟩, hk8⟩)
      | (go_at_call 72; refine (hA _ _ _ hba hbb).mono ?_; rintro e9 w9 ⟨rfl, hk9⟩))
    go_ret
    exact ⟨rfl, hk8.trans' hk9⟩
  · subst h
    have hm : (q : Int).tmod 2 = ((q % 2 : Nat) : Int) := by rw [Int.tmod_eq_emod_of_nonneg hq0]; omega
    by_cases hp : q % 2 = 0
    · have hr : r = true := by rw [hN, decide_eq_true hp]; simp
      subst hr
      rw [hp] at hm
      clear hN hp
      go_enter Tryz.func76, Tryz.ntmps76
      go_wp2_with (first
        | (go_at_call 73; refine (hT _).mono ?_; rintro e9 w8 ⟨va, vb, rfl, ⟨hba, hbb⟩, hk8⟩)
        | (go_at_call 72; refine (hA _ _ _ hba hbb).mono ?_; rintro e9 w9 ⟨rfl, hk9⟩))
      go_ret
      exact ⟨rfl, hk8.trans' hk9⟩
    · have hr : r = false := by rw [hN, decide_eq_false hp]; simp
      subst hr
      have hp1 : q % 2 = 1 := by omega
      rw [hp1] at hm
      clear hN hp hp1
      go_enter Tryz.func76, Tryz.ntmps76
      go_wp2_with (first
        | (go_at_call 73; refine (hT _).mono ?_; rintro e9 w8 ⟨va, vb, rfl, ⟨hba, hbb⟩, hk8⟩)
        | (go_at_call 72; refine (hA _ _ _ hba hbb).mono ?_; rintro e9 w9 ⟨rfl, hk9⟩))
      go_ret
      exact ⟨rfl, hk8.trans' hk9⟩
  · have hr : r = false := by rw [hN, decide_eq_false (by omega), decide_eq_false (by omega)]; rfl
    subst hr
    clear hN h
    go_enter Tryz.func76, Tryz.ntmps76
    go_wp2_with (first
      | (go_at_call 73; refine (hT _).mono ?_; rintro e9 w8 ⟨va, vb, rfl, ⟨hba, hbb⟩, hk8⟩)
      | (go_at_call 72; refine (hA _ _ _ hba hbb).mono ?_; rintro e9 w9 ⟨rfl, hk9⟩))
    go_ret
    exact ⟨rfl, hk8.trans' hk9⟩
end Go.Proofs.YtjdihnkcigoajaaGreatDoor

