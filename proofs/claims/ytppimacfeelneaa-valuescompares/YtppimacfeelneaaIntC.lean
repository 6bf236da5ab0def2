/- The document's CompareInt. -/
import Derived.Test.YtppimacfeelneaaIntB
namespace Go.Proofs.Ytppimacfeelneaa
open Go.RowKit Go.PlainAid

theorem atM_pos (r : Nat) (h : 0 < r) : 0 < atM r := by unfold atM; split <;> omega
theorem sval_sign (x : Nat) : (svalZ x = (valN (rungN x) : Int) ∧ ¬ svalZ x < 0) ∨ (svalZ x = -(valN (rungN x) : Int) ∧ (0 < rungN x → svalZ x < 0) ∧ (rungN x = 0 → ¬ svalZ x < 0)) := by
  unfold svalZ
  have hp : 0 < rungN x → 0 < valN (rungN x) := fun h => valN_pos h
  have hz : rungN x = 0 → valN (rungN x) = 0 := fun h => by rw [h]; rfl
  by_cases hs : x / 2147483648 % 2 = 1
  · rw [if_pos hs]
    exact .inr ⟨rfl, fun h => by have := hp h; omega, fun h => by rw [hz h]; decide⟩
  · rw [if_neg hs]
    exact .inl ⟨rfl, by omega⟩

theorem cmpI_flip (a b : Int) : cmpI a b = -cmpI b a := by
  unfold cmpI
  rcases Int.lt_trichotomy a b with h | h | h
  · rw [if_pos h, if_neg (by omega), if_pos h]
  · subst h; rw [if_neg (by omega), if_neg (by omega)]; rfl
  · rw [if_neg (by omega), if_pos h, if_pos h]; rfl
theorem cmpI_neg (a b : Int) : cmpI (-a) (-b) = cmpI b a := by
  unfold cmpI
  rcases Int.lt_trichotomy a b with h | h | h
  · rw [if_neg (by omega), if_pos (by omega), if_neg (by omega), if_pos h]
  · subst h; rw [if_neg (by omega), if_neg (by omega), if_neg (by omega), if_neg (by omega)]
  · rw [if_pos (by omega), if_pos h]

set_option maxRecDepth 1000000 in
set_option maxHeartbeats 3200000 in
theorem rCompareInt_any (x : Nat) (n : Int) (hx : x < 4294967296) (h1 : -9223372036854775808 ≤ n) (h2 : n ≤ 9223372036854775807) (w : World) :
    Calls Try.prog 39 #[.float .f32 x, .int .i64 n] w fun e w' => e = .returned (.tuple #[.int .i64 (cmpXN x n).1, .bool (cmpXN x n).2]) ∧ Keep [] w w' := by
  have hN := rIsNan_any x
  cases hb : nanB x
  · have hq : cmpXN x n = (cmpI (svalZ x) (n * 2 ^ 149), true) := by unfold cmpXN; rw [hb]; rfl
    rw [hq]
    rw [hb] at hN
    have hr : rungN x ≤ 2139095040 := by simpa [nanB, rungN] using hb
    have hF := finite_any x hx
    have hlt := (ord_facts x 0 hb (by decide)).1
    rw [show svalZ 0 = 0 from rfl] at hlt
    by_cases hf : rungN x < 2139095040
    · rw [show finB x = true by unfold finB; simpa using hf] at hF
      have hNu := number_any x hx hb
      have hA := at_any (rungN x) hf
      by_cases h0 : rungN x = 0
      · have hs0 : svalZ x = 0 := by rcases sval_sign x with ⟨e, _⟩ | ⟨e, _, _⟩ <;> rw [e, h0] <;> rfl
        rw [h0] at hNu hA
        rw [show ((atM 0 : Nat) : Int) = 0 from rfl, show atE 0 = -149 from rfl] at hA
        rw [show ((0 : Nat) : Int) = 0 from rfl] at hNu hA
        rw [hs0] at hlt ⊢
        rw [show decide ((0 : Int) < 0) = false by decide] at hlt
        clear hb hr hf h0 hs0 hq
        rcases Int.lt_trichotomy n 0 with hn | hn | hn
        · have hz : cmpI 0 (n * 2 ^ 149) = 1 := by unfold cmpI; rw [if_neg (by omega), if_pos (by omega)]
          have t1 : (n == 0) = false := by simp; omega
          rw [hz]
          go_enter Try.func39, Try.ntmps39
          go_wp2_with (first
            | (go_at_call 77; refine (hN _).mono ?_; rintro e9 w9 ⟨rfl, hw9⟩; obtain rfl := hw9.symm)
            | (go_at_call 78; refine (hF _).mono ?_; rintro e9 w9 ⟨rfl, n9, rfl⟩)
            | (go_at_call 80; refine (hNu _).mono ?_; rintro e9 w9 ⟨rfl, hw9⟩; obtain rfl := hw9.symm)
            | (go_at_call 79; refine (hA _).mono ?_; rintro e9 w9 ⟨rfl, hw9⟩; obtain rfl := hw9.symm))
          go_ret2
          exact ⟨rfl, (Keep.refl _ w).drewN _⟩
        · subst hn
          have hz : cmpI 0 (0 * 2 ^ 149) = 0 := by decide
          rw [hz]
          go_enter Try.func39, Try.ntmps39
          go_wp2_with (first
            | (go_at_call 77; refine (hN _).mono ?_; rintro e9 w9 ⟨rfl, hw9⟩; obtain rfl := hw9.symm)
            | (go_at_call 78; refine (hF _).mono ?_; rintro e9 w9 ⟨rfl, n9, rfl⟩)
            | (go_at_call 80; refine (hNu _).mono ?_; rintro e9 w9 ⟨rfl, hw9⟩; obtain rfl := hw9.symm)
            | (go_at_call 79; refine (hA _).mono ?_; rintro e9 w9 ⟨rfl, hw9⟩; obtain rfl := hw9.symm))
          go_ret2
          exact ⟨rfl, (Keep.refl _ w).drewN _⟩
        · have hz : cmpI 0 (n * 2 ^ 149) = -1 := by unfold cmpI; rw [if_pos (by omega)]
          have t1 : (n == 0) = false := by simp; omega
          rw [hz]
          go_enter Try.func39, Try.ntmps39
          go_wp2_with (first
            | (go_at_call 77; refine (hN _).mono ?_; rintro e9 w9 ⟨rfl, hw9⟩; obtain rfl := hw9.symm)
            | (go_at_call 78; refine (hF _).mono ?_; rintro e9 w9 ⟨rfl, n9, rfl⟩)
            | (go_at_call 80; refine (hNu _).mono ?_; rintro e9 w9 ⟨rfl, hw9⟩; obtain rfl := hw9.symm)
            | (go_at_call 79; refine (hA _).mono ?_; rintro e9 w9 ⟨rfl, hw9⟩; obtain rfl := hw9.symm))
          go_ret2
          exact ⟨rfl, (Keep.refl _ w).drewN _⟩
      · have hpos : 0 < rungN x := by omega
        have hM := atM_pos (rungN x) hpos
        have hMb := (at_bounds (rungN x) hr).1
        have hEb := (at_bounds (rungN x) hr).2
        have hvp := valN_pos hpos
        have hAg0 : ∀ (fa fb : Value) (wr : World), Big wr fa n.natAbs 3 → Big wr fb 1 1 → _ := fun fa fb wr a b => against_any fa fb n.natAbs 1 3 1 (atM (rungN x)) (atE (rungN x)) wr a b (by omega) (by omega) (by omega) (by omega) (by omega)
        have hAg : ∀ (fa fb : Value) (wr : World), Big wr fa n.natAbs 3 → Big wr fb 1 1 → Calls Try.prog 81 #[.agg #[fa, fb], .int .u64 ((atM (rungN x) : Nat) : Int), .int .i64 (atE (rungN x))] wr fun r w' => r = .returned (.int .i64 (cmpI ((n.natAbs * 2 ^ 149 : Nat) : Int) ((valN (rungN x) : Nat) : Int))) ∧ Keep [] wr w' := fun fa fb wr a b => by
          have h := hAg0 fa fb wr a b
          rw [against_val, Nat.mul_one] at h
          exact h
        have hS := size_any n h1 h2
        have hNb : n.natAbs < 18446744073709551616 := by omega
        have hcases : (n < 0 ∧ n * 2 ^ 149 = -((n.natAbs * 2 ^ 149 : Nat) : Int)) ∨ (¬ n < 0 ∧ n * 2 ^ 149 = ((n.natAbs * 2 ^ 149 : Nat) : Int)) := by omega
        have t0 : (((atM (rungN x) : Nat) : Int) == 0) = false := by simp; omega
        have t1 : (0 : Int) < ((atM (rungN x) : Nat) : Int) := by omega
        have hz3 : cmpI ((n.natAbs * 2 ^ 149 : Nat) : Int) ((valN (rungN x) : Nat) : Int) = -1 ∨ cmpI ((n.natAbs * 2 ^ 149 : Nat) : Int) ((valN (rungN x) : Nat) : Int) = 0 ∨ cmpI ((n.natAbs * 2 ^ 149 : Nat) : Int) ((valN (rungN x) : Nat) : Int) = 1 := by
          unfold cmpI; split
          · exact .inl rfl
          · split
            · exact .inr (.inr rfl)
            · exact .inr (.inl rfl)
        rcases sval_sign x with ⟨e, hs⟩ | ⟨e, hs, _⟩
        · rw [decide_eq_false hs] at hlt
          rcases hcases with ⟨hn, he⟩ | ⟨hn, he⟩
          · have hz : cmpI (svalZ x) (n * 2 ^ 149) = 1 := by rw [e, he]; unfold cmpI; rw [if_neg (by omega), if_pos (by omega)]
            rw [hz]
            clear hb hr hf hq e he hz3 hAg hAg0 hM hMb hEb hvp hs hpos h0 hS hNb
            generalize ((atM (rungN x) : Nat) : Int) = M at *
            generalize atE (rungN x) = E at *
            generalize rungN x = r at *
            go_enter Try.func39, Try.ntmps39
            go_wp2_with (first
              | (go_at_call 77; refine (hN _).mono ?_; rintro e9 w9 ⟨rfl, hw9⟩; obtain rfl := hw9.symm)
              | (go_at_call 78; refine (hF _).mono ?_; rintro e9 w9 ⟨rfl, n9, rfl⟩)
              | (go_at_call 80; refine (hNu _).mono ?_; rintro e9 w9 ⟨rfl, hw9⟩; obtain rfl := hw9.symm)
              | (go_at_call 79; refine (hA _).mono ?_; rintro e9 w9 ⟨rfl, hw9⟩; obtain rfl := hw9.symm))
            go_ret2
            exact ⟨rfl, (Keep.refl _ w).drewN _⟩
          · have hz : cmpI (svalZ x) (n * 2 ^ 149) = -cmpI ((n.natAbs * 2 ^ 149 : Nat) : Int) ((valN (rungN x) : Nat) : Int) := by rw [e, he]; exact cmpI_flip _ _
            rw [hz]
            have tn : (!decide (n < 0)) = true := by simp; omega
            clear hb hr hf hq e he hAg0 hM hMb hEb hvp hs hpos h0 hz
            generalize cmpI ((n.natAbs * 2 ^ 149 : Nat) : Int) ((valN (rungN x) : Nat) : Int) = z at *
            generalize ((atM (rungN x) : Nat) : Int) = M at *
            generalize atE (rungN x) = E at *
            generalize rungN x = r at *
            generalize n.natAbs = m at *
            rcases hz3 with rfl | rfl | rfl
            all_goals
              go_enter Try.func39, Try.ntmps39
              go_wp2_with (first
                | (go_at_call 77; refine (hN _).mono ?_; rintro e9 w9 ⟨rfl, hw9⟩; obtain rfl := hw9.symm)
                | (go_at_call 78; refine (hF _).mono ?_; rintro e9 w9 ⟨rfl, n9, rfl⟩)
                | (go_at_call 80; refine (hNu _).mono ?_; rintro e9 w9 ⟨rfl, hw9⟩; obtain rfl := hw9.symm)
                | (go_at_call 79; refine (hA _).mono ?_; rintro e9 w9 ⟨rfl, hw9⟩; obtain rfl := hw9.symm)
                | (go_at_call 83; refine (hS _).mono ?_; rintro e9 w9 ⟨rfl, hw9⟩; obtain rfl := hw9.symm)
                | (go_at_call 82; refine (number_big m hNb _).mono ?_; rintro e9 w1 ⟨v1, rfl, hb1, hf1, hk1⟩; obtain ⟨ao, na, ca, rfl⟩ := hb1.sl; have HB : Hid (Big w1 (.slice ao na ca) m 3 ∧ Keep [] w w1) := ⟨hb1, ((Keep.refl [] w).drewN n9).trans' hk1⟩; clear hb1 hf1 hk1)
                | (go_at_call 81; refine (hAg _ _ _ (HB.out.1.keep (Keep.alloc1 w1 _) (Off.nil _)) (Big.one w1)).mono ?_; rintro e9 w2 ⟨rfl, hk2⟩; have HK : Hid (Keep [] w w2) := (HB.out.2.alloc _).trans' hk2; clear hk2))
              go_ret2
              exact ⟨rfl, HK.out⟩
        · rw [decide_eq_true (hs hpos)] at hlt
          rcases hcases with ⟨hn, he⟩ | ⟨hn, he⟩
          · have hz : cmpI (svalZ x) (n * 2 ^ 149) = cmpI ((n.natAbs * 2 ^ 149 : Nat) : Int) ((valN (rungN x) : Nat) : Int) := by rw [e, he]; exact cmpI_neg _ _
            rw [hz]
            clear hb hr hf hq e he hAg0 hM hMb hEb hvp hs hpos h0 hz
            generalize cmpI ((n.natAbs * 2 ^ 149 : Nat) : Int) ((valN (rungN x) : Nat) : Int) = z at *
            generalize ((atM (rungN x) : Nat) : Int) = M at *
            generalize atE (rungN x) = E at *
            generalize rungN x = r at *
            generalize n.natAbs = m at *
            rcases hz3 with rfl | rfl | rfl
            all_goals
              go_enter Try.func39, Try.ntmps39
              go_wp2_with (first
                | (go_at_call 77; refine (hN _).mono ?_; rintro e9 w9 ⟨rfl, hw9⟩; obtain rfl := hw9.symm)
                | (go_at_call 78; refine (hF _).mono ?_; rintro e9 w9 ⟨rfl, n9, rfl⟩)
                | (go_at_call 80; refine (hNu _).mono ?_; rintro e9 w9 ⟨rfl, hw9⟩; obtain rfl := hw9.symm)
                | (go_at_call 79; refine (hA _).mono ?_; rintro e9 w9 ⟨rfl, hw9⟩; obtain rfl := hw9.symm)
                | (go_at_call 83; refine (hS _).mono ?_; rintro e9 w9 ⟨rfl, hw9⟩; obtain rfl := hw9.symm)
                | (go_at_call 82; refine (number_big m hNb _).mono ?_; rintro e9 w1 ⟨v1, rfl, hb1, hf1, hk1⟩; obtain ⟨ao, na, ca, rfl⟩ := hb1.sl; have HB : Hid (Big w1 (.slice ao na ca) m 3 ∧ Keep [] w w1) := ⟨hb1, ((Keep.refl [] w).drewN n9).trans' hk1⟩; clear hb1 hf1 hk1)
                | (go_at_call 81; refine (hAg _ _ _ (HB.out.1.keep (Keep.alloc1 w1 _) (Off.nil _)) (Big.one w1)).mono ?_; rintro e9 w2 ⟨rfl, hk2⟩; have HK : Hid (Keep [] w w2) := (HB.out.2.alloc _).trans' hk2; clear hk2))
              go_ret2
              exact ⟨rfl, HK.out⟩
          · have hz : cmpI (svalZ x) (n * 2 ^ 149) = -1 := by rw [e, he]; unfold cmpI; rw [if_pos (by omega)]
            rw [hz]
            clear hb hr hf hq e he hz3 hAg hAg0 hM hMb hEb hvp hs hpos h0 hS hNb
            generalize ((atM (rungN x) : Nat) : Int) = M at *
            generalize atE (rungN x) = E at *
            generalize rungN x = r at *
            go_enter Try.func39, Try.ntmps39
            go_wp2_with (first
              | (go_at_call 77; refine (hN _).mono ?_; rintro e9 w9 ⟨rfl, hw9⟩; obtain rfl := hw9.symm)
              | (go_at_call 78; refine (hF _).mono ?_; rintro e9 w9 ⟨rfl, n9, rfl⟩)
              | (go_at_call 80; refine (hNu _).mono ?_; rintro e9 w9 ⟨rfl, hw9⟩; obtain rfl := hw9.symm)
              | (go_at_call 79; refine (hA _).mono ?_; rintro e9 w9 ⟨rfl, hw9⟩; obtain rfl := hw9.symm))
            go_ret2
            exact ⟨rfl, (Keep.refl _ w).drewN _⟩
    · have hinf : rungN x = 2139095040 := by omega
      have hv : valN 2139095040 = 8388608 * 2 ^ 254 := by decide
      rw [show finB x = false by unfold finB; simpa using hf] at hF
      rcases sval_sign x with ⟨e, hs⟩ | ⟨e, hs, _⟩
      · have hz : cmpI (svalZ x) (n * 2 ^ 149) = 1 := by rw [e, hinf, hv]; unfold cmpI; rw [if_neg (by omega), if_pos (by omega)]
        rw [decide_eq_false hs] at hlt
        rw [hz]
        clear hb hr hf hq hv e hinf
        go_enter Try.func39, Try.ntmps39
        go_wp2_with (first
          | (go_at_call 77; refine (hN _).mono ?_; rintro e9 w9 ⟨rfl, hw9⟩; obtain rfl := hw9.symm)
          | (go_at_call 78; refine (hF _).mono ?_; rintro e9 w9 ⟨rfl, n9, rfl⟩))
        go_ret2
        exact ⟨rfl, (Keep.refl _ w).drewN _⟩
      · have hz : cmpI (svalZ x) (n * 2 ^ 149) = -1 := by rw [e, hinf, hv]; unfold cmpI; rw [if_pos (by omega)]
        rw [decide_eq_true (hs (by omega))] at hlt
        rw [hz]
        clear hb hr hf hq hv e hinf hs
        go_enter Try.func39, Try.ntmps39
        go_wp2_with (first
          | (go_at_call 77; refine (hN _).mono ?_; rintro e9 w9 ⟨rfl, hw9⟩; obtain rfl := hw9.symm)
          | (go_at_call 78; refine (hF _).mono ?_; rintro e9 w9 ⟨rfl, n9, rfl⟩))
        go_ret2
        exact ⟨rfl, (Keep.refl _ w).drewN _⟩
  · have hq : cmpXN x n = (0, false) := by unfold cmpXN; rw [hb]; rfl
    rw [hq]
    rw [hb] at hN
    go_enter Try.func39, Try.ntmps39
    go_wp2_with (first
      | (go_at_call 77; refine (hN _).mono ?_; rintro e9 w9 ⟨rfl, hw9⟩; obtain rfl := hw9.symm))
    go_ret2
    exact ⟨rfl, Keep.refl _ _⟩
end Go.Proofs.Ytppimacfeelneaa

