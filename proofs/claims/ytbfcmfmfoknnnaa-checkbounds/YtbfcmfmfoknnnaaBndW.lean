/- What each function on the road of CheckBounds answers. -/
import Derived.Test.YtbfcmfmfoknnnaaBndM
import Derived.Handy
import Derived.WalkMore
namespace Go.Proofs.Ytbfcmfmfoknnnaa
open Go.RowKit Go.PlainAid

set_option maxRecDepth 1000000 in
theorem capped_any (a b : Nat) (hb : 0 < b) (hb2 : b ≤ 4611686018427387904) (w : World) :
    Calls Try.prog 9 #[.int .i64 (a : Nat), .int .i64 (b : Nat)] w fun e w' => e = .returned (.int .i64 (capN a b : Nat)) ∧ w' = w := by
  obtain ⟨q, hq⟩ : ∃ q, 4611686018427387904 / b = q := ⟨_, rfl⟩
  have hq1 : (4611686018427387904 : Int) / (b : Int) = (q : Int) := by rw [← hq]; rfl
  have hq2 : (4611686018427387904 : Int).tdiv (b : Int) = (q : Int) := by rw [Int.tdiv_eq_ediv_of_nonneg (by decide), hq1]
  have hq3 : q ≤ 4611686018427387904 := by rw [← hq]; exact Nat.div_le_self _ _
  by_cases h : q < a
  · have e : capN a b = 4611686018427387904 := by unfold capN; rw [hq, if_pos h]
    rw [e]
    clear e hq
    go_enter Try.func9, Try.ntmps9
    go_wp2
    go_ret
    exact ⟨rfl, rfl⟩
  · have e : capN a b = a * b := by unfold capN; rw [hq, if_neg h]
    have hm : a * b ≤ 4611686018427387904 := by
      have := (Nat.le_div_iff_mul_le hb).1 (Nat.le_of_not_lt (hq.symm ▸ h))
      exact this
    obtain ⟨m, hm0⟩ : ∃ m, a * b = m := ⟨_, rfl⟩
    have hm2 : (a : Int) * (b : Int) = (m : Int) := by rw [← hm0]; rfl
    rw [e, hm0]
    rw [hm0] at hm
    clear e hq hm0
    go_enter Try.func9, Try.ntmps9
    go_wp2
    go_ret
    exact ⟨rfl, rfl⟩

set_option maxRecDepth 1000000 in
theorem more_any (n : Nat) (hn : n ≤ 9223372036854775807) (w : World) :
    Calls Try.prog 11 #[.int .i64 (n : Nat)] w fun e w' => e = .returned (.int .i64 (moreN n : Nat)) ∧ w' = w := by
  by_cases h : n ≤ 8388608
  · have e : (moreN n : Int) = (n : Int) + 2 := by unfold moreN; omega
    have h2 : ¬ ((8388608 : Int) < (n : Int)) := by omega
    rw [e]
    go_enter Try.func11, Try.ntmps11
    go_wp2
    go_ret
    exact ⟨rfl, rfl⟩
  · have e : (moreN n : Int) = 8388610 := by unfold moreN; omega
    have h2 : ((8388608 : Int) < (n : Int)) := by omega
    rw [e]
    go_enter Try.func11, Try.ntmps11
    go_wp2
    go_ret
    exact ⟨rfl, rfl⟩
set_option maxRecDepth 1000000 in
theorem third_any (x : Nat) (hx : 0 < x) (hx2 : x ≤ 9223372036854775807) (w : World) :
    Calls Try.prog 10 #[.int .i64 (x : Nat)] w fun e w' => e = .returned (.int .i64 (thirdN x : Nat)) ∧ w' = w := by
  by_cases h : 4194304 < x
  · have e : thirdN x = 4611686018427387904 := by unfold thirdN; rw [if_pos h]
    rw [e]
    go_enter Try.func10, Try.ntmps10
    go_wp2
    go_ret
    exact ⟨rfl, rfl⟩
  · have e : thirdN x = capN (capN x x) x := by unfold thirdN; rw [if_neg h]
    have b1 := capN_le x x hx
    have b2 := capN_le (capN x x) x hx
    have H1 := fun w => capped_any x x hx (by omega) w
    have H2 := fun w => capped_any (capN x x) x hx (by omega) w
    rw [e]
    clear e
    generalize capN (capN x x) x = c2 at *
    generalize capN x x = c1 at *
    go_enter Try.func10, Try.ntmps10
    go_wp2_with fail
    refine (H1 _).mono ?_
    rintro e9 w9 ⟨rfl, hw9⟩
    obtain rfl := hw9.symm
    clear hw9
    go_wp2_with fail
    refine (H2 _).mono ?_
    rintro e9 w9 ⟨rfl, hw9⟩
    obtain rfl := hw9.symm
    clear hw9
    go_wp2
    go_ret
    exact ⟨rfl, rfl⟩
/-- one of the program's factors more -/
def rs (p f : Nat) : Nat → Nat
  | 0 => p
  | k + 1 => rs (capN p f) f k
theorem rs_top (f : Nat) (hf : 2 ≤ f) (hf2 : f ≤ 4611686018427387906) : ∀ k, rs 4611686018427387904 f k = 4611686018427387904 := by
  intro k
  induction k with
  | zero => rfl
  | succ k ih =>
    have e : capN 4611686018427387904 f = 4611686018427387904 := by
      unfold capN
      rw [if_pos]
      exact Nat.div_lt_self (by decide) (by omega)
    unfold rs
    rw [e, ih]
set_option maxRecDepth 1000000 in
theorem raised_any (p n k : Nat) (hp : p ≤ 4611686018427387904) (hn : n ≤ 9223372036854775807) (hk : k ≤ 4) (w : World) :
    Calls Try.prog 12 #[.int .i64 (p : Nat), .int .i64 (n : Nat), .int .i64 (k : Nat)] w fun e w' => e = .returned (.int .i64 (rs p (fN n) k : Nat)) ∧ w' = w := by
  obtain ⟨f, hf, hf1, hf2⟩ : ∃ f, fN n = f ∧ 2 ≤ f ∧ f ≤ 4611686018427387906 := ⟨_, rfl, by unfold fN; omega, by unfold fN; omega⟩
  have hcase : (n ≤ 4611686018427387904 ∧ (f : Int) = (n : Int) + 2) ∨ (4611686018427387904 < n ∧ (f : Int) = 4611686018427387906) := by
    rw [← hf]; unfold fN; omega
  rw [hf]
  clear hf
  obtain ⟨q, hq⟩ : ∃ q, 4611686018427387904 / f = q := ⟨_, rfl⟩
  have hq1 : (4611686018427387904 : Int) / (f : Int) = (q : Int) := by rw [← hq]; rfl
  have hq2 : (4611686018427387904 : Int).tdiv (f : Int) = (q : Int) := by rw [Int.tdiv_eq_ediv_of_nonneg (by decide), hq1]
  have hq3 : q ≤ 4611686018427387904 := by rw [← hq]; exact Nat.div_le_self _ _
  have HN : Hid (∀ a, q < a → capN a f = 4611686018427387904) := fun a h => by unfold capN; rw [hq, if_pos h]
  have HM : Hid (∀ a, ¬ q < a → capN a f = a * f ∧ a * f ≤ 4611686018427387904) := fun a h => ⟨by unfold capN; rw [hq, if_neg h], (Nat.le_div_iff_mul_le (by omega)).1 (Nat.le_of_not_lt (hq.symm ▸ h))⟩
  clear hq
  obtain ⟨R, hR⟩ : ∃ R, rs p f k = R := ⟨_, rfl⟩
  rw [hR]
  rcases hcase with ⟨hn2, hfe⟩ | ⟨hn2, hfe⟩
  · have hn3 : ¬ ((4611686018427387904 : Int) < (n : Int)) := by omega
    have hfe2 : (n : Int) + 2 = (f : Int) := hfe.symm
    clear hfe
    go_enter Try.func12, Try.ntmps12
    go_wp2
    go_loop [0, 12] (fun x i => ∃ a j : Nat, a ≤ 4611686018427387904 ∧ j ≤ k ∧ rs a f (k - j) = R ∧ x = .int .i64 a ∧ i = .int .i64 j) (fun _ i => k - (intOf i).toNat)
    case atStart => exact ⟨p, 0, hp, Nat.zero_le _, hR, rfl, rfl⟩
    case round =>
      obtain ⟨a, j, ha, hj, hr, rfl, rfl⟩ := hrel
      by_cases hjk : j < k
      · have hji : (j : Int) < (k : Int) := by omega
        have hs : rs a f (k - j) = rs (capN a f) f (k - (j + 1)) := by
          rw [show k - j = (k - (j + 1)) + 1 by omega]; rfl
        by_cases hqa : q < a
        · have hc := HN.out a hqa
          rw [hs, hc, rs_top f hf1 hf2] at hr
          clear hs hc hR
          go_wp2
          go_ret
          exact ⟨by rw [← hr]; rfl, rfl⟩
        · obtain ⟨hc, hm⟩ := HM.out a hqa
          rw [hs, hc] at hr
          obtain ⟨m, hm0⟩ : ∃ m, a * f = m := ⟨_, rfl⟩
          have hm2 : (a : Int) * (f : Int) = (m : Int) := by rw [← hm0]; rfl
          rw [hm0] at hr hm
          clear hs hc hm0
          go_wp2
          go_round
          case rel => exact ⟨m, j + 1, hm, by omega, hr, by go_num, by go_num⟩
          case measure => simp [intOf]; omega
      · obtain rfl : j = k := by omega
        have hr2 : a = R := by rw [← hr, Nat.sub_self]; rfl
        clear hr hR
        go_wp2
        go_ret
        exact ⟨by rw [← hr2]; rfl, rfl⟩
  · have hn3 : ((4611686018427387904 : Int) < (n : Int)) := by omega
    have hfe2 : (4611686018427387906 : Int) = (f : Int) := hfe.symm
    clear hfe
    go_enter Try.func12, Try.ntmps12
    go_wp2
    go_loop [0, 12] (fun x i => ∃ a j : Nat, a ≤ 4611686018427387904 ∧ j ≤ k ∧ rs a f (k - j) = R ∧ x = .int .i64 a ∧ i = .int .i64 j) (fun _ i => k - (intOf i).toNat)
    case atStart => exact ⟨p, 0, hp, Nat.zero_le _, hR, rfl, rfl⟩
    case round =>
      obtain ⟨a, j, ha, hj, hr, rfl, rfl⟩ := hrel
      by_cases hjk : j < k
      · have hji : (j : Int) < (k : Int) := by omega
        have hs : rs a f (k - j) = rs (capN a f) f (k - (j + 1)) := by
          rw [show k - j = (k - (j + 1)) + 1 by omega]; rfl
        by_cases hqa : q < a
        · have hc := HN.out a hqa
          rw [hs, hc, rs_top f hf1 hf2] at hr
          clear hs hc hR
          go_wp2
          go_ret
          exact ⟨by rw [← hr]; rfl, rfl⟩
        · obtain ⟨hc, hm⟩ := HM.out a hqa
          rw [hs, hc] at hr
          obtain ⟨m, hm0⟩ : ∃ m, a * f = m := ⟨_, rfl⟩
          have hm2 : (a : Int) * (f : Int) = (m : Int) := by rw [← hm0]; rfl
          rw [hm0] at hr hm
          clear hs hc hm0
          go_wp2
          go_round
          case rel => exact ⟨m, j + 1, hm, by omega, hr, by go_num, by go_num⟩
          case measure => simp [intOf]; omega
      · obtain rfl : j = k := by omega
        have hr2 : a = R := by rw [← hr, Nat.sub_self]; rfl
        clear hr hR
        go_wp2
        go_ret
        exact ⟨by rw [← hr2]; rfl, rfl⟩
end Go.Proofs.Ytbfcmfmfoknnnaa
