/- The program's order of reals, their keys, the next one: for every input. -/
import Derived.Test.YtnjbdaonmgadaaaGreatDoorSameR
namespace Go.Proofs.YtnjbdaonmgadaaaGreatDoor
open Go.RowKit Go.PlainAid

def ltB (a b : Nat) : Bool := !nanB a && !nanB b && decide (svalZ a < svalZ b)
theorem lt_any (a b : Nat) : (FloatKind.f32.format.order a b == some Ordering.lt) = ltB a b := by
  unfold ltB
  cases ha : nanB a
  · cases hb : nanB b
    · rw [(ord_facts a b ha hb).1]; rfl
    · show (Ieee.single.order a b == some Ordering.lt) = _
      rw [order_any, if_pos (.inr (by simpa [nanB, rungN] using hb))]
      rfl
  · show (Ieee.single.order a b == some Ordering.lt) = _
    rw [order_any, if_pos (.inl (by simpa [nanB, rungN] using ha))]
    rfl
theorem gt_any (a b : Nat) : (FloatKind.f32.format.order a b == some Ordering.gt) = ltB b a := by
  unfold ltB
  cases ha : nanB a
  · cases hb : nanB b
    · rw [(ord_facts a b ha hb).2.1]; rfl
    · show (Ieee.single.order a b == some Ordering.gt) = _
      rw [order_any, if_pos (.inr (by simpa [nanB, rungN] using hb))]
      rfl
  · show (Ieee.single.order a b == some Ordering.gt) = _
    rw [order_any, if_pos (.inl (by simpa [nanB, rungN] using ha))]
    cases nanB b <;> rfl

/-- where a real stands, by its key -/
theorem stand (a b : Nat) (ha : a < 4294967296) (hb : b < 4294967296) (na : nanB a = false) (nb : nanB b = false) :
    (svalZ a < svalZ b ↔ (keyN a < keyN b ∧ ¬ (a = 2147483648 ∧ b = 0))) ∧ (svalZ a = svalZ b ↔ (keyN a = keyN b ∨ (a = 2147483648 ∧ b = 0) ∨ (a = 0 ∧ b = 2147483648))) := by
  obtain ⟨s1, s2⟩ := sval_srung a b
  have ra : rungN a ≤ 2139095040 := by simpa [nanB, rungN] using na
  have rb : rungN b ≤ 2139095040 := by simpa [nanB, rungN] using nb
  rw [s1, s2]
  unfold keyN srungZ
  rw [na, nb]
  unfold rungN at ra rb ⊢
  simp only [Bool.false_eq_true, if_false]
  constructor <;> split <;> split <;> split <;> split <;> omega
theorem key_low (a : Nat) (na : nanB a = false) (ha : a < 4294967296) : 8388607 ≤ keyN a ∧ keyN a ≤ 4286578688 := by
  have ra : rungN a ≤ 2139095040 := by simpa [nanB, rungN] using na
  unfold keyN
  rw [na]
  unfold rungN at ra
  simp only [Bool.false_eq_true, if_false]
  split <;> omega
theorem key_nan (a : Nat) (na : nanB a = true) : keyN a = 4290772992 := by
  unfold keyN; rw [na]; rfl
theorem same_key (a b : Nat) (ha : a < 4294967296) (hb : b < 4294967296) : sameR a b = decide (keyN a = keyN b) := by
  unfold sameR eqB belowB
  cases na : nanB a
  · have ka := key_low a na ha
    cases nb : nanB b
    · obtain ⟨_, s2⟩ := stand a b ha hb na nb
      simp only [Bool.false_and, Bool.false_or, Bool.not_false, Bool.true_and]
      rw [Bool.eq_iff_iff]
      simp only [Bool.and_eq_true, decide_eq_true_eq, beq_iff_eq, decide_eq_decide]
      rw [s2]
      have ra : rungN a ≤ 2139095040 := by simpa [nanB, rungN] using na
      have rb : rungN b ≤ 2139095040 := by simpa [nanB, rungN] using nb
      unfold rungN at ra rb
      unfold keyN
      rw [na, nb]
      simp only [Bool.false_eq_true, if_false]
      split <;> split <;> omega
    · have kb := key_nan b nb
      simp
      omega
  · have ka := key_nan a na
    cases nb : nanB b
    · have kb := key_low b nb hb
      simp
      omega
    · have kb := key_nan b nb
      simp
      omega
theorem cmp_key (a b : Nat) (ha : a < 4294967296) (hb : b < 4294967296) :
    cmpI (keyN a) (keyN b) = if sameR a b = true then 0 else if (nanB b || ltB a b) = true then -1 else if (nanB a || ltB b a) = true then 1 else if belowB a = true then -1 else 1 := by
  rw [same_key a b ha hb]
  unfold ltB belowB cmpI
  simp only [decide_eq_true_eq]
  by_cases he : keyN a = keyN b
  · rw [if_pos he, if_neg (by omega), if_neg (by omega)]
  rw [if_neg he]
  cases na : nanB a
  · have ka := key_low a na ha
    cases nb : nanB b
    · obtain ⟨s1, _⟩ := stand a b ha hb na nb
      obtain ⟨s3, _⟩ := stand b a hb ha nb na
      simp only [Bool.not_false, Bool.true_and, Bool.false_or, decide_eq_true_eq]
      simp only [s1, s3]
      have ra : rungN a ≤ 2139095040 := by simpa [nanB, rungN] using na
      have rb : rungN b ≤ 2139095040 := by simpa [nanB, rungN] using nb
      unfold rungN at ra rb
      have k0 : keyN 0 = 2147483648 := by decide
      have k1 : keyN 2147483648 = 2147483647 := by decide
      by_cases h1 : keyN a < keyN b
      · rw [if_pos (by omega)]
        by_cases h2 : a = 2147483648 ∧ b = 0
        · obtain ⟨rfl, rfl⟩ := h2
          decide
        · rw [if_pos ⟨h1, h2⟩]
      · rw [if_neg (by omega), if_pos (by omega), if_neg (fun h => h1 h.1)]
        by_cases h2 : b = 2147483648 ∧ a = 0
        · obtain ⟨rfl, rfl⟩ := h2
          decide
        · rw [if_pos ⟨by omega, h2⟩]
    · have kb := key_nan b nb
      rw [if_pos (by omega)]
      rfl
  · have ka := key_nan a na
    cases nb : nanB b
    · have kb := key_low b nb hb
      rw [if_neg (by omega), if_pos (by omega)]
      rfl
    · have kb := key_nan b nb
      omega


def fromN (k : Nat) : Nat := if nanB (bitsK k) = true then 2143289344 else bitsK k
def nextN (x : Nat) (up : Bool) : Nat := if up then fromN (keyN x + 1) else if keyN x = 4290772992 then 2139095040 else if keyN x = 8388607 then x else fromN (keyN x - 1)

theorem bitsK_lt (k : Nat) (h : k < 4294967296) : bitsK k < 4294967296 := by unfold bitsK; split <;> omega
theorem fromN_lt (k : Nat) (h : k < 4294967296) : fromN k < 4294967296 := by
  unfold fromN; split
  · omega
  · exact bitsK_lt k h
/-- the key of what a key says -/
theorem key_from (k : Nat) (h : k < 4294967296) : keyN (fromN k) = if 8388607 ≤ k ∧ k ≤ 4286578688 then k else 4290772992 := by
  unfold fromN
  by_cases hr : 8388607 ≤ k ∧ k ≤ 4286578688
  · have hn : nanB (bitsK k) = false := by
      unfold nanB bitsK
      simp only [decide_eq_false_iff_not]
      split <;> omega
    rw [if_pos hr, hn, if_neg (by decide)]
    unfold keyN
    rw [hn, if_neg (by decide)]
    unfold bitsK
    split <;> split <;> omega
  · have hn : nanB (bitsK k) = true := by
      unfold nanB bitsK
      simp only [decide_eq_true_eq]
      split <;> omega
    rw [if_neg hr, hn, if_pos rfl]
    decide

theorem nan_any (w : World) : Calls Tryz.prog 18 #[] w fun e w' => e = .returned (.float .f32 2143289344) ∧ w' = w := by
  have hfb := run_f32from 2143289344
  have e : ((2143289344 : Nat) : Int) = 2143289344 := rfl
  rw [e] at hfb; clear e
  go_enter Tryz.func18, Tryz.ntmps18
  go_wp2
  go_ret
  exact ⟨rfl, rfl⟩
set_option maxRecDepth 1000000 in
theorem signed_any (x : Nat) (h : x < 2147483648) (neg : Bool) (w : World) : Calls Tryz.prog 22 #[.float .f32 x, .bool neg] w fun e w' => e = .returned (.float .f32 (if neg then x + 2147483648 else x)) ∧ w' = w := by
  have hfb := run_f32bits x
  have hfr := run_f32from (x + 2147483648)
  have hor := or31 x h
  cases neg
  · go_enter Tryz.func22, Tryz.ntmps22
    go_wp2
    go_ret
    exact ⟨rfl, rfl⟩
  · simp only [if_true]
    generalize x + 2147483648 = y at *
    go_enter Tryz.func22, Tryz.ntmps22
    go_wp2
    go_ret
    exact ⟨rfl, rfl⟩
theorem infinite_any (neg : Bool) (w : World) : Calls Tryz.prog 19 #[.bool neg] w fun e w' => e = .returned (.float .f32 (if neg then 4286578688 else 2139095040)) ∧ w' = w := by
  have hfb := run_f32from 2139095040
  have e : ((2139095040 : Nat) : Int) = 2139095040 := rfl
  rw [e] at hfb; clear e
  have hS := signed_any 2139095040 (by decide) neg
  go_enter Tryz.func19, Tryz.ntmps19
  go_wp2_with (first | (go_at_call 22; refine (hS _).mono ?_; rintro e9 w9 ⟨rfl, hw9⟩; obtain rfl := hw9.symm))
  all_goals go_ret
  all_goals simp_all

set_option maxRecDepth 1000000 in
set_option maxHeartbeats 800000 in
theorem key_any (x : Nat) (h : x < 4294967296) (w : World) :
    Calls Tryz.prog 26 #[.float .f32 x] w fun e w' => e = .returned (.int .u32 ((keyN x : Nat) : Int)) ∧ w' = w := by
  have hfb := run_f32bits x
  have hN := isNan_any x
  have hB := below0_any x h
  have hk : keyN x = if nanB x = true then 4290772992 else if 2147483648 ≤ x then 4294967295 - x else x + 2147483648 := rfl
  unfold belowB at hB
  cases hb : nanB x
  · rw [hb] at hN hk hB
    by_cases hx : 2147483648 ≤ x
    · rw [if_neg (by decide), if_pos hx] at hk
      rw [show decide (2147483648 ≤ x) = true by simpa using hx] at hB
      have hx1 := not32 x h
      rw [hk]; clear hk
      go_enter Tryz.func26, Tryz.ntmps26
      go_wp2_with (first | (go_at_call 15; refine (hN _).mono ?_; rintro e9 w9 ⟨rfl, hw9⟩; obtain rfl := hw9.symm) | (go_at_call 16; refine (hB _).mono ?_; rintro e9 w9 ⟨rfl, hw9⟩; obtain rfl := hw9.symm))
      all_goals go_ret
      all_goals exact ⟨rfl, rfl⟩
    · rw [if_neg (by decide), if_neg hx] at hk
      rw [show decide (2147483648 ≤ x) = false by simpa using hx] at hB
      have hx1 := or31 x (by omega)
      rw [hk]; clear hk
      go_enter Tryz.func26, Tryz.ntmps26
      go_wp2_with (first | (go_at_call 15; refine (hN _).mono ?_; rintro e9 w9 ⟨rfl, hw9⟩; obtain rfl := hw9.symm) | (go_at_call 16; refine (hB _).mono ?_; rintro e9 w9 ⟨rfl, hw9⟩; obtain rfl := hw9.symm))
      all_goals go_ret
      all_goals exact ⟨rfl, rfl⟩
  · rw [hb] at hN hk
    rw [if_pos rfl] at hk
    rw [hk]; clear hk
    go_enter Tryz.func26, Tryz.ntmps26
    go_wp2_with (first | (go_at_call 15; refine (hN _).mono ?_; rintro e9 w9 ⟨rfl, hw9⟩; obtain rfl := hw9.symm))
    all_goals go_ret
    all_goals exact ⟨rfl, rfl⟩

set_option maxRecDepth 1000000 in
set_option maxHeartbeats 1600000 in
theorem fromKey_any (k : Nat) (h : k < 4294967296) (w : World) :
    Calls Tryz.prog 27 #[.int .u32 (k : Int)] w fun e w' => e = .returned (.float .f32 (fromN k)) ∧ w' = w := by
  have hfb := run_f32from (bitsK k)
  have hN := isNan_any (bitsK k)
  have hV := nan_any
  have h31 := and31 k h
  have hx1 := not32 k h
  unfold fromN
  by_cases hx : 2147483648 ≤ k
  · have hbk : bits .andNot .u32 (k : Int) 2147483648 = (bitsK k : Int) := by rw [andNot31 k h hx]; unfold bitsK; rw [if_pos hx]
    rw [if_pos hx] at h31
    have ht : (bits .and .u32 (k : Int) 2147483648 != 0) = true := by rw [h31]; rfl
    clear h31
    generalize bitsK k = B at *
    cases hb : nanB B
    all_goals
      rw [hb] at hN
      simp only [Bool.false_eq_true, if_false, if_true]
      go_enter Tryz.func27, Tryz.ntmps27
      go_wp2_with (first | (go_at_call 15; refine (hN _).mono ?_; rintro e9 w9 ⟨rfl, hw9⟩; obtain rfl := hw9.symm) | (go_at_call 18; refine (hV _).mono ?_; rintro e9 w9 ⟨rfl, hw9⟩; obtain rfl := hw9.symm))
      go_ret
      exact ⟨rfl, rfl⟩
  · have hbk : bits .xor .u32 IntKind.u32.max (k : Int) = (bitsK k : Int) := by rw [not32 k h]; unfold bitsK; rw [if_neg hx]
    rw [if_neg hx] at h31
    have ht : (bits .and .u32 (k : Int) 2147483648 != 0) = false := by rw [h31]; rfl
    clear h31 hx1
    generalize bitsK k = B at *
    cases hb : nanB B
    all_goals
      rw [hb] at hN
      simp only [Bool.false_eq_true, if_false, if_true]
      go_enter Tryz.func27, Tryz.ntmps27
      go_wp2_with (first | (go_at_call 15; refine (hN _).mono ?_; rintro e9 w9 ⟨rfl, hw9⟩; obtain rfl := hw9.symm) | (go_at_call 18; refine (hV _).mono ?_; rintro e9 w9 ⟨rfl, hw9⟩; obtain rfl := hw9.symm))
      go_ret
      exact ⟨rfl, rfl⟩

theorem key_bot (x : Nat) (h : x < 4294967296) : 8388607 ≤ keyN x := by
  cases hn : nanB x
  · have := key_low x hn h; omega
  · rw [key_nan x hn]; omega
theorem key_top (x : Nat) (h : x < 4294967296) : keyN x ≤ 4290772992 := by
  cases hn : nanB x
  · have := key_low x hn h; omega
  · rw [key_nan x hn]; omega
set_option maxRecDepth 1000000 in
set_option maxHeartbeats 1600000 in
theorem next_any (x : Nat) (h : x < 4294967296) (up : Bool) (w : World) :
    Calls Tryz.prog 11 #[.float .f32 x, .bool up] w fun e w' => e = .returned (.float .f32 (nextN x up)) ∧ w' = w := by
  have hK := key_any x h
  have hI := infinite_any false
  simp only [Bool.false_eq_true, if_false] at hI
  have hl := key_top x h
  have hl2 := key_bot x h
  unfold nextN
  cases up
  · simp only [Bool.false_eq_true, if_false]
    generalize keyN x = k at *
    by_cases h1 : k = 4290772992
    · subst h1
      simp only [if_true]
      go_enter Tryz.func11, Tryz.ntmps11
      go_wp2_with (first | (go_at_call 26; refine (hK _).mono ?_; rintro e9 w9 ⟨rfl, hw9⟩; obtain rfl := hw9.symm) | (go_at_call 19; refine (hI _).mono ?_; rintro e9 w9 ⟨rfl, hw9⟩; obtain rfl := hw9.symm))
      go_ret
      exact ⟨rfl, rfl⟩
    · rw [if_neg h1]
      have t1 : ((k : Int) == 4290772992) = false := by simp; omega
      by_cases h2 : k = 8388607
      · subst h2
        simp only [if_true]
        go_enter Tryz.func11, Tryz.ntmps11
        go_wp2_with (first | (go_at_call 26; refine (hK _).mono ?_; rintro e9 w9 ⟨rfl, hw9⟩; obtain rfl := hw9.symm) | (go_at_call 19; refine (hI _).mono ?_; rintro e9 w9 ⟨rfl, hw9⟩; obtain rfl := hw9.symm))
        go_ret
        exact ⟨rfl, rfl⟩
      · rw [if_neg h2]
        have t2 : ((k : Int) == 8388607) = false := by simp; omega
        · have hF := fromKey_any (k - 1) (by omega)
          rw [show ((k - 1 : Nat) : Int) = (k : Int) - 1 by omega] at hF
          generalize fromN (k - 1) = fk at *
          go_enter Tryz.func11, Tryz.ntmps11
          go_wp2_with (first | (go_at_call 26; refine (hK _).mono ?_; rintro e9 w9 ⟨rfl, hw9⟩; obtain rfl := hw9.symm) | (go_at_call 27; refine (hF _).mono ?_; rintro e9 w9 ⟨rfl, hw9⟩; obtain rfl := hw9.symm))
          go_ret
          exact ⟨rfl, rfl⟩
  · simp only [if_true]
    generalize keyN x = k at *
    have hF := fromKey_any (k + 1) (by omega)
    rw [show ((k + 1 : Nat) : Int) = (k : Int) + 1 by omega] at hF
    generalize fromN (k + 1) = fk at *
    go_enter Tryz.func11, Tryz.ntmps11
    go_wp2_with (first | (go_at_call 26; refine (hK _).mono ?_; rintro e9 w9 ⟨rfl, hw9⟩; obtain rfl := hw9.symm) | (go_at_call 27; refine (hF _).mono ?_; rintro e9 w9 ⟨rfl, hw9⟩; obtain rfl := hw9.symm))
    go_ret
    exact ⟨rfl, rfl⟩

set_option maxRecDepth 100000 in
set_option maxHeartbeats 1600000 in
theorem compare_any (a b : Nat) (ha : a < 4294967296) (hb : b < 4294967296) (w : World) : Calls Tryz.prog 6 #[.float .f32 a, .float .f32 b] w fun e w' => e = .returned (.int .i64 (cmpI (keyN a) (keyN b))) ∧ w' = w := by
  have hS := realSame_any a b ha hb
  have hA := isNan_any a
  have hB := isNan_any b
  have hC := below0_any a ha
  have hL := lt_any a b
  have hG := gt_any a b
  rw [cmp_key a b ha hb]
  generalize sameR a b = s at hS ⊢
  generalize ltB a b = l at hL ⊢
  generalize ltB b a = g at hG ⊢
  generalize belowB a = p at hC ⊢
  generalize nanB a = na at hA ⊢
  generalize nanB b = nb at hB ⊢
  cases s <;> cases nb <;> cases l <;> cases na <;> cases g <;> cases p <;> simp only [Bool.or_self, Bool.or_true, Bool.or_false, Bool.false_eq_true, if_true, if_false]
  all_goals
    go_enter Tryz.func6, Tryz.ntmps6
    go_wp2_with (first | (go_at_call 9; refine (hS _).mono ?_; rintro e9 w9 ⟨rfl, hw9⟩; obtain rfl := hw9.symm) | (go_at_call 16; refine (hC _).mono ?_; rintro e9 w9 ⟨rfl, hw9⟩; obtain rfl := hw9.symm) | (go_at_call_of 15 b; refine (hB _).mono ?_; rintro e9 w9 ⟨rfl, hw9⟩; obtain rfl := hw9.symm) | (go_at_call_of 15 a; refine (hA _).mono ?_; rintro e9 w9 ⟨rfl, hw9⟩; obtain rfl := hw9.symm))
    go_ret
    exact ⟨rfl, rfl⟩

end Go.Proofs.YtnjbdaonmgadaaaGreatDoor

