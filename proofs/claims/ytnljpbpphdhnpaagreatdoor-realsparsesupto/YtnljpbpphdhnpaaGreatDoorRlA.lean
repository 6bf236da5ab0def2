/- The program's order of reals, their keys, the next one: for every input. -/
import Derived.Test.YtnljpbpphdhnpaaGreatDoorSameR
namespace Go.Proofs.YtnljpbpphdhnpaaGreatDoor
open Go.RowKit Go.PlainAid

def ltB (a b : Nat) : Bool := !nanB a && !nanB b && decide (svalZ a < svalZ b)
theorem lt_any (a b : Nat) : (FloatKind.f32.format.order a b == some Ordering.lt) = ltB a b := by
  unfold ltB
  cases ha : nanB a
  · cases hb : nanB b
    · rw [(ord_facts a b ha hb).1]; rfl
    · show (Ieee.single.order a b == some Ordering.lt) = _
      rw [order_any, if_pos (.inr (by simpa [nanB, rungN] using hb))]
      rfl
  · show (Ieee.single.order a b == some Ordering.lt) = _
    rw [order_any, if_pos (.inl (by simpa [nanB, rungN] using ha))]
    rfl
theorem gt_any (a b : Nat) : (FloatKind.f32.format.order a b == some Ordering.gt) = ltB b a := by
  unfold ltB
  cases ha : nanB a
  · cases hb : nanB b
    · rw [(ord_facts a b ha hb).2.1]; rfl
    · show (Ieee.single.order a b == some Ordering.gt) = _
      rw [order_any, if_pos (.inr (by simpa [nanB, rungN] using hb))]
      rfl
  · show (Ieee.single.order a b == some Ordering.gt) = _
    rw [order_any, if_pos (.inl (by simpa [nanB, rungN] using ha))]
    cases nanB b <;> rfl

/-- where a real stands, by its key -/
theorem stand (a b : Nat) (ha : a < 4294967296) (hb : b < 4294967296) (na : nanB a = false) (nb : nanB b = false) :
    (svalZ a < svalZ b ↔ (keyN a < keyN b ∧ ¬ (a = 2147483648 ∧ b = 0))) ∧ (svalZ a = svalZ b ↔ (keyN a = keyN b ∨ (a = 2147483648 ∧ b = 0) ∨ (a = 0 ∧ b = 2147483648))) := by
  obtain ⟨s1, s2⟩ := sval_srung a b
  have ra : rungN a ≤ 2139095040 := by simpa [nanB, rungN] using na
  have rb : rungN b ≤ 2139095040 := by simpa [nanB, rungN] using nb
  rw [s1, s2]
  unfold keyN srungZ
  rw [na, nb]
  unfold rungN at ra rb ⊢
  simp only [Bool.false_eq_true, if_false]
  constructor <;> split <;> split <;> split <;> split <;> omega
theorem key_low (a : Nat) (na : nanB a = false) (ha : a < 4294967296) : 8388607 ≤ keyN a ∧ keyN a ≤ 4286578688 := by
  have ra : rungN a ≤ 2139095040 := by simpa [nanB, rungN] using na
  unfold keyN
  rw [na]
  unfold rungN at ra
  simp only [Bool.false_eq_true, if_false]
  split <;> omega
theorem key_nan (a : Nat) (na : nanB a = true) : keyN a = 4290772992 := by
  unfold keyN; rw [na]; rfl
theorem same_key (a b : Nat) (ha : a < 4294967296) (hb : b < 4294967296) : sameR a b = decide (keyN a = keyN b) := by
  unfold sameR eqB belowB
  cases na : nanB a
  · have ka := key_low a na ha
    cases nb : nanB b
    · obtain ⟨_, s2⟩ := stand a b ha hb na nb
      simp only [Bool.false_and, Bool.false_or, Bool.not_false, Bool.true_and]
      rw [Bool.eq_iff_iff]
      simp only [Bool.and_eq_true, decide_eq_true_eq, beq_iff_eq, decide_eq_decide]
      rw [s2]
      have ra : rungN a ≤ 2139095040 := by simpa [nanB, rungN] using na
      have rb : rungN b ≤ 2139095040 := by simpa [nanB, rungN] using nb
      unfold rungN at ra rb
      unfold keyN
      rw [na, nb]
      simp only [Bool.false_eq_true, if_false]
      split <;> split <;> omega
    · have kb := key_nan b nb
      simp
      omega
  · have ka := key_nan a na
    cases nb : nanB b
    · have kb := key_low b nb hb
      simp
      omega
    · have kb := key_nan b nb
      simp
      omega
theorem cmp_key (a b : Nat) (ha : a < 4294967296) (hb : b < 4294967296) :
    cmpI (keyN a) (keyN b) = if sameR a b = true then 0 else if (nanB b || ltB a b) = true then -1 else if (nanB a || ltB b a) = true then 1 else if belowB a = true then -1 else 1 := by
  rw [same_key a b ha hb]
  unfold ltB belowB cmpI
  simp only [decide_eq_true_eq]
  by_cases he : keyN a = keyN b
  · rw [if_pos he, if_neg (by omega), if_neg (by omega)]
  rw [if_neg he]
  cases na : nanB a
  · have ka := key_low a na ha
    cases nb : nanB b
    · obtain ⟨s1, _⟩ := stand a b ha hb na nb
      obtain ⟨s3, _⟩ := stand b a hb ha nb na
      simp only [Bool.not_false, Bool.true_and, Bool.false_or, decide_eq_true_eq]
      simp only [s1, s3]
      have ra : rungN a ≤ 2139095040 := by simpa [nanB, rungN] using na
      have rb : rungN b ≤ 2139095040 := by simpa [nanB, rungN] using nb
      unfold rungN at ra rb
      have k0 : keyN 0 = 2147483648 := by decide
      have k1 : keyN 2147483648 = 2147483647 := by decide
      by_cases h1 : keyN a < keyN b
      · rw [if_pos (by omega)]
        by_cases h2 : a = 2147483648 ∧ b = 0
        · obtain ⟨rfl, rfl⟩ := h2
          decide
        · rw [if_pos ⟨h1, h2⟩]
      · rw [if_neg (by omega), if_pos (by omega), if_neg (fun h => h1 h.1)]
        by_cases h2 : b = 2147483648 ∧ a = 0
        · obtain ⟨rfl, rfl⟩ := h2
          decide
        · rw [if_pos ⟨by omega, h2⟩]
    · have kb := key_nan b nb
      rw [if_pos (by omega)]
      rfl
  · have ka := key_nan a na
    cases nb : nanB b
    · have kb := key_low b nb hb
      rw [if_neg (by omega), if_pos (by omega)]
      rfl
    · have kb := key_nan b nb
      omega


def fromN (k : Nat) : Nat := if nanB (bitsK k) = true then 2143289344 else bitsK k
def nextN (x : Nat) (up : Bool) : Nat := if up then fromN (keyN x + 1) else if keyN x = 4290772992 then 2139095040 else if keyN x = 8388607 then x else fromN (keyN x - 1)

theorem bitsK_lt (k : Nat) (h : k < 4294967296) : bitsK k < 4294967296 := by unfold bitsK; split <;> omega
theorem fromN_lt (k : Nat) (h : k < 4294967296) : fromN k < 4294967296 := by
  unfold fromN; split
  · omega
  · exact bitsK_lt k h
/-- the key of what a key says -/
theorem key_from (k : Nat) (h : k < 4294967296) : keyN (fromN k) = if 8388607 ≤ k ∧ k ≤ 4286578688 then k else 4290772992 := by
  unfold fromN
  by_cases hr : 8388607 ≤ k ∧ k ≤ 4286578688
  · have hn : nanB (bitsK k) = false := by
      unfold nanB bitsK
      simp only [decide_eq_false_iff_not]
      split <;> omega
    rw [if_pos hr, hn, if_neg (by decide)]
    unfold keyN
    rw [hn, if_neg (by decide)]
    unfold bitsK
    split <;> split <;> omega
  · have hn : nanB (bitsK k) = true := by
      unfold nanB bitsK
      simp only [decide_eq_true_eq]
      split <;> omega
    rw [if_neg hr, hn, if_pos rfl]
    decide

theorem nan_any (w : World) : Calls Tryz.prog 26 #[] w fun e w' => e = .returned (.float .f32 2143289344) ∧ w' = w := by
  have hfb := run_f32from 2143289344
  have e : ((2143289344 : Nat) : Int) = 2143289344 := rfl
  rw [e] at hfb; clear e
  go_enter Tryz.func26, Tryz.ntmps26
  go_wp2
  go_ret
  exact ⟨rfl, rfl⟩
set_option maxRecDepth 1000000 in
theorem signed_any (x : Nat) (h : x < 2147483648) (neg : Bool) (w : World) : Calls Tryz.prog 30 #[.float .f32 x, .bool neg] w fun e w' => e = .returned (.float .f32 (if neg then x + 2147483648 else x)) ∧ w' = w := by
  have hfb := run_f32bits x
  have hfr := run_f32from (x + 2147483648)
  have hor := or31 x h
  cases neg
  · go_enter Tryz.func30, Tryz.ntmps30
    go_wp2
    go_ret
    exact ⟨rfl, rfl⟩
  · simp only [if_true]
    generalize x + 2147483648 = y at *
    go_enter Tryz.func30, Tryz.ntmps30
    go_wp2
    go_ret
    exact ⟨rfl, rfl⟩
theorem infinite_any (neg : Bool) (w : World) : Calls Tryz.prog 27 #[.bool neg] w fun e w' => e = .returned (.float .f32 (if neg then 4286578688 else 2139095040)) ∧ w' = w := by
  have hfb := run_f32from 2139095040
  have e : ((2139095040 : Nat) : Int) = 2139095040 := rfl
  rw [e] at hfb; clear e
  have hS := signed_any 2139095040 (by decide) neg
  go_enter Tryz.func27, Tryz.ntmps27
  go_wp2_with (first | (go_at_call 30; refine (hS _).mono ?_; rintro e9 w9 ⟨rfl, hw9⟩; obtain rfl := hw9.symm))
  all_goals go_ret
  all_goals simp_all

theorem key_bot (x : Nat) (h : x < 4294967296) : 8388607 ≤ keyN x := by
  cases hn : nanB x
  · have := key_low x hn h; omega
  · rw [key_nan x hn]; omega
theorem key_top (x : Nat) (h : x < 4294967296) : keyN x ≤ 4290772992 := by
  cases hn : nanB x
  · have := key_low x hn h; omega
  · rw [key_nan x hn]; omega
end Go.Proofs.YtnljpbpphdhnpaaGreatDoor


