/- The order of reals: the statement's walk, for every three reals. -/
import Derived.Test.YthdibaeelbkghaaGreatDoorLaidT
namespace Go.Proofs.YthdibaeelbkghaaGreatDoor
open Go.RowKit Go.PlainAid

theorem key_up (x : Nat) (h : x < 4294967296) : nextN x true < 4294967296 ∧ keyN (nextN x true) = if keyN x < 4286578688 then keyN x + 1 else 4290772992 := by
  have h1 := key_top x h
  have h2 := key_bot x h
  unfold nextN
  simp only [if_true]
  refine ⟨fromN_lt _ (by omega), ?_⟩
  rw [key_from _ (by omega)]
  split <;> split <;> omega
theorem key_down (x : Nat) (h : x < 4294967296) : nextN x false < 4294967296 ∧ keyN (nextN x false) = if keyN x = 4290772992 then 4286578688 else if keyN x = 8388607 then 8388607 else keyN x - 1 := by
  have h1 := key_top x h
  have h2 := key_bot x h
  have h3 : keyN x = 4290772992 ∨ keyN x ≤ 4286578688 := by
    cases hn : nanB x
    · right; exact (key_low x hn h).2
    · left; exact key_nan x hn
  unfold nextN
  simp only [Bool.false_eq_true, if_false]
  by_cases e1 : keyN x = 4290772992
  · rw [if_pos e1, if_pos e1]; decide
  · rw [if_neg e1, if_neg e1]
    by_cases e2 : keyN x = 8388607
    · rw [if_pos e2, if_pos e2]; exact ⟨h, e2⟩
    · rw [if_neg e2, if_neg e2]
      refine ⟨fromN_lt _ (by omega), ?_⟩
      rw [key_from _ (by omega), if_pos (by omega)]
theorem key_range (x : Nat) (h : x < 4294967296) : keyN x = 4290772992 ∨ (8388607 ≤ keyN x ∧ keyN x ≤ 4286578688) := by
  cases hn : nanB x
  · right; exact key_low x hn h
  · left; exact key_nan x hn
theorem back_same (a : Nat) (h : a < 4294967296) : fromN (keyN a) < 4294967296 ∧ sameR (fromN (keyN a)) a = true := by
  have hl := keyN_lt a h
  have hf := fromN_lt _ hl
  refine ⟨hf, ?_⟩
  rw [same_key _ _ hf h, key_from _ hl]
  have := key_range a h
  simp only [decide_eq_true_eq]
  split <;> omega
theorem cmpI_lt {a b : Int} (h : a < b) : cmpI a b = -1 := by unfold cmpI; rw [if_pos h]
theorem cmpI_gt {a b : Int} (h : b < a) : cmpI a b = 1 := by unfold cmpI; rw [if_neg (by omega), if_pos h]
theorem cmpI_eq {a b : Int} (h : a = b) : cmpI a b = 0 := by unfold cmpI; rw [if_neg (by omega), if_neg (by omega)]
theorem cmpI_le {a b : Int} (h : a ≤ b) : ¬ (0 < cmpI a b) := by unfold cmpI; split; omega; split <;> omega
theorem cmpI_ge {a b : Int} (h : b ≤ a) : ¬ (cmpI a b < 0) := by unfold cmpI; split; omega; split <;> omega

end Go.Proofs.YthdibaeelbkghaaGreatDoor

