/- Conditions: whole numbers are reckoned with exactly, or not at all: sums, differences, the least number turned. -/
import Derived.Test.YtplbclokoffgkaaGreatDoorCdA
namespace Go.Proofs.YtplbclokoffgkaaGreatDoor
open Go.RowKit Go.PlainAid

def In64 (a : Int) : Prop := -9223372036854775808 ≤ a ∧ a ≤ 9223372036854775807
instance (a : Int) : Decidable (In64 a) := by unfold In64; infer_instance
/-- a whole number as a worth; none, if it isn't one of 64 bits -/
def wholeW (x : Int) : Value := if In64 x then .iface 105 (.int .i64 x) else .nilIface
theorem wrap_in {x : Int} (h : In64 x) : wrap64 x = x := by
  obtain ⟨h1, h2⟩ := h
  unfold wrap64
  omega
theorem plus_test {a b : Int} (ha : In64 a) (hb : In64 b) : (decide (a < wrap64 (a + b)) == decide (0 < b)) = decide (In64 (a + b)) := by
  obtain ⟨a1, a2⟩ := ha
  obtain ⟨b1, b2⟩ := hb
  unfold wrap64
  by_cases h : In64 (a + b)
  · rw [decide_eq_true h]
    obtain ⟨h1, h2⟩ := h
    by_cases h3 : 0 < b
    · rw [decide_eq_true h3, decide_eq_true (by omega)]; rfl
    · rw [decide_eq_false h3, decide_eq_false (by omega)]; rfl
  · rw [decide_eq_false h]
    unfold In64 at h
    by_cases h3 : 0 < b
    · rw [decide_eq_true h3, decide_eq_false (by omega)]; rfl
    · rw [decide_eq_false h3, decide_eq_true (by omega)]; rfl
theorem less_test {a b : Int} (ha : In64 a) (hb : In64 b) : (decide (wrap64 (a - b) < a) == decide (0 < b)) = decide (In64 (a - b)) := by
  obtain ⟨a1, a2⟩ := ha
  obtain ⟨b1, b2⟩ := hb
  unfold wrap64
  by_cases h : In64 (a - b)
  · rw [decide_eq_true h]
    obtain ⟨h1, h2⟩ := h
    by_cases h3 : 0 < b
    · rw [decide_eq_true h3, decide_eq_true (by omega)]; rfl
    · rw [decide_eq_false h3, decide_eq_false (by omega)]; rfl
  · rw [decide_eq_false h]
    unfold In64 at h
    by_cases h3 : 0 < b
    · rw [decide_eq_true h3, decide_eq_false (by omega)]; rfl
    · rw [decide_eq_false h3, decide_eq_true (by omega)]; rfl

theorem turnedC_any (a b : Int) (w : World) : Calls Tryz.prog 73 #[.int .i64 a, .int .i64 b] w fun e w' => e = .returned (.bool (decide (a = -9223372036854775808) && decide (b = -1))) ∧ w' = w := by
  by_cases h1 : a = -9223372036854775808
  · subst h1
    by_cases h2 : b = -1
    · subst h2
      go_enter Tryz.func73, Tryz.ntmps73
      go_wp2
      go_ret
      exact ⟨rfl, rfl⟩
    · have hb : (b == -1) = false := by simpa using h2
      rw [decide_eq_false h2]
      go_enter Tryz.func73, Tryz.ntmps73
      go_wp2
      go_ret
      exact ⟨rfl, rfl⟩
  · have ha : (a == -9223372036854775808) = false := by simpa using h1
    rw [decide_eq_false h1]
    go_enter Tryz.func73, Tryz.ntmps73
    go_wp2
    go_ret
    exact ⟨rfl, rfl⟩

theorem plus_any (a b : Int) (ha : In64 a) (hb : In64 b) (w : World) : Calls Tryz.prog 44 #[.int .i64 7, .int .i64 a, .int .i64 b] w fun e w' => e = .returned (wholeW (a + b)) ∧ w' = w := by
  have ht := plus_test ha hb
  clear ha hb
  by_cases h : In64 (a + b)
  · have hw := wrap_in h
    unfold wholeW
    rw [if_pos h]
    rw [decide_eq_true h] at ht
    rw [hw] at ht
    clear h
    go_enter Tryz.func44, Tryz.ntmps44
    go_wp2
    go_ret
    exact ⟨rfl, rfl⟩
  · unfold wholeW
    rw [if_neg h]
    rw [decide_eq_false h] at ht
    clear h
    go_enter Tryz.func44, Tryz.ntmps44
    go_wp2
    go_ret
    exact ⟨rfl, rfl⟩
theorem less_any (a b : Int) (ha : In64 a) (hb : In64 b) (w : World) : Calls Tryz.prog 44 #[.int .i64 8, .int .i64 a, .int .i64 b] w fun e w' => e = .returned (wholeW (a - b)) ∧ w' = w := by
  have ht := less_test ha hb
  clear ha hb
  by_cases h : In64 (a - b)
  · have hw := wrap_in h
    unfold wholeW
    rw [if_pos h]
    rw [decide_eq_true h] at ht
    rw [hw] at ht
    clear h
    go_enter Tryz.func44, Tryz.ntmps44
    go_wp2
    go_ret
    exact ⟨rfl, rfl⟩
  · unfold wholeW
    rw [if_neg h]
    rw [decide_eq_false h] at ht
    clear h
    go_enter Tryz.func44, Tryz.ntmps44
    go_wp2
    go_ret
    exact ⟨rfl, rfl⟩
end Go.Proofs.YtplbclokoffgkaaGreatDoor
