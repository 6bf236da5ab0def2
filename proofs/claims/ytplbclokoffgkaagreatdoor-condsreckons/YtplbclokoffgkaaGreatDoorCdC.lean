/- Conditions: whole numbers are reckoned with exactly, or not at all: sums, differences, the least number turned. -/
import Derived.Test.YtplbclokoffgkaaGreatDoorCdA

namespace Go.Proofs.YtplbclokoffgkaaGreatDoor
open Go.RowKit Go.PlainAid

def In64 (a : Int) : Prop := -9223372036854775808 ≤ a ∧ a ≤ 9223372036854775807
instance (a : Int) : Decidable (In64 a) := by unfold In64; infer_instance
/-- a whole number as a worth; none, if it isn't one of 64 bits -/
def wholeW (x : Int) : Value := if In64 x then .iface 105 (.int .i64 x) else .nilIface
theorem wrap_in {x : Int} (h : In64 x) : wrap64 x = x := by
  obtain ⟨h1, h2⟩ := h
  unfold wrap64
  omega
theorem plus_test {a b : Int} (ha : In64 a) (hb : In64 b) : (decide (a < wrap64 (a + b)) == decide (0 < b)) = decide (In64 (a + b)) := by
  obtain ⟨a1, a2⟩ := ha
  obtain ⟨b1, b2⟩ := hb
  unfold wrap64
  by_cases h : In64 (a + b)
  · rw [decide_eq_true h]
    obtain ⟨h1, h2⟩ := h
    by_cases h3 : 0 < b
    · rw [decide_eq_true h3, decide_eq_true (by omega)]; rfl
    · rw [decide_eq_false h3, decide_eq_false (by omega)]; rfl
  · rw [decide_eq_false h]
    unfold In64 at h
    by_cases h3 : 0 < b
    · rw [decide_eq_true h3, decide_eq_false (by omega)]; rfl
    · rw [decide_eq_false h3, decide_eq_true (by omega)]; rfl
theorem less_test {a b : Int} (ha : In64 a) (hb : In64 b) : (decide (wrap64 (a - b) < a) == decide (0 < b)) = decide (In64 (a - b)) := by
  obtain ⟨a1, a2⟩ := ha
  obtain ⟨b1, b2⟩ := hb
  unfold wrap64
  by_cases h : In64 (a - b)
  · rw [decide_eq_true h]
    obtain ⟨h1, h2⟩ := h
    by_cases h3 : 0 < b
    · rw [decide_eq_true h3, decide_eq_true (by omega)]; rfl
    · rw [decide_eq_false h3, decide_eq_false (by omega)]; rfl
  · rw [decide_eq_false h]
    unfold In64 at h
    by_cases h3 : 0 < b
    · rw [decide_eq_true h3, decide_eq_false (by omega)]; rfl
    · rw [decide_eq_false h3, decide_eq_true (by omega)]; rfl

theorem turnedC_any (a b : Int) (w : World) : Calls Tryz.prog 73 #[.int .i64 a, .int .i64 b] w fun e w' => e = .returned (.bool (decide (a = -9223372036854775808) && decide (b = -1))) ∧ w' = w := by
  by_cases h1 : a = -9223372036854775808
  · subst h1
    by_cases h2 : b = -1
    · subst h2
      go_enter Tryz.func73, Tryz.ntmps73
      go_wp2
      go_ret
      exact ⟨rfl, rfl⟩
    · have hb : (b == -1) = false := by simpa using h2
      rw [decide_eq_false h2]
      go_enter Tryz.func73, Tryz.ntmps73
      go_wp2
      go_ret
      exact ⟨rfl, rfl⟩
  · have ha : (a == -9223372036854775808) = false := by simpa using h1
    rw [decide_eq_false h1]
    go_enter Tryz.func73, Tryz.ntmps73
    go_wp2
    go_ret
    exact ⟨rfl, rfl⟩

theorem plus_any (a b : Int) (ha : In64 a) (hb : In64 b) (w : World) : Calls Tryz.prog 44 #[.int .i64 7, .int .i64 a, .int .i64 b] w fun e w' => e = .returned (wholeW (a + b)) ∧ w' = w := by
  have ht := plus_test ha hb
  clear ha hb
  by_cases h : In64 (a + b)
  · have hw := wrap_in h
    unfold wholeW
    rw [if_pos h]
    rw [decide_eq_true h] at ht
    rw [hw] at ht
    clear h
    go_enter Tryz.func44, Tryz.ntmps44
    go_wp2
    go_ret
    exact ⟨rfl, rfl⟩
  · unfold wholeW
    rw [if_neg h]
    rw [decide_eq_false h] at ht
    clear h
    go_enter Tryz.func44, Tryz.ntmps44
    go_wp2
    go_ret
    exact ⟨rfl, rfl⟩
theorem less_any (a b : Int) (ha : In64 a) (hb : In64 b) (w : World) : Calls Tryz.prog 44 #[.int .i64 8, .int .i64 a, .int .i64 b] w fun e w' => e = .returned (wholeW (a - b)) ∧ w' = w := by
  have ht := less_test ha hb
  clear ha hb
  by_cases h : In64 (a - b)
  · have hw := wrap_in h
    unfold wholeW
    rw [if_pos h]
    rw [decide_eq_true h] at ht
    rw [hw] at ht
    clear h
    go_enter Tryz.func44, Tryz.ntmps44
    go_wp2
    go_ret
    exact ⟨rfl, rfl⟩
  · unfold wholeW
    rw [if_neg h]
    rw [decide_eq_false h] at ht
    clear h
    go_enter Tryz.func44, Tryz.ntmps44
    go_wp2
    go_ret
    exact ⟨rfl, rfl⟩
end Go.Proofs.YtplbclokoffgkaaGreatDoor

/- Conditions: products and quotients of whole numbers. -/
namespace Go.Proofs.YtplbclokoffgkaaGreatDoor
open Go.RowKit Go.PlainAid

theorem mul_wrap {a b : Int} (hb : In64 b) (h0 : b ≠ 0) : (wrap64 (a * b)).tdiv b = a ↔ In64 (a * b) := by
  obtain ⟨b1, b2⟩ := hb
  constructor
  · intro h
    have h1 := Int.mul_tdiv_add_tmod (wrap64 (a * b)) b
    rw [h] at h1
    have h2 : ((wrap64 (a * b)).tmod b).natAbs < b.natAbs := by
      have := Int.natAbs_tmod (wrap64 (a * b)) b
      rw [this]
      exact Nat.mod_lt _ (by omega)
    have hc : b * a = a * b := Int.mul_comm b a
    rw [hc] at h1
    generalize (wrap64 (a * b)).tmod b = r at h1 h2
    have h3 : wrap64 (a * b) = a * b := by
      unfold wrap64 at h1 ⊢
      generalize a * b = p at h1 ⊢
      omega
    unfold In64
    have h4 : In64 (wrap64 (a * b)) := by
      unfold In64 wrap64
      omega
    rw [h3] at h4
    exact h4
  · intro h
    rw [show wrap64 (a * b) = a * b from wrap_in h]
    exact Int.mul_tdiv_cancel a h0

theorem wrap64_is (x : Int) : In64 (wrap64 x) := by unfold In64 wrap64; omega
theorem mul_test {a b : Int} (ha : In64 a) (hb : In64 b) (h0 : b ≠ 0) (ht : ¬ (a = -9223372036854775808 ∧ b = -1)) : (wrap64 ((wrap64 (a * b)).tdiv b) != a) = !decide (In64 (a * b)) := by
  have hm := mul_wrap (a := a) hb h0
  have hq : In64 ((wrap64 (a * b)).tdiv b) := by
    by_cases h1 : b = -1
    · subst h1
      have hi : In64 (a * -1) := by
        obtain ⟨a1, a2⟩ := ha
        unfold In64
        omega
      rw [hm.2 hi]
      exact ha
    · have hp := wrap64_is (a * b)
      generalize wrap64 (a * b) = p at hp
      obtain ⟨p1, p2⟩ := hp
      by_cases h2 : b = 1
      · subst h2
        rw [Int.tdiv_one]
        exact ⟨p1, p2⟩
      · have h3 : (p.tdiv b).natAbs = p.natAbs / b.natAbs := Int.natAbs_tdiv p b
        have h4 : p.natAbs / b.natAbs ≤ p.natAbs / 2 := Nat.div_le_div_left (by omega) (by omega)
        generalize p.tdiv b = q at h3 ⊢
        unfold In64
        rw [← h3] at h4
        omega
  rw [show wrap64 ((wrap64 (a * b)).tdiv b) = (wrap64 (a * b)).tdiv b from wrap_in hq]
  by_cases h : In64 (a * b)
  · rw [hm.2 h, decide_eq_true h]; simp
  · have : ¬ (wrap64 (a * b)).tdiv b = a := fun e => h (hm.1 e)
    rw [decide_eq_false h]
    simpa using this

theorem product_any (a b : Int) (ha : In64 a) (hb : In64 b) (w : World) : Calls Tryz.prog 72 #[.int .i64 a, .int .i64 b] w fun e w' => e = .returned (wholeW (a * b)) ∧ w' = w := by
  have hT := fun w1 => turnedC_any a b w1
  by_cases h0 : b = 0
  · subst h0
    have e : wholeW (a * 0) = .iface 105 (.int .i64 0) := by rw [Int.mul_zero]; unfold wholeW; rw [if_pos (by unfold In64; omega)]
    rw [e]
    clear e hT
    go_enter Tryz.func72, Tryz.ntmps72
    go_wp2
    go_ret
    exact ⟨rfl, rfl⟩
  have hb0 : (b == 0) = false := by simpa using h0
  by_cases ht : a = -9223372036854775808 ∧ b = -1
  · obtain ⟨rfl, rfl⟩ := ht
    have e : wholeW (-9223372036854775808 * -1) = .nilIface := if_neg (by decide)
    rw [e]
    clear e
    go_enter Tryz.func72, Tryz.ntmps72
    go_wp2_with fail
    refine (hT _).mono ?_
    rintro e9 w9 ⟨rfl, hw9⟩
    obtain rfl := hw9.symm
    clear hw9
    go_wp2
    go_ret
    exact ⟨rfl, rfl⟩
  have htf : (decide (a = -9223372036854775808) && decide (b = -1)) = false := by
    by_cases h1 : a = -9223372036854775808
    · have h2 : b ≠ -1 := fun e => ht ⟨h1, e⟩
      simp [h2]
    · simp [h1]
  rw [htf] at hT
  have hm := mul_test ha hb h0 ht
  by_cases h : In64 (a * b)
  · have e : wholeW (a * b) = .iface 105 (.int .i64 (a * b)) := if_pos h
    have hw : wrap64 (a * b) = a * b := wrap_in h
    rw [e]
    rw [decide_eq_true h, hw] at hm
    have hwa : wrap64 a = a := wrap_in ha
    clear e h htf ht ha hb
    go_enter Tryz.func72, Tryz.ntmps72
    go_wp2_with fail
    refine (hT _).mono ?_
    rintro e9 w9 ⟨rfl, hw9⟩
    obtain rfl := hw9.symm
    clear hw9
    go_wp2
    go_ret
    exact ⟨rfl, rfl⟩
  · have e : wholeW (a * b) = .nilIface := if_neg h
    rw [e]
    rw [decide_eq_false h] at hm
    clear e h htf ht ha hb
    go_enter Tryz.func72, Tryz.ntmps72
    go_wp2_with fail
    refine (hT _).mono ?_
    rintro e9 w9 ⟨rfl, hw9⟩
    obtain rfl := hw9.symm
    clear hw9
    go_wp2
    go_ret
    exact ⟨rfl, rfl⟩
theorem times_any (a b : Int) (ha : In64 a) (hb : In64 b) (w : World) : Calls Tryz.prog 44 #[.int .i64 5, .int .i64 a, .int .i64 b] w fun e w' => e = .returned (wholeW (a * b)) ∧ w' = w := by
  have hP := fun w1 => product_any a b ha hb w1
  clear ha hb
  generalize wholeW (a * b) = z at hP ⊢
  go_enter Tryz.func44, Tryz.ntmps44
  go_wp2_with fail
  refine (hP _).mono ?_
  rintro e9 w9 ⟨rfl, hw9⟩
  obtain rfl := hw9.symm
  clear hw9
  go_wp2
  go_ret
  exact ⟨rfl, rfl⟩
/-- a quotient as a worth -/
def overW (a b : Int) : Value := if b = 0 then .nilIface else wholeW (a.tdiv b)
theorem over_in {a b : Int} (ha : In64 a) (h0 : b ≠ 0) (ht : ¬ (a = -9223372036854775808 ∧ b = -1)) : In64 (a.tdiv b) := by
  obtain ⟨a1, a2⟩ := ha
  have h3 : (a.tdiv b).natAbs = a.natAbs / b.natAbs := Int.natAbs_tdiv a b
  by_cases h1 : b = -1
  · subst h1
    have h4 : a.natAbs / (-1 : Int).natAbs = a.natAbs := Nat.div_one _
    rw [h4] at h3
    unfold In64
    omega
  · by_cases h2 : b = 1
    · subst h2
      rw [Int.tdiv_one]
      exact ⟨a1, a2⟩
    · have h4 : a.natAbs / b.natAbs ≤ a.natAbs / 2 := Nat.div_le_div_left (by omega) (by omega)
      rw [← h3] at h4
      generalize a.tdiv b = q at h4 ⊢
      unfold In64
      omega
theorem over_any (a b : Int) (ha : In64 a) (w : World) : Calls Tryz.prog 44 #[.int .i64 6, .int .i64 a, .int .i64 b] w fun e w' => e = .returned (overW a b) ∧ w' = w := by
  have hT := fun w1 => turnedC_any a b w1
  unfold overW
  by_cases h0 : b = 0
  · rw [if_pos h0]
    subst h0
    clear hT ha
    go_enter Tryz.func44, Tryz.ntmps44
    go_wp2
    go_ret
    exact ⟨rfl, rfl⟩
  rw [if_neg h0]
  have hb0 : (b == 0) = false := by simpa using h0
  have hb1 : (b != 0) = true := by simpa using h0
  by_cases ht : a = -9223372036854775808 ∧ b = -1
  · obtain ⟨rfl, rfl⟩ := ht
    have e : wholeW ((-9223372036854775808 : Int).tdiv (-1)) = .nilIface := if_neg (by decide)
    rw [e]
    clear e ha
    go_enter Tryz.func44, Tryz.ntmps44
    go_wp2_with fail
    refine (hT _).mono ?_
    rintro e9 w9 ⟨rfl, hw9⟩
    obtain rfl := hw9.symm
    clear hw9
    go_wp2
    go_ret
    exact ⟨rfl, rfl⟩
  have htf : (decide (a = -9223372036854775808) && decide (b = -1)) = false := by
    by_cases h1 : a = -9223372036854775808
    · have h2 : b ≠ -1 := fun e => ht ⟨h1, e⟩
      simp [h2]
    · simp [h1]
  rw [htf] at hT
  have hi := over_in ha h0 ht
  have e : wholeW (a.tdiv b) = .iface 105 (.int .i64 (a.tdiv b)) := if_pos hi
  have hw : wrap64 (a.tdiv b) = a.tdiv b := wrap_in hi
  rw [e]
  clear e hi htf ht ha
  go_enter Tryz.func44, Tryz.ntmps44
  go_wp2_with fail
  refine (hT _).mono ?_
  rintro e9 w9 ⟨rfl, hw9⟩
  obtain rfl := hw9.symm
  clear hw9
  go_wp2
  go_ret
  exact ⟨rfl, rfl⟩
end Go.Proofs.YtplbclokoffgkaaGreatDoor
