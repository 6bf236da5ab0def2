/- What the small functions of package tokens answer: classes, refusals, marks, the steps of a number. -/
import Derived.Test.YtmglbcldjhdhkabTkB
namespace Go.Proofs.Ytmglbcldjhdhkab
open Go.RowKit Go.PlainAid

abbrev fdV (k : Int) (t : List UInt8) (n : Nat) : Value := .agg #[.int .i64 k, .string (ba t), .int .i64 (n : Int)]

set_option maxHeartbeats 1000000 in
theorem class_any (c : Int) (w : World) :
    Calls Try.prog 27 #[.int .i32 c] w fun e w' => e = .returned (.int .i64 (classI c)) ∧ w' = w := by
  by_cases h1 : smallB c = true
  · have a1 : 97 ≤ c ∧ c ≤ 122 := by simpa [smallB] using h1
    obtain ⟨a, b⟩ := a1
    have hc : classI c = 2 := by simp [classI, h1]
    rw [hc]
    go_enter Try.func27, Try.ntmps27
    go_wp2
    go_ret
    exact ⟨rfl, rfl⟩
  by_cases h2 : digitB c = true
  · have a1 : 48 ≤ c ∧ c ≤ 57 := by simpa [digitB] using h2
    obtain ⟨a, b⟩ := a1
    have a2 : ¬ 97 ≤ c := by omega
    have hc : classI c = 3 := by simp [classI, h1, h2]
    rw [hc]
    clear h1 h2 hc
    go_enter Try.func27, Try.ntmps27
    go_wp2
    go_ret
    exact ⟨rfl, rfl⟩
  have a1 : (decide (97 ≤ c) && decide (c ≤ 122)) = false := by simpa [smallB] using h1
  have a2 : (decide (48 ≤ c) && decide (c ≤ 57)) = false := by simpa [digitB] using h2
  have hc : classI c = if blankB c then 1 else if c = 95 then 4 else if c = 34 then 5 else if singleB c then 6 else if compareB c then 7 else if c = 33 then 8 else 0 := by simp [classI, h1, h2]
  clear h1 h2
  have hc' : Hid _ := hc
  clear hc
  by_cases k1 : 97 ≤ c <;> by_cases k2 : 48 ≤ c
  all_goals
    simp only [k1, k2, decide_true, decide_false, Bool.true_and, Bool.false_and, decide_eq_false_iff_not] at a1 a2
    go_enter Try.func27, Try.ntmps27
    go_wp2
    all_goals
      go_ret
      exact ⟨by rw [hc'.out]; simp_all [blankB, singleB, compareB], rfl⟩

set_option maxHeartbeats 1000000 in
theorem joins_any (c : Int) (w : World) :
    Calls Try.prog 37 #[.int .i32 c] w fun e w' => e = .returned (.bool (inNameB c)) ∧ w' = w := by
  have hb : Hid (inNameB c = ((classI c == 2) || (classI c == 3) || (classI c == 4))) := by
    show _ = _
    unfold inNameB classI
    cases h1 : smallB c
    · cases h2 : digitB c
      · by_cases h3 : c = 95
        · subst h3; rfl
        · have : (c == 95) = false := by simpa using h3
          simp only [this, h3, Bool.or_false]
          simp only [Bool.false_eq_true, if_false]
          repeat' split
          all_goals rfl
      · simp
    · simp
  have hb2 : inNameB c = inNameB c := rfl
  generalize inNameB c = z at hb hb2 ⊢
  cases k2 : (classI c == 2) <;> cases k3 : (classI c == 3) <;> cases k4 : (classI c == 4)
  all_goals
    go_enter Try.func37, Try.ntmps37
    go_wp2_with (go_at_call 27; refine (class_any _ _).mono ?_; rintro e w' ⟨rfl, rfl⟩)
    go_ret
    exact ⟨by rw [hb.out, k2, k3, k4]; rfl, rfl⟩

theorem refused_any (n : Int) (w : World) :
    Calls Try.prog 29 #[.int .i64 n] w fun e w' => e = .returned (.agg #[.int .i64 0, .string (ba []), .int .i64 n]) ∧ Keep [] w w' := by
  go_enter Try.func29, Try.ntmps29
  go_wp2
  refine bodyPost_ret (v := .agg #[.int .i64 0, .string (ba []), .int .i64 n]) (by simp [results, Try.results29, go_sem]; rfl) rfl ⟨rfl, Keep.alloc1 w _⟩

end Go.Proofs.Ytmglbcldjhdhkab

