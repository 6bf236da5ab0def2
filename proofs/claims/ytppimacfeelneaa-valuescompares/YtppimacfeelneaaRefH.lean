/- The reference's Same and Key. -/
import Derived.Test.YtppimacfeelneaaRefG
namespace Go.Proofs.Ytppimacfeelneaa
open Go.RowKit Go.PlainAid Go.Lib

set_option maxRecDepth 100000 in
set_option maxHeartbeats 1600000 in
theorem rSame_any (a b : Nat) (ha : a < 4294967296) (hb : b < 4294967296) (w : World) : Calls Try.prog 43 #[.float .f32 a, .float .f32 b] w fun e w' => e = .returned (.bool (sameR a b)) ∧ w' = w := by
  have hA := rIsNan_any a
  have hB := rIsNan_any b
  have hC := rBelow_any a ha
  have hD := rBelow_any b hb
  have hE := eq_any a b
  unfold sameR
  generalize belowB a = p at hC ⊢
  generalize belowB b = q at hD ⊢
  generalize eqB a b = r at hE ⊢
  cases h1 : nanB a <;> rw [h1] at hA
  · cases r
    · go_enter Try.func43, Try.ntmps43
      go_wp2_with (first | (go_at_call_of 77 a; refine (hA _).mono ?_; rintro e9 w9 ⟨rfl, hw9⟩; obtain rfl := hw9.symm))
      go_ret
      exact ⟨rfl, rfl⟩
    · cases p <;> cases q
      all_goals
        go_enter Try.func43, Try.ntmps43
        go_wp2_with (first | (go_at_call 77; refine (hA _).mono ?_; rintro e9 w9 ⟨rfl, hw9⟩; obtain rfl := hw9.symm) | (go_at_call_of 84 a; refine (hC _).mono ?_; rintro e9 w9 ⟨rfl, hw9⟩; obtain rfl := hw9.symm) | (go_at_call 84; refine (hD _).mono ?_; rintro e9 w9 ⟨rfl, hw9⟩; obtain rfl := hw9.symm))
        go_ret
        exact ⟨rfl, rfl⟩
  · cases h2 : nanB b <;> rw [h2] at hB
    · cases r
      · go_enter Try.func43, Try.ntmps43
        go_wp2_with (first | (go_at_call_of 77 a; refine (hA _).mono ?_; rintro e9 w9 ⟨rfl, hw9⟩; obtain rfl := hw9.symm) | (go_at_call 77; refine (hB _).mono ?_; rintro e9 w9 ⟨rfl, hw9⟩; obtain rfl := hw9.symm))
        go_ret
        exact ⟨rfl, rfl⟩
      · cases p <;> cases q
        all_goals
          go_enter Try.func43, Try.ntmps43
          go_wp2_with (first | (go_at_call_of 77 a; refine (hA _).mono ?_; rintro e9 w9 ⟨rfl, hw9⟩; obtain rfl := hw9.symm) | (go_at_call 77; refine (hB _).mono ?_; rintro e9 w9 ⟨rfl, hw9⟩; obtain rfl := hw9.symm) | (go_at_call_of 84 a; refine (hC _).mono ?_; rintro e9 w9 ⟨rfl, hw9⟩; obtain rfl := hw9.symm) | (go_at_call 84; refine (hD _).mono ?_; rintro e9 w9 ⟨rfl, hw9⟩; obtain rfl := hw9.symm))
          go_ret
          exact ⟨rfl, rfl⟩
    · go_enter Try.func43, Try.ntmps43
      go_wp2_with (first | (go_at_call_of 77 a; refine (hA _).mono ?_; rintro e9 w9 ⟨rfl, hw9⟩; obtain rfl := hw9.symm) | (go_at_call 77; refine (hB _).mono ?_; rintro e9 w9 ⟨rfl, hw9⟩; obtain rfl := hw9.symm))
      go_ret
      exact ⟨rfl, rfl⟩


set_option maxHeartbeats 1600000 in
/-- the reference's Key is the program's -/
theorem rKey_any (x : Nat) (h : x < 4294967296) (w : World) : Calls Try.prog 92 #[.float .f32 x] w fun e w' => e = .returned (.int .u32 (keyN x : Nat)) ∧ w' = w := by
  have hN := rIsNan_any x
  have hB := rBelow_any x h
  unfold keyN
  cases hx : nanB x
  · have hM := number_any x h hx
    have hr : rungN x ≤ 2139095040 := by simpa [nanB, rungN] using hx
    rw [hx] at hN
    unfold belowB at hB
    rw [hx] at hB
    rw [if_neg (by decide)]
    by_cases hs : 2147483648 ≤ x
    · rw [show decide (2147483648 ≤ x) = true by simpa using hs] at hB
      rw [if_pos hs]
      have hz : x = rungN x + 2147483648 := by unfold rungN; omega
      have HG : Hid (4294967295 - x = 2147483647 - rungN x) := show _ = _ by omega
      clear hz
      generalize rungN x = r at *
      go_enter Try.func92, Try.ntmps92
      go_wp2_with (first | (go_at_call 77; refine (hN _).mono ?_; rintro e9 w9 ⟨rfl, hw9⟩; obtain rfl := hw9.symm) | (go_at_call 84; refine (hB _).mono ?_; rintro e9 w9 ⟨rfl, hw9⟩; obtain rfl := hw9.symm) | (go_at_call 80; refine (hM _).mono ?_; rintro e9 w9 ⟨rfl, hw9⟩; obtain rfl := hw9.symm))
      go_ret
      refine ⟨?_, rfl⟩
      rw [HG.out]
      have e1 : ((2147483647 - r : Nat) : Int) = 2147483647 - (r : Int) := by omega
      rw [e1]
      rfl
    · rw [show decide (2147483648 ≤ x) = false by simpa using hs] at hB
      rw [if_neg hs]
      have hz : rungN x = x := by unfold rungN; omega
      rw [hz] at hM hr
      clear hz
      go_enter Try.func92, Try.ntmps92
      go_wp2_with (first | (go_at_call 77; refine (hN _).mono ?_; rintro e9 w9 ⟨rfl, hw9⟩; obtain rfl := hw9.symm) | (go_at_call 84; refine (hB _).mono ?_; rintro e9 w9 ⟨rfl, hw9⟩; obtain rfl := hw9.symm) | (go_at_call 80; refine (hM _).mono ?_; rintro e9 w9 ⟨rfl, hw9⟩; obtain rfl := hw9.symm))
      go_ret
      refine ⟨?_, rfl⟩
      have e1 : ((x + 2147483648 : Nat) : Int) = 2147483648 + (x : Int) := by omega
      rw [e1]
      rfl
  · rw [hx] at hN
    rw [if_pos rfl]
    go_enter Try.func92, Try.ntmps92
    go_wp2_with (first | (go_at_call 77; refine (hN _).mono ?_; rintro e9 w9 ⟨rfl, hw9⟩; obtain rfl := hw9.symm))
    go_ret
    exact ⟨rfl, rfl⟩

end Go.Proofs.Ytppimacfeelneaa
