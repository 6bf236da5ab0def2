/- The document's FromKey: a real with that key, or a nan. -/
import Derived.Test.YtppimacfeelneaaRefH
import Derived.Test.YtppimacfeelneaaNanW
namespace Go.Proofs.Ytppimacfeelneaa
open Go.RowKit Go.PlainAid Go.Lib

theorem dNan_any (w : World) : Calls Try.prog 121 #[] w fun e w' => ∃ r, e = .returned (.float .f32 r) ∧ r < 4294967296 ∧ nanB r = true ∧ ∃ n, w' = w.drewN n := by
  obtain ⟨r, hr1, hr2⟩ := run_nan .quo 0 0 (by decide) (by simp)
  go_enter Try.func121, Try.ntmps121
  go_wp2
  go_ret
  exact ⟨_, rfl, (hr1 _).2, (hr1 _).1, 1, rfl⟩

theorem key_nanB (x : Nat) (h : nanB x = true) : keyN x = 4290772992 := by unfold keyN; rw [if_pos h]
/-- a real whose key is k; nan, if there is none -/
def RealK (k : Nat) (r : Nat) : Prop := r < 4294967296 ∧ keyN r = if 8388607 ≤ k ∧ k ≤ 4286578688 then k else 4290772992

set_option maxRecDepth 1000000 in
set_option maxHeartbeats 1600000 in
theorem dFromKey_any (k : Nat) (h : k < 4294967296) (w : World) : Calls Try.prog 88 #[.int .u32 (k : Int)] w fun e w' => ∃ r, e = .returned (.float .f32 r) ∧ RealK k r ∧ ∃ n, w' = w.drewN n := by
  have hN := dNan_any
  by_cases h1 : 2147483648 ≤ k
  · obtain ⟨m, rfl⟩ : ∃ m, k = m + 2147483648 := ⟨k - 2147483648, by omega⟩
    have t1 : (2147483648 : Int) ≤ (m : Int) + 2147483648 := by omega
    by_cases h2 : m ≤ 2139095040
    · have hF := float_any false m h2
      have t2 : (m : Int) ≤ 2139095040 := by omega
      simp only [Bool.false_eq_true, if_false] at hF
      have hR : RealK (m + 2147483648) m := ⟨by omega, by
        have hn : nanB m = false := by unfold nanB; simp; omega
        unfold keyN
        rw [hn, if_neg (by decide), if_neg (by omega), if_pos (by omega)]⟩
      go_enter Try.func88, Try.ntmps88
      go_wp2_with (first | (go_at_call 117; refine (hF _).mono ?_; rintro e9 w9 ⟨rfl, hw9⟩; obtain rfl := hw9.symm))
      go_ret
      exact ⟨_, rfl, hR, 0, rfl⟩
    · have t2 : ¬ (m : Int) ≤ 2139095040 := by omega
      have t3 : ¬ (m : Int) + 2147483648 < 2147483648 := by omega
      go_enter Try.func88, Try.ntmps88
      go_wp2_with (first | (go_at_call 121; refine (hN _).mono ?_; rintro e9 w9 ⟨r, rfl, hr1, hr2, n, rfl⟩))
      go_ret
      exact ⟨_, rfl, ⟨hr1, by rw [key_nanB _ hr2, if_neg (by omega)]⟩, n, rfl⟩
  · have e1 : ((2147483647 - k : Nat) : Int) = 2147483647 - (k : Int) := by omega
    have t1 : ¬ (2147483648 : Int) ≤ (k : Int) := by omega
    have t0 : (k : Int) < 2147483648 := by omega
    by_cases h2 : 8388607 ≤ k
    · have hF := float_any true (2147483647 - k) (by omega)
      rw [e1] at hF
      have t2 : 2147483647 - (k : Int) ≤ 2139095040 := by omega
      simp only [if_true] at hF
      have hR : Hid (RealK k (2147483647 - k + 2147483648)) := ⟨by omega, by
        have hn : nanB (2147483647 - k + 2147483648) = false := by unfold nanB; simp; omega
        unfold keyN
        rw [hn, if_neg (by decide), if_pos (by omega), if_pos (by omega)]
        omega⟩
      clear e1 h1 h
      generalize 2147483647 - k + 2147483648 = z at *
      go_enter Try.func88, Try.ntmps88
      go_wp2_with (first | (go_at_call 117; refine (hF _).mono ?_; rintro e9 w9 ⟨rfl, hw9⟩; obtain rfl := hw9.symm))
      go_ret
      exact ⟨_, rfl, hR.out, 0, rfl⟩
    · have t2 : ¬ 2147483647 - (k : Int) ≤ 2139095040 := by omega
      clear e1 h1 h
      go_enter Try.func88, Try.ntmps88
      go_wp2_with (first | (go_at_call 121; refine (hN _).mono ?_; rintro e9 w9 ⟨r, rfl, hr1, hr2, n, rfl⟩))
      go_ret
      exact ⟨_, rfl, ⟨hr1, by rw [key_nanB _ hr2, if_neg (by omega)]⟩, n, rfl⟩
end Go.Proofs.Ytppimacfeelneaa
