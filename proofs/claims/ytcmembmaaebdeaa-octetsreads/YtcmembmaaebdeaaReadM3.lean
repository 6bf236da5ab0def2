/- The document's Reader: reals and texts. -/
import Derived.Test.YtcmembmaaebdeaaReadM2
namespace Go.Proofs.Ytcmembmaaebdeaa
open Go.RowKit Go.PlainAid Go.Lib

theorem bitsK_lt (k : Nat) (h : k < 4294967296) : bitsK k < 4294967296 := by unfold bitsK; split <;> omega
theorem key_bits (k : Nat) (h : k < 4294967296) : (keyN (bitsK k) == k) = keyB k ∧ (keyB k = true → unkeyN k = bitsK k) := by
  have hb : ∀ (hn : nanB (bitsK k) = false), keyN (bitsK k) = k := by
    intro hn
    unfold keyN
    rw [if_neg (by simp [hn])]
    unfold bitsK
    split <;> split <;> omega
  cases hn : nanB (bitsK k) with
  | true =>
    have h1 : keyN (bitsK k) = 4290772992 := by unfold keyN; rw [if_pos hn]
    rw [h1]
    unfold keyB unkeyN
    rw [hn]
    by_cases hk : k = 4290772992
    · subst hk
      exact ⟨by decide, fun _ => by decide⟩
    · have h2 : (k == 4290772992) = false := by simpa using hk
      have h3 : (4290772992 == k) = false := by simp only [beq_eq_false_iff_ne]; omega
      rw [h2, h3]
      exact ⟨rfl, fun h => by simp at h⟩
  | false =>
    rw [hb hn]
    unfold keyB unkeyN
    rw [hn]
    refine ⟨by simp, fun _ => ?_⟩
    by_cases hk : k = 4290772992
    · subst hk
      exact absurd hn (by decide)
    · rw [if_neg hk, if_neg (by simp)]

set_option maxHeartbeats 1600000 in
theorem refReal_any (k : Nat) (h : k < 4294967296) (w : World) :
    Calls Try.prog 88 #[.int .u32 (k : Int)] w fun e w' => e = .returned (.tuple #[.float .f32 (bitsK k), .bool (keyB k)]) ∧ w' = w := by
  have hk := key_bits k h
  have hf := run_f32from (bitsK k)
  have hK := refKey_any (bitsK k) (bitsK_lt k h) w
  have hq : (((keyN (bitsK k) : Nat) : Int) == (k : Int)) = keyB k := by
    rw [← hk.1]
    by_cases hx : keyN (bitsK k) = k
    · rw [hx]; simp
    · have h1 : (keyN (bitsK k) == k) = false := by simpa using hx
      rw [h1]
      simp only [beq_eq_false_iff_ne]
      omega
  have hbc : ((bitsK k : Nat) : Int) = if 2147483648 ≤ k then (k : Int) - 2147483648 else 4294967295 - (k : Int) := by
    unfold bitsK
    split <;> omega
  generalize keyN (bitsK k) = kn at hK hq
  generalize keyB k = kb at hq
  clear hk
  by_cases hx : 2147483648 ≤ k
  · have t : ¬ ((k : Int) < 2147483648) := by omega
    rw [if_pos hx] at hbc
    rw [hbc] at hf
    generalize bitsK k = bk at hf hK hbc
    go_enter Try.func88, Try.ntmps88
    go_wp2_with (first | (go_at_call 49; refine hK.mono ?_; rintro e9 w9 ⟨rfl, hw9⟩; obtain rfl := hw9.symm))
    go_ret2
    exact ⟨rfl, rfl⟩
  · have t : (k : Int) < 2147483648 := by omega
    rw [if_neg hx] at hbc
    rw [hbc] at hf
    generalize bitsK k = bk at hf hK hbc
    go_enter Try.func88, Try.ntmps88
    go_wp2_with (first | (go_at_call 49; refine hK.mono ?_; rintro e9 w9 ⟨rfl, hw9⟩; obtain rfl := hw9.symm))
    go_ret2
    exact ⟨rfl, rfl⟩

end Go.Proofs.Ytcmembmaaebdeaa
