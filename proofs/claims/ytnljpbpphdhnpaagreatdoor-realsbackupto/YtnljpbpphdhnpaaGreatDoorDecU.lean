/- Room for a doubling; the place of a number is one. -/
import Derived.Test.YtnljpbpphdhnpaaGreatDoorDecP
namespace Go.Proofs.YtnljpbpphdhnpaaGreatDoor
open Go.RowKit Go.PlainAid

theorem up_room (F m k j : Nat) (hF : 140737488355328 ≤ F) (h : F * 10 ^ j < 2 ^ m) (hk : 2 ^ k ≤ 10 ^ j) : ∃ m', m = m' + k ∧ F < 2 ^ m' := by
  have h1 : F * 2 ^ k < 2 ^ m := Nat.lt_of_le_of_lt (Nat.mul_le_mul_left _ hk) h
  have h2 : k < m := by
    have h3 : 2 ^ k ≤ F * 2 ^ k := Nat.le_mul_of_pos_left _ (by omega)
    exact (Nat.pow_lt_pow_iff_right (by decide : 1 < 2)).1 (Nat.lt_of_le_of_lt h3 h1)
  obtain ⟨m', rfl⟩ : ∃ m', m = m' + k := ⟨m - k, by omega⟩
  refine ⟨m', rfl, ?_⟩
  rw [Nat.pow_add] at h1
  exact Nat.lt_of_mul_lt_mul_right h1
theorem room_pos (F m : Nat) (hF : 140737488355328 ≤ F) (h : F < 2 ^ m) : 1 ≤ m := by
  rcases Nat.eq_zero_or_pos m with h0 | h0
  · subst h0; simp at h; omega
  · exact h0
theorem same_place (F m M : Nat) (hm : 1 ≤ m) (hM : 1 ≤ M) (a1 : 2 ^ m ≤ 2 * F) (a2 : F < 2 ^ m) (b1 : 2 ^ M ≤ 2 * F) (b2 : F < 2 ^ M) : m = M := by
  rw [two_split m hm] at a1
  rw [two_split M hM] at b1
  have h1 : m - 1 < M := (Nat.pow_lt_pow_iff_right (by decide : 1 < 2)).1 (show 2 ^ (m - 1) < 2 ^ M by omega)
  have h2 : M - 1 < m := (Nat.pow_lt_pow_iff_right (by decide : 1 < 2)).1 (show 2 ^ (M - 1) < 2 ^ m by omega)
  omega
theorem GD.nonpos {w : World} {b F : Nat} {st : Bool} {m : Nat} {D : Nat → Int} {nd : Nat} {dp : Int} {tr : Bool} (g : GD w b 2000 F st m D nd dp tr) (h : F < 2 ^ m) : dp ≤ 0 := by
  rcases Int.lt_or_le 0 dp with h1 | h1
  · have := g.at_least 0 (by omega) (by decide)
    rw [Nat.pow_zero, Nat.one_mul] at this
    omega
  · exact h1
theorem and_top (m : Nat) (h : 8388608 ≤ m) (h2 : m < 16777216) : bits .and .u64 (m : Int) 8388608 = 8388608 := by
  have h1 := u64_and_nat m 8388608 (by omega) (by decide)
  rw [show ((8388608 : Nat) : Int) = 8388608 from rfl] at h1
  rw [h1]
  have h3 := Nat.two_pow_add_eq_or_of_lt (i := 23) (b := m - 8388608) (by omega) 1
  have h4 : m = 2 ^ 23 * 1 ||| (m - 8388608) := by rw [← h3]; omega
  have h5 : m &&& 8388608 = 8388608 := by
    apply Nat.eq_of_testBit_eq
    intro i
    rw [Nat.testBit_and, show (8388608 : Nat) = 2 ^ 23 by decide, Nat.testBit_two_pow]
    by_cases hi : 23 = i
    · subst hi
      rw [h4, Nat.testBit_or, show 2 ^ 23 * 1 = 2 ^ 23 by decide, Nat.testBit_two_pow]
      simp
    · simp [hi]
  rw [h5]; rfl
theorem and_low (m : Nat) (h : m < 8388608) : bits .and .u64 (m : Int) 8388608 = 0 := by
  have h1 := u64_and_nat m 8388608 (by omega) (by decide)
  rw [show ((8388608 : Nat) : Int) = 8388608 from rfl] at h1
  rw [h1]
  have h5 : m &&& 8388608 = 0 := by
    apply Nat.eq_of_testBit_eq
    intro i
    rw [Nat.testBit_and, show (8388608 : Nat) = 2 ^ 23 by decide, Nat.testBit_two_pow, Nat.zero_testBit]
    by_cases hi : 23 = i
    · subst hi
      rw [Nat.testBit_lt_two_pow h]; rfl
    · simp [hi]
  rw [h5]; rfl
theorem and_rest (m : Nat) (h : m < 18446744073709551616) : bits .and .u64 (m : Int) 8388607 = ((m % 8388608 : Nat) : Int) := by
  have h1 := u64_and_nat m 8388607 h (by decide)
  rw [show ((8388607 : Nat) : Int) = 8388607 from rfl] at h1
  rw [h1, show (8388607 : Nat) = 2 ^ 23 - 1 by decide, Nat.and_two_pow_sub_one_eq_mod]
theorem or_up (f k : Nat) (h : f < 8388608) (hk : k < 512) : bits .or .u64 (f : Int) ((k * 8388608 : Nat) : Int) = ((f + k * 8388608 : Nat) : Int) := by
  have h1 := u64_or_nat f (k * 8388608) (by omega) (by omega)
  rw [h1]
  have h2 := Nat.two_pow_add_eq_or_of_lt (i := 23) (b := f) (by omega) k
  rw [Nat.or_comm, show k * 8388608 = 2 ^ 23 * k by omega, ← h2]
  congr 1
  omega
theorem and_255 (v : Nat) (h : v < 256) : bits .and .i64 (v : Int) 255 = (v : Int) := by
  have : ∀ v, v < 256 → bits .and .i64 ((v : Nat) : Int) 255 = ((v : Nat) : Int) := by decide +kernel
  exact this v h
set_option maxRecDepth 1000000 in
theorem should_neg (w : World) (b : Nat) (p : Int) (hp : p < 0) : Calls Tryz.prog 183 #[.pointer (some ⟨b, 0, none⟩), .int .i64 p] w fun e w' => e = .returned (.bool false) ∧ w' = w := by
  go_enter Tryz.func183, Tryz.ntmps183
  go_wp2
  go_ret
  exact ⟨rfl, rfl⟩
set_option maxRecDepth 1000000 in
theorem rounded_neg (w : World) (b : Nat) (D : Nat → Int) (nd : Nat) (p : Int) (tr : Bool) (h : DecC w b D nd p tr) (hp : p < 0) :
    Calls Tryz.prog 191 #[.pointer (some ⟨b, 0, none⟩)] w fun e w' => e = .returned (.int .u64 ((0 : Nat) : Int)) ∧ w' = w := by
  have hS := should_neg w b p hp
  have c801 := h.dp
  clear h
  go_enter Tryz.func191, Tryz.ntmps191
  go_wp2
  refine wp_loop_rounds 1 ?_
  rw [rounds_succ]
  go_wp2
  refine wp_loop_rounds 1 ?_
  rw [rounds_succ]
  go_wp2_with fail
  refine hS.mono ?_
  rintro e9 w9 ⟨rfl, hw9⟩
  obtain rfl := hw9.symm
  clear hw9
  go_wp2
  go_ret
  exact ⟨rfl, rfl⟩
end Go.Proofs.YtnljpbpphdhnpaaGreatDoor
