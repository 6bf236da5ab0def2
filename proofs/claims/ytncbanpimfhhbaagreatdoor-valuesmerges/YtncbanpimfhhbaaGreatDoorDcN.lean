/- Numbers, reals and texts that were written are read again. -/
import Derived.Test.YtncbanpimfhhbaaGreatDoorRMeth2
import Derived.Test.YtncbanpimfhhbaaGreatDoorFormsM
namespace Go.Proofs.YtncbanpimfhhbaaGreatDoor
open Go.RowKit Go.PlainAid Go.Lib

theorem byte_back (n : Nat) (h : n < 256) : n.toUInt8.toNat = n := by simp; omega

theorem numG_fwd : ∀ (k x i acc : Nat) (r : List UInt8), x < 128 ^ (k + 1) → i + k ≤ 9 → (0 < i → 0 < x) → acc + x * 128 ^ i < 18446744073709551616 →
    numG (uvarint x ++ r) i acc = (acc + x * 128 ^ i, i + (uvarint x).length, 0)
  | k, x, i, acc, r, hx, hi, hp, hb => by
    by_cases h : x < 128
    · rw [uvarint_small h, List.singleton_append, numG, byte_back x (by omega)]
      have h9 : i = 9 → x ≤ 1 := by
        intro h9
        subst h9
        apply Nat.le_of_not_lt
        intro h2
        have h3 : 2 * 128 ^ 9 ≤ x * 128 ^ 9 := Nat.mul_le_mul_right _ h2
        have h4 : 2 * 128 ^ 9 = 18446744073709551616 := by decide
        omega
      rw [if_neg (by intro h1; rcases h1 with h1 | h1; (have := hp h1.1; omega); (have := h9 h1.1; omega)), if_pos h, Nat.mod_eq_of_lt h]
      rfl
    · cases k with
      | zero => simp at hx; omega
      | succ k =>
        rw [uvarint_big (by omega), List.cons_append, numG, byte_back _ (by omega)]
        rw [if_neg (by omega), if_neg (by omega)]
        have e : (x % 128 + 128) % 128 = x % 128 := by omega
        have e2 : acc + x % 128 * 128 ^ i + x / 128 * 128 ^ (i + 1) = acc + x * 128 ^ i := by
          have h1 : x = x % 128 + 128 * (x / 128) := by omega
          have h2 : x * 128 ^ i = x % 128 * 128 ^ i + 128 * (x / 128) * 128 ^ i := by
            rw [← Nat.add_mul, ← h1]
          rw [h2, Nat.pow_succ, Nat.add_assoc]
          congr 2
          rw [Nat.mul_comm (128 ^ i) 128, ← Nat.mul_assoc, Nat.mul_comm (x / 128) 128]
        have hx2 : x / 128 < 128 ^ (k + 1) := by
          rw [Nat.pow_succ] at hx
          omega
        rw [e, numG_fwd k (x / 128) (i + 1) _ r hx2 (by omega) (fun _ => by omega) (by rw [e2]; exact hb), e2]
        simp only [List.length_cons]
        congr 2
        omega

theorem numL_fwd (x : Nat) (r : List UInt8) (h : x < 18446744073709551616) : numL (uvarint x ++ r) = (x, (uvarint x).length, 0) := by
  unfold numL
  rw [numG_fwd 9 x 0 0 r (Nat.lt_of_lt_of_le h (by decide)) (by omega) (by omega) (by simpa using h)]
  simp

theorem unzig_zig (x : Int) (_h0 : -9223372036854775808 ≤ x) (_h1 : x ≤ 9223372036854775807) : unzig (zigzag x) = x := by
  unfold unzig zigzag
  split <;> split <;> omega

theorem four_len (k : Nat) : (four k).length = 4 := rfl

theorem be4_four (k : Nat) (h : k < 4294967296) (r : List UInt8) : be4 (four k ++ r) = k := by
  unfold be4 four
  simp only [List.cons_append, List.nil_append, List.getD_cons_zero, List.getD_cons_succ]
  rw [byte_back _ (by omega), byte_back _ (by omega), byte_back _ (by omega), byte_back _ (by omega)]
  omega

theorem key_unkey (x : Nat) (h : x < 4294967296) : keyB (keyN x) = true ∧ (unkeyN (keyN x) = x ∨ nanB x = true ∧ nanB (unkeyN (keyN x)) = true) := by
  by_cases hn : nanB x = true
  · have e : keyN x = 4290772992 := by unfold keyN; rw [if_pos hn]
    rw [e]
    exact ⟨by decide, .inr ⟨hn, by decide⟩⟩
  · have hn' : nanB x = false := by simpa using hn
    have hx : ¬ 2139095040 < x % 2147483648 := by
      unfold nanB at hn
      simpa using hn
    have hb : bitsK (keyN x) = x := by
      unfold keyN bitsK
      rw [if_neg hn]
      split <;> split <;> omega
    have hk : keyN x ≠ 4290772992 := by
      unfold keyN
      rw [if_neg hn]
      split <;> omega
    refine ⟨by unfold keyB; rw [hb, hn']; simp, .inl ?_⟩
    unfold unkeyN
    rw [if_neg hk, hb, if_neg hn]

theorem textL_at (s r : List UInt8) (h : s.length ≤ 256) : textL (uvarint s.length ++ s ++ r) 256 = (s, (uvarint s.length).length + s.length, 0) := by
  unfold textL
  rw [List.append_assoc, numL_fwd _ _ (by omega)]
  simp only [List.length_append]
  rw [if_neg (by omega), if_neg (by simp), if_neg (by omega), if_neg (by omega)]
  simp
end Go.Proofs.YtncbanpimfhhbaaGreatDoor

