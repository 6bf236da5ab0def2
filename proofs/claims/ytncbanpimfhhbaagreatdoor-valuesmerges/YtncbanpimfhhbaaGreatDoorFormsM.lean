/- A number has one form: what is read as a number is just what is written of it: the reckoning alone. -/
import Derived.Test.YtncbanpimfhhbaaGreatDoorFirst5
namespace Go.Proofs.YtncbanpimfhhbaaGreatDoor
open Go.Lib

theorem numG_back : ∀ (l : List UInt8) (i acc x n : Nat), numG l i acc = (x, n, 0) → ∃ y, x = acc + y * 128 ^ i ∧ uvarint y = l.take (n - i) ∧ i < n ∧ (0 < i → 0 < y)
  | [], i, acc, x, n, h => by simp [numG] at h
  | c :: r, i, acc, x, n, h => by
    rw [numG] at h
    have hcl : c.toNat < 256 := c.toNat_lt
    split at h
    · simp at h
    · rename_i hE
      split at h
      · rename_i hD
        simp only [Prod.mk.injEq] at h
        obtain ⟨rfl, rfl, _⟩ := h
        refine ⟨c.toNat, by rw [Nat.mod_eq_of_lt hD], ?_, by omega, fun hi => by omega⟩
        rw [uvarint_small hD, show i + 1 - i = 1 by omega]
        simp
      · rename_i hD
        obtain ⟨y, hx, hu, hin, hy⟩ := numG_back r (i + 1) _ x n h
        have hy0 := hy (by omega)
        refine ⟨c.toNat % 128 + 128 * y, ?_, ?_, by omega, fun _ => by omega⟩
        · rw [hx, Nat.pow_succ, Nat.add_mul, Nat.add_assoc]
          congr 2
          rw [Nat.mul_comm (128 ^ i) 128, ← Nat.mul_assoc, Nat.mul_comm y 128]
        · rw [uvarint_big (by omega), show n - i = (n - (i + 1)) + 1 by omega, List.take_succ_cons, show (c.toNat % 128 + 128 * y) / 128 = y by omega, hu]
          congr 1
          rw [show (c.toNat % 128 + 128 * y) % 128 + 128 = c.toNat by omega]
          simp

theorem numL_back (l : List UInt8) (h : (numL l).2.2 = 0) : uvarint (numL l).1 = l.take (numL l).2.1 ∧ 0 < (numL l).2.1 := by
  have hN : numL l = ((numL l).1, (numL l).2.1, (numL l).2.2) := rfl
  rw [h] at hN
  generalize (numL l).1 = x at hN ⊢
  generalize (numL l).2.1 = n at hN ⊢
  obtain ⟨y, hx, hu, hin, _⟩ := numG_back l 0 0 x n hN
  simp only [Nat.pow_zero, Nat.mul_one, Nat.zero_add] at hx
  subst hx
  exact ⟨by simpa using hu, hin⟩

theorem numG_err : ∀ (l : List UInt8) (i acc : Nat), i ≤ 9 → (numG l i acc).2.2 = 0 ∨ (numG l i acc).2.2 = 21 ∨ ((numG l i acc).2.2 = 20 ∧ i + l.length < 10)
  | [], i, acc, hi => .inr (.inr ⟨rfl, by simp; omega⟩)
  | c :: r, i, acc, hi => by
    rw [numG]
    split
    · exact .inr (.inl rfl)
    · rename_i hE
      split
      · exact .inl rfl
      · rename_i hD
        rcases numG_err r (i + 1) (acc + c.toNat % 128 * 128 ^ i) (by omega) with h | h | ⟨h, h2⟩
        · exact .inl h
        · exact .inr (.inl h)
        · exact .inr (.inr ⟨h, by simp; omega⟩)

theorem numL_err (l : List UInt8) : (numL l).2.2 = 0 ∨ (numL l).2.2 = 21 ∨ ((numL l).2.2 = 20 ∧ l.length < 10) := by
  have := numG_err l 0 0 (by omega)
  simpa [numL] using this

theorem zig_unzig (u : Nat) : zigzag (unzig u) = u := by
  unfold zigzag unzig
  split <;> split <;> omega
theorem unzig_range (u : Nat) (h : u < 18446744073709551616) : -9223372036854775808 ≤ unzig u ∧ unzig u ≤ 9223372036854775807 := by
  unfold unzig
  split <;> omega

theorem key_back (k : Nat) (hk : k < 4294967296) (h : keyB k = true) : keyN (unkeyN k) = k := by
  unfold keyB at h
  unfold unkeyN
  by_cases hn : k = 4290772992
  · rw [if_pos hn, hn]; decide
  · rw [if_neg hn]
    have hb : nanB (bitsK k) = false := by
      have hne : (k == 4290772992) = false := by simpa using hn
      rw [hne] at h
      simpa using h
    rw [hb]
    simp only [Bool.false_eq_true, if_false]
    unfold keyN
    rw [hb]
    simp only [Bool.false_eq_true, if_false]
    unfold bitsK
    split <;> split <;> omega

theorem unkey_lt (k : Nat) (hk : k < 4294967296) : unkeyN k < 4294967296 := by
  have hb : bitsK k < 4294967296 := by
    unfold bitsK
    split <;> omega
  unfold unkeyN
  split
  · omega
  · split <;> omega

theorem four_be (l : List UInt8) (h : 4 ≤ l.length) : four (be4 l) = l.take 4 := by
  match l, h with
  | a :: b :: c :: d :: r, _ =>
    have ha := a.toNat_lt
    have hb := b.toNat_lt
    have hc := c.toNat_lt
    have hd := d.toNat_lt
    unfold four be4
    simp only [List.getD_cons_zero, List.getD_cons_succ, List.take_succ_cons, List.take_zero]
    rw [show (16777216 * a.toNat + 65536 * b.toNat + 256 * c.toNat + d.toNat) / 16777216 % 256 = a.toNat by omega, show (16777216 * a.toNat + 65536 * b.toNat + 256 * c.toNat + d.toNat) / 65536 % 256 = b.toNat by omega,
      show (16777216 * a.toNat + 65536 * b.toNat + 256 * c.toNat + d.toNat) / 256 % 256 = c.toNat by omega, show (16777216 * a.toNat + 65536 * b.toNat + 256 * c.toNat + d.toNat) % 256 = d.toNat by omega]
    simp

theorem be4_lt (l : List UInt8) : be4 l < 4294967296 := by
  have h0 : (l.getD 0 0).toNat < 256 := UInt8.toNat_lt _
  have h1 : (l.getD 1 0).toNat < 256 := UInt8.toNat_lt _
  have h2 : (l.getD 2 0).toNat < 256 := UInt8.toNat_lt _
  have h3 : (l.getD 3 0).toNat < 256 := UInt8.toNat_lt _
  unfold be4
  omega

theorem realL_back (l : List UInt8) (h : (realL l).2.2 = 0) : four (keyN (realL l).1) = l.take (realL l).2.1 ∧ 0 < (realL l).2.1 := by
  unfold realL at h ⊢
  split
  · rename_i h4; rw [if_pos h4] at h; simp at h
  · rename_i h4
    split
    · rename_i hk
      exact ⟨by simp only; rw [key_back _ (be4_lt l) hk]; exact four_be l (by omega), by simp⟩
    · rename_i hk; rw [if_neg h4, if_neg hk] at h; simp at h

theorem realL_err (l : List UInt8) : (realL l).2.2 = 0 ∨ (realL l).2.2 = 21 ∨ ((realL l).2.2 = 20 ∧ l.length < 10) := by
  unfold realL
  split
  · exact .inr (.inr ⟨rfl, by omega⟩)
  · split
    · exact .inl rfl
    · exact .inr (.inl rfl)

theorem realL_lt (l : List UInt8) : (realL l).1 < 4294967296 := by
  unfold realL
  split
  · simp
  · split
    · exact unkey_lt _ (be4_lt l)
    · simp
theorem realL_zero (l : List UInt8) (h : (realL l).2.2 ≠ 0) : (realL l).2.1 = 0 := by
  unfold realL at h ⊢
  split
  · rfl
  · split
    · rename_i h4 hk; rw [if_neg h4, if_pos hk] at h; simp at h
    · rfl

end Go.Proofs.YtncbanpimfhhbaaGreatDoor


