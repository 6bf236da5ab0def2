/- What a read of a real number answers and leaves, for every Reader. -/
import Derived.Test.YtppimacfeelneaaRMeth
import Derived.Test.YtppimacfeelneaaFirst5

namespace Go.Proofs.Ytppimacfeelneaa
open Go.RowKit Go.PlainAid Go.Lib

set_option maxHeartbeats 1600000 in
theorem rReal_any (b o : Nat) (l : List UInt8) (e : Int) (rb : Option Nat) (w : World) (hr : Rd w b o l e rb) :
    Calls Try.prog 57 #[.pointer (some ⟨b, o, none⟩)] w fun x w' => x = .returned (.float .f32 (rdOf 0 l e (realL l)).1) ∧ Rd w' b o (rdOf 0 l e (realL l)).2.1 (rdOf 0 l e (realL l)).2.2 rb ∧ Keep [b] w w' := by
  by_cases he : e = 0
  · subst he
    have h := read65_any b o l rb w hr (realL l).2.1 (realL l).2.2 (realL_size l) _ (fun v hv => firstReal_any v l w hv)
    rw [rdOf_pos]
    generalize realL l = R at h ⊢
    obtain ⟨x, n, er⟩ := R
    simp only at h ⊢
    go_enter Try.func57, Try.ntmps57
    go_wp2_with fail
    refine h.mono ?_
    rintro e9 w9 ⟨y, rfl, w1, rfl, k1, k2, h9⟩
    have HH : Hid (Rd w9 b o (l.drop n) er rb ∧ Keep [b] w w9) := ⟨h9, k1.trans k2 (fun _ h => by cases h) (fun _ h => .inl h)⟩
    clear h9 k1 k2 h
    go_wp2
    go_ret
    exact ⟨rfl, HH.out⟩
  · rw [rdOf_neg _ _ _ _ he]
    have h := read65_err b o l e rb w hr he (.func (.func 101) #[] #[])
    go_enter Try.func57, Try.ntmps57
    go_wp2_with fail
    refine h.mono ?_
    rintro e9 w9 ⟨rfl, hw9⟩
    obtain rfl := hw9.symm
    have HR : Hid (Rd w b o l e rb) := hr
    clear h hr
    go_wp2
    go_ret
    exact ⟨rfl, HR.out, Keep.refl _ _⟩

end Go.Proofs.Ytppimacfeelneaa


/- A number has one form: what is read as a number is just what is written of it: the reckoning alone. -/
namespace Go.Proofs.Ytppimacfeelneaa
open Go.Lib

theorem numG_back : ∀ (l : List UInt8) (i acc x n : Nat), numG l i acc = (x, n, 0) → ∃ y, x = acc + y * 128 ^ i ∧ uvarint y = l.take (n - i) ∧ i < n ∧ (0 < i → 0 < y)
  | [], i, acc, x, n, h => by simp [numG] at h
  | c :: r, i, acc, x, n, h => by
    rw [numG] at h
    have hcl : c.toNat < 256 := c.toNat_lt
    split at h
    · simp at h
    · rename_i hE
      split at h
      · rename_i hD
        simp only [Prod.mk.injEq] at h
        obtain ⟨rfl, rfl, _⟩ := h
        refine ⟨c.toNat, by rw [Nat.mod_eq_of_lt hD], ?_, by omega, fun hi => by omega⟩
        rw [uvarint_small hD, show i + 1 - i = 1 by omega]
        simp
      · rename_i hD
        obtain ⟨y, hx, hu, hin, hy⟩ := numG_back r (i + 1) _ x n h
        have hy0 := hy (by omega)
        refine ⟨c.toNat % 128 + 128 * y, ?_, ?_, by omega, fun _ => by omega⟩
        · rw [hx, Nat.pow_succ, Nat.add_mul, Nat.add_assoc]
          congr 2
          rw [Nat.mul_comm (128 ^ i) 128, ← Nat.mul_assoc, Nat.mul_comm y 128]
        · rw [uvarint_big (by omega), show n - i = (n - (i + 1)) + 1 by omega, List.take_succ_cons, show (c.toNat % 128 + 128 * y) / 128 = y by omega, hu]
          congr 1
          rw [show (c.toNat % 128 + 128 * y) % 128 + 128 = c.toNat by omega]
          simp

theorem numL_back (l : List UInt8) (h : (numL l).2.2 = 0) : uvarint (numL l).1 = l.take (numL l).2.1 ∧ 0 < (numL l).2.1 := by
  have hN : numL l = ((numL l).1, (numL l).2.1, (numL l).2.2) := rfl
  rw [h] at hN
  generalize (numL l).1 = x at hN ⊢
  generalize (numL l).2.1 = n at hN ⊢
  obtain ⟨y, hx, hu, hin, _⟩ := numG_back l 0 0 x n hN
  simp only [Nat.pow_zero, Nat.mul_one, Nat.zero_add] at hx
  subst hx
  exact ⟨by simpa using hu, hin⟩

theorem numG_err : ∀ (l : List UInt8) (i acc : Nat), i ≤ 9 → (numG l i acc).2.2 = 0 ∨ (numG l i acc).2.2 = 21 ∨ ((numG l i acc).2.2 = 20 ∧ i + l.length < 10)
  | [], i, acc, hi => .inr (.inr ⟨rfl, by simp; omega⟩)
  | c :: r, i, acc, hi => by
    rw [numG]
    split
    · exact .inr (.inl rfl)
    · rename_i hE
      split
      · exact .inl rfl
      · rename_i hD
        rcases numG_err r (i + 1) (acc + c.toNat % 128 * 128 ^ i) (by omega) with h | h | ⟨h, h2⟩
        · exact .inl h
        · exact .inr (.inl h)
        · exact .inr (.inr ⟨h, by simp; omega⟩)

theorem numL_err (l : List UInt8) : (numL l).2.2 = 0 ∨ (numL l).2.2 = 21 ∨ ((numL l).2.2 = 20 ∧ l.length < 10) := by
  have := numG_err l 0 0 (by omega)
  simpa [numL] using this

theorem zig_unzig (u : Nat) : zigzag (unzig u) = u := by
  unfold zigzag unzig
  split <;> split <;> omega
theorem unzig_range (u : Nat) (h : u < 18446744073709551616) : -9223372036854775808 ≤ unzig u ∧ unzig u ≤ 9223372036854775807 := by
  unfold unzig
  split <;> omega

theorem key_back (k : Nat) (hk : k < 4294967296) (h : keyB k = true) : keyN (unkeyN k) = k := by
  unfold keyB at h
  unfold unkeyN
  by_cases hn : k = 4290772992
  · rw [if_pos hn, hn]; decide
  · rw [if_neg hn]
    have hb : nanB (bitsK k) = false := by
      have hne : (k == 4290772992) = false := by simpa using hn
      rw [hne] at h
      simpa using h
    rw [hb]
    simp only [Bool.false_eq_true, if_false]
    unfold keyN
    rw [hb]
    simp only [Bool.false_eq_true, if_false]
    unfold bitsK
    split <;> split <;> omega

theorem unkey_lt (k : Nat) (hk : k < 4294967296) : unkeyN k < 4294967296 := by
  have hb : bitsK k < 4294967296 := by
    unfold bitsK
    split <;> omega
  unfold unkeyN
  split
  · omega
  · split <;> omega

theorem four_be (l : List UInt8) (h : 4 ≤ l.length) : four (be4 l) = l.take 4 := by
  match l, h with
  | a :: b :: c :: d :: r, _ =>
    have ha := a.toNat_lt
    have hb := b.toNat_lt
    have hc := c.toNat_lt
    have hd := d.toNat_lt
    unfold four be4
    simp only [List.getD_cons_zero, List.getD_cons_succ, List.take_succ_cons, List.take_zero]
    rw [show (16777216 * a.toNat + 65536 * b.toNat + 256 * c.toNat + d.toNat) / 16777216 % 256 = a.toNat by omega, show (16777216 * a.toNat + 65536 * b.toNat + 256 * c.toNat + d.toNat) / 65536 % 256 = b.toNat by omega,
      show (16777216 * a.toNat + 65536 * b.toNat + 256 * c.toNat + d.toNat) / 256 % 256 = c.toNat by omega, show (16777216 * a.toNat + 65536 * b.toNat + 256 * c.toNat + d.toNat) % 256 = d.toNat by omega]
    simp

theorem be4_lt (l : List UInt8) : be4 l < 4294967296 := by
  have h0 : (l.getD 0 0).toNat < 256 := UInt8.toNat_lt _
  have h1 : (l.getD 1 0).toNat < 256 := UInt8.toNat_lt _
  have h2 : (l.getD 2 0).toNat < 256 := UInt8.toNat_lt _
  have h3 : (l.getD 3 0).toNat < 256 := UInt8.toNat_lt _
  unfold be4
  omega

theorem realL_back (l : List UInt8) (h : (realL l).2.2 = 0) : four (keyN (realL l).1) = l.take (realL l).2.1 ∧ 0 < (realL l).2.1 := by
  unfold realL at h ⊢
  split
  · rename_i h4; rw [if_pos h4] at h; simp at h
  · rename_i h4
    split
    · rename_i hk
      exact ⟨by simp only; rw [key_back _ (be4_lt l) hk]; exact four_be l (by omega), by simp⟩
    · rename_i hk; rw [if_neg h4, if_neg hk] at h; simp at h

theorem realL_err (l : List UInt8) : (realL l).2.2 = 0 ∨ (realL l).2.2 = 21 ∨ ((realL l).2.2 = 20 ∧ l.length < 10) := by
  unfold realL
  split
  · exact .inr (.inr ⟨rfl, by omega⟩)
  · split
    · exact .inl rfl
    · exact .inr (.inl rfl)

theorem realL_lt (l : List UInt8) : (realL l).1 < 4294967296 := by
  unfold realL
  split
  · simp
  · split
    · exact unkey_lt _ (be4_lt l)
    · simp
theorem realL_zero (l : List UInt8) (h : (realL l).2.2 ≠ 0) : (realL l).2.1 = 0 := by
  unfold realL at h ⊢
  split
  · rfl
  · split
    · rename_i h4 hk; rw [if_neg h4, if_pos hk] at h; simp at h
    · rfl

end Go.Proofs.Ytppimacfeelneaa


/- Numbers, reals and texts that were written are read again. -/
namespace Go.Proofs.Ytppimacfeelneaa
open Go.RowKit Go.PlainAid Go.Lib

theorem byte_back (n : Nat) (h : n < 256) : n.toUInt8.toNat = n := by simp; omega

theorem numG_fwd : ∀ (k x i acc : Nat) (r : List UInt8), x < 128 ^ (k + 1) → i + k ≤ 9 → (0 < i → 0 < x) → acc + x * 128 ^ i < 18446744073709551616 →
    numG (uvarint x ++ r) i acc = (acc + x * 128 ^ i, i + (uvarint x).length, 0)
  | k, x, i, acc, r, hx, hi, hp, hb => by
    by_cases h : x < 128
    · rw [uvarint_small h, List.singleton_append, numG, byte_back x (by omega)]
      have h9 : i = 9 → x ≤ 1 := by
        intro h9
        subst h9
        apply Nat.le_of_not_lt
        intro h2
        have h3 : 2 * 128 ^ 9 ≤ x * 128 ^ 9 := Nat.mul_le_mul_right _ h2
        have h4 : 2 * 128 ^ 9 = 18446744073709551616 := by decide
        omega
      rw [if_neg (by intro h1; rcases h1 with h1 | h1; (have := hp h1.1; omega); (have := h9 h1.1; omega)), if_pos h, Nat.mod_eq_of_lt h]
      rfl
    · cases k with
      | zero => simp at hx; omega
      | succ k =>
        rw [uvarint_big (by omega), List.cons_append, numG, byte_back _ (by omega)]
        rw [if_neg (by omega), if_neg (by omega)]
        have e : (x % 128 + 128) % 128 = x % 128 := by omega
        have e2 : acc + x % 128 * 128 ^ i + x / 128 * 128 ^ (i + 1) = acc + x * 128 ^ i := by
          have h1 : x = x % 128 + 128 * (x / 128) := by omega
          have h2 : x * 128 ^ i = x % 128 * 128 ^ i + 128 * (x / 128) * 128 ^ i := by
            rw [← Nat.add_mul, ← h1]
          rw [h2, Nat.pow_succ, Nat.add_assoc]
          congr 2
          rw [Nat.mul_comm (128 ^ i) 128, ← Nat.mul_assoc, Nat.mul_comm (x / 128) 128]
        have hx2 : x / 128 < 128 ^ (k + 1) := by
          rw [Nat.pow_succ] at hx
          omega
        rw [e, numG_fwd k (x / 128) (i + 1) _ r hx2 (by omega) (fun _ => by omega) (by rw [e2]; exact hb), e2]
        simp only [List.length_cons]
        congr 2
        omega

theorem numL_fwd (x : Nat) (r : List UInt8) (h : x < 18446744073709551616) : numL (uvarint x ++ r) = (x, (uvarint x).length, 0) := by
  unfold numL
  rw [numG_fwd 9 x 0 0 r (Nat.lt_of_lt_of_le h (by decide)) (by omega) (by omega) (by simpa using h)]
  simp

theorem unzig_zig (x : Int) (_h0 : -9223372036854775808 ≤ x) (_h1 : x ≤ 9223372036854775807) : unzig (zigzag x) = x := by
  unfold unzig zigzag
  split <;> split <;> omega

theorem four_len (k : Nat) : (four k).length = 4 := rfl

theorem be4_four (k : Nat) (h : k < 4294967296) (r : List UInt8) : be4 (four k ++ r) = k := by
  unfold be4 four
  simp only [List.cons_append, List.nil_append, List.getD_cons_zero, List.getD_cons_succ]
  rw [byte_back _ (by omega), byte_back _ (by omega), byte_back _ (by omega), byte_back _ (by omega)]
  omega

theorem key_unkey (x : Nat) (h : x < 4294967296) : keyB (keyN x) = true ∧ (unkeyN (keyN x) = x ∨ nanB x = true ∧ nanB (unkeyN (keyN x)) = true) := by
  by_cases hn : nanB x = true
  · have e : keyN x = 4290772992 := by unfold keyN; rw [if_pos hn]
    rw [e]
    exact ⟨by decide, .inr ⟨hn, by decide⟩⟩
  · have hn' : nanB x = false := by simpa using hn
    have hx : ¬ 2139095040 < x % 2147483648 := by
      unfold nanB at hn
      simpa using hn
    have hb : bitsK (keyN x) = x := by
      unfold keyN bitsK
      rw [if_neg hn]
      split <;> split <;> omega
    have hk : keyN x ≠ 4290772992 := by
      unfold keyN
      rw [if_neg hn]
      split <;> omega
    refine ⟨by unfold keyB; rw [hb, hn']; simp, .inl ?_⟩
    unfold unkeyN
    rw [if_neg hk, hb, if_neg hn]

theorem textL_at (s r : List UInt8) (h : s.length ≤ 256) : textL (uvarint s.length ++ s ++ r) 256 = (s, (uvarint s.length).length + s.length, 0) := by
  unfold textL
  rw [List.append_assoc, numL_fwd _ _ (by omega)]
  simp only [List.length_append]
  rw [if_neg (by omega), if_neg (by simp), if_neg (by omega), if_neg (by omega)]
  simp
end Go.Proofs.Ytppimacfeelneaa
