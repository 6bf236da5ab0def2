/- The letters of bytes and the bytes of letters, bit by bit. -/
import Derived.Test.YtcmembmaaebdeaaArmM
namespace Go.Proofs.Ytcmembmaaebdeaa
open Go.RowKit Go.PlainAid Go.Lib

theorem armG_zero (l : List UInt8) (h : Nat) : armG l h 0 = armL l := (armL_unL _ l ((arm_un l h 0).1)).symm

/-- the k-th bit of bytes, the highest first; 0 behind them -/
def bitOf (l : List UInt8) (k : Nat) : Nat := (l.getD (k / 8) 0).toNat / 2 ^ (7 - k % 8) % 2
/-- t bits from a on, as a number -/
def part (l : List UInt8) (a : Nat) : Nat → Nat
  | 0 => 0
  | t + 1 => 2 * part l a t + bitOf l (a + t)
def five (l : List UInt8) (j : Nat) : Nat := part l (5 * j) 5

theorem bitOf_lt (l : List UInt8) (k : Nat) : bitOf l k < 2 := Nat.mod_lt _ (by decide)
theorem part_lt (l : List UInt8) (a : Nat) : ∀ t, part l a t < 2 ^ t
  | 0 => by simp [part]
  | t + 1 => by
    have h1 := part_lt l a t
    have h2 := bitOf_lt l (a + t)
    rw [part, Nat.pow_succ]
    omega
theorem five_lt (l : List UInt8) (j : Nat) : five l j < 32 := part_lt l _ 5

theorem bitOf_five (a b c d e : UInt8) (r : List UInt8) (k : Nat) : bitOf (a :: b :: c :: d :: e :: r) (k + 40) = bitOf r k := by
  unfold bitOf
  rw [show (k + 40) / 8 = k / 8 + 5 by omega, show (k + 40) % 8 = k % 8 by omega]
  rfl
theorem part_five (a b c d e : UInt8) (r : List UInt8) (k : Nat) : ∀ t, part (a :: b :: c :: d :: e :: r) (k + 40) t = part r k t
  | 0 => rfl
  | t + 1 => by
    rw [part, part, part_five a b c d e r k t, show k + 40 + t = (k + t) + 40 by omega, bitOf_five]
theorem five_step (a b c d e : UInt8) (r : List UInt8) (j : Nat) : five (a :: b :: c :: d :: e :: r) (j + 8) = five r j := by
  unfold five
  rw [show 5 * (j + 8) = 5 * j + 40 by omega, part_five]

theorem getD_lt (l : List UInt8) (j : Nat) : (l.getD j 0).toNat < 256 := (l.getD j 0).toNat_lt

set_option maxHeartbeats 2000000 in
theorem arm_five (a b c d e : UInt8) (r : List UInt8) : armL (a :: b :: c :: d :: e :: r) =
    [lt (five (a :: b :: c :: d :: e :: r) 0), lt (five (a :: b :: c :: d :: e :: r) 1), lt (five (a :: b :: c :: d :: e :: r) 2), lt (five (a :: b :: c :: d :: e :: r) 3), lt (five (a :: b :: c :: d :: e :: r) 4), lt (five (a :: b :: c :: d :: e :: r) 5), lt (five (a :: b :: c :: d :: e :: r) 6), lt (five (a :: b :: c :: d :: e :: r) 7)] ++ armL r := by
  have ha := a.toNat_lt
  have hb := b.toNat_lt
  have hc := c.toNat_lt
  have hd := d.toNat_lt
  have he := e.toNat_lt
  unfold armL
  simp only [armG, emitR, five, part, bitOf]
  simp only [Nat.reduceAdd, Nat.reduceSub, Nat.reduceMod, Nat.reduceMul, Nat.reduceDiv, Nat.reduceLT, Nat.reducePow, if_false, if_true, List.getD_cons_zero, List.getD_cons_succ, Nat.zero_mod, Nat.mul_zero, Nat.zero_add, List.nil_append, List.cons_append, Nat.zero_div, Nat.div_one]
  rw [armG_zero, armG_zero]
  generalize hH1 : 256 * a.toNat % 4294967296 + b.toNat = H1
  have k1 : H1 % 65536 = 256 * a.toNat + b.toNat := by omega
  clear hH1
  generalize hH2 : 256 * H1 % 4294967296 + c.toNat = H2
  have k2 : H2 % 65536 = 256 * b.toNat + c.toNat := by omega
  clear hH2
  generalize hH3 : 256 * H2 % 4294967296 + d.toNat = H3
  have k3 : H3 % 65536 = 256 * c.toNat + d.toNat := by omega
  clear hH3
  generalize hH4 : 256 * H3 % 4294967296 + e.toNat = H4
  have k4 : H4 % 65536 = 256 * d.toNat + e.toNat := by omega
  clear hH4
  refine List.cons_eq_cons.2 ⟨lt_congr ?_, List.cons_eq_cons.2 ⟨lt_congr ?_, List.cons_eq_cons.2 ⟨lt_congr ?_, List.cons_eq_cons.2 ⟨lt_congr ?_, List.cons_eq_cons.2 ⟨lt_congr ?_, List.cons_eq_cons.2 ⟨lt_congr ?_, List.cons_eq_cons.2 ⟨lt_congr ?_, List.cons_eq_cons.2 ⟨lt_congr ?_, rfl⟩⟩⟩⟩⟩⟩⟩⟩
  all_goals omega

set_option maxHeartbeats 2000000 in
theorem arm_1 (a : UInt8) : armL [a] = [lt (five [a] 0), lt (five [a] 1)] := by
  have ha := a.toNat_lt
  unfold armL
  simp only [armG, emitR, five, part, bitOf]
  simp only [Nat.reduceAdd, Nat.reduceSub, Nat.reduceMod, Nat.reduceMul, Nat.reduceDiv, Nat.reduceLT, Nat.reducePow, if_false, if_true, List.getD_cons_zero, List.getD_cons_succ, Nat.zero_mod, Nat.mul_zero, Nat.zero_add, List.nil_append, List.cons_append, Nat.zero_div, Nat.div_one, List.getD_nil, UInt8.toNat_zero, Nat.add_zero]
  refine List.cons_eq_cons.2 ⟨lt_congr ?_, List.cons_eq_cons.2 ⟨lt_congr ?_, rfl⟩⟩
  all_goals omega

set_option maxHeartbeats 2000000 in
theorem arm_2 (a b : UInt8) : armL [a, b] = [lt (five [a, b] 0), lt (five [a, b] 1), lt (five [a, b] 2), lt (five [a, b] 3)] := by
  have ha := a.toNat_lt
  have hb := b.toNat_lt
  unfold armL
  simp only [armG, emitR, five, part, bitOf]
  simp only [Nat.reduceAdd, Nat.reduceSub, Nat.reduceMod, Nat.reduceMul, Nat.reduceDiv, Nat.reduceLT, Nat.reducePow, if_false, if_true, List.getD_cons_zero, List.getD_cons_succ, Nat.zero_mod, Nat.mul_zero, Nat.zero_add, List.nil_append, List.cons_append, Nat.zero_div, Nat.div_one, List.getD_nil, UInt8.toNat_zero, Nat.add_zero]
  generalize hH1 : 256 * a.toNat % 4294967296 + b.toNat = H1
  have k1 : H1 % 65536 = 256 * a.toNat + b.toNat := by omega
  clear hH1
  refine List.cons_eq_cons.2 ⟨lt_congr ?_, List.cons_eq_cons.2 ⟨lt_congr ?_, List.cons_eq_cons.2 ⟨lt_congr ?_, List.cons_eq_cons.2 ⟨lt_congr ?_, rfl⟩⟩⟩⟩
  all_goals omega

set_option maxHeartbeats 2000000 in
theorem arm_3 (a b c : UInt8) : armL [a, b, c] = [lt (five [a, b, c] 0), lt (five [a, b, c] 1), lt (five [a, b, c] 2), lt (five [a, b, c] 3), lt (five [a, b, c] 4)] := by
  have ha := a.toNat_lt
  have hb := b.toNat_lt
  have hc := c.toNat_lt
  unfold armL
  simp only [armG, emitR, five, part, bitOf]
  simp only [Nat.reduceAdd, Nat.reduceSub, Nat.reduceMod, Nat.reduceMul, Nat.reduceDiv, Nat.reduceLT, Nat.reducePow, if_false, if_true, List.getD_cons_zero, List.getD_cons_succ, Nat.zero_mod, Nat.mul_zero, Nat.zero_add, List.nil_append, List.cons_append, Nat.zero_div, Nat.div_one, List.getD_nil, UInt8.toNat_zero, Nat.add_zero]
  generalize hH1 : 256 * a.toNat % 4294967296 + b.toNat = H1
  have k1 : H1 % 65536 = 256 * a.toNat + b.toNat := by omega
  clear hH1
  generalize hH2 : 256 * H1 % 4294967296 + c.toNat = H2
  have k2 : H2 % 65536 = 256 * b.toNat + c.toNat := by omega
  clear hH2
  refine List.cons_eq_cons.2 ⟨lt_congr ?_, List.cons_eq_cons.2 ⟨lt_congr ?_, List.cons_eq_cons.2 ⟨lt_congr ?_, List.cons_eq_cons.2 ⟨lt_congr ?_, List.cons_eq_cons.2 ⟨lt_congr ?_, rfl⟩⟩⟩⟩⟩
  all_goals omega

set_option maxHeartbeats 2000000 in
theorem arm_4 (a b c d : UInt8) : armL [a, b, c, d] = [lt (five [a, b, c, d] 0), lt (five [a, b, c, d] 1), lt (five [a, b, c, d] 2), lt (five [a, b, c, d] 3), lt (five [a, b, c, d] 4), lt (five [a, b, c, d] 5), lt (five [a, b, c, d] 6)] := by
  have ha := a.toNat_lt
  have hb := b.toNat_lt
  have hc := c.toNat_lt
  have hd := d.toNat_lt
  unfold armL
  simp only [armG, emitR, five, part, bitOf]
  simp only [Nat.reduceAdd, Nat.reduceSub, Nat.reduceMod, Nat.reduceMul, Nat.reduceDiv, Nat.reduceLT, Nat.reducePow, if_false, if_true, List.getD_cons_zero, List.getD_cons_succ, Nat.zero_mod, Nat.mul_zero, Nat.zero_add, List.nil_append, List.cons_append, Nat.zero_div, Nat.div_one, List.getD_nil, UInt8.toNat_zero, Nat.add_zero]
  generalize hH1 : 256 * a.toNat % 4294967296 + b.toNat = H1
  have k1 : H1 % 65536 = 256 * a.toNat + b.toNat := by omega
  clear hH1
  generalize hH2 : 256 * H1 % 4294967296 + c.toNat = H2
  have k2 : H2 % 65536 = 256 * b.toNat + c.toNat := by omega
  clear hH2
  generalize hH3 : 256 * H2 % 4294967296 + d.toNat = H3
  have k3 : H3 % 65536 = 256 * c.toNat + d.toNat := by omega
  clear hH3
  refine List.cons_eq_cons.2 ⟨lt_congr ?_, List.cons_eq_cons.2 ⟨lt_congr ?_, List.cons_eq_cons.2 ⟨lt_congr ?_, List.cons_eq_cons.2 ⟨lt_congr ?_, List.cons_eq_cons.2 ⟨lt_congr ?_, List.cons_eq_cons.2 ⟨lt_congr ?_, List.cons_eq_cons.2 ⟨lt_congr ?_, rfl⟩⟩⟩⟩⟩⟩⟩
  all_goals omega


theorem arm_get : ∀ (l : List UInt8) (j : Nat), j < (8 * l.length + 4) / 5 → (armL l)[j]? = some (lt (five l j))
  | [], j, h => by simp at h
  | [a], j, h => by
    rw [arm_1]
    have : j = 0 ∨ j = 1 := by simp at h; omega
    rcases this with rfl | rfl <;> rfl
  | [a, b], j, h => by
    rw [arm_2]
    have : j = 0 ∨ j = 1 ∨ j = 2 ∨ j = 3 := by simp at h; omega
    rcases this with rfl | rfl | rfl | rfl <;> rfl
  | [a, b, c], j, h => by
    rw [arm_3]
    have : j = 0 ∨ j = 1 ∨ j = 2 ∨ j = 3 ∨ j = 4 := by simp at h; omega
    rcases this with rfl | rfl | rfl | rfl | rfl <;> rfl
  | [a, b, c, d], j, h => by
    rw [arm_4]
    have : j = 0 ∨ j = 1 ∨ j = 2 ∨ j = 3 ∨ j = 4 ∨ j = 5 ∨ j = 6 := by simp at h; omega
    rcases this with rfl | rfl | rfl | rfl | rfl | rfl | rfl <;> rfl
  | a :: b :: c :: d :: e :: r, j, h => by
    rw [arm_five]
    by_cases hj : j < 8
    · have : j = 0 ∨ j = 1 ∨ j = 2 ∨ j = 3 ∨ j = 4 ∨ j = 5 ∨ j = 6 ∨ j = 7 := by omega
      rcases this with rfl | rfl | rfl | rfl | rfl | rfl | rfl | rfl <;> rfl
    · obtain ⟨i, rfl⟩ : ∃ i, j = i + 8 := ⟨j - 8, by omega⟩
      rw [five_step, List.getElem?_append_right (by simp)]
      simp only [List.length_cons, List.length_nil, Nat.reduceAdd, Nat.add_sub_cancel]
      exact arm_get r i (by simp only [List.length_cons] at h; omega)

/-- the letters, one behind the other -/
theorem armL_eq (l : List UInt8) : armL l = (List.range ((8 * l.length + 4) / 5)).map fun j => lt (five l j) := by
  apply List.ext_getElem?
  intro j
  by_cases h : j < (8 * l.length + 4) / 5
  · rw [arm_get l j h]
    simp [h]
  · rw [List.getElem?_eq_none (by rw [armL_len]; omega), List.getElem?_eq_none (by simp; omega)]

/-- the number of a letter; 0 of what is none -/
def numD (c : UInt8) : Nat := (numC c.toNat).getD 0
theorem numD_lt (n : Nat) : numD (lt n) = n % 32 := by
  unfold numD
  rw [numC_ltN]
  rfl

/-- the m-th bit of letters -/
def nbit (s : List UInt8) (m : Nat) : Nat := numD (s.getD (m / 5) 0) / 2 ^ (4 - m % 5) % 2
def npart (s : List UInt8) (a : Nat) : Nat → Nat
  | 0 => 0
  | t + 1 => 2 * npart s a t + nbit s (a + t)
def eight (s : List UInt8) (j : Nat) : Nat := npart s (8 * j) 8
def decL (s : List UInt8) : List UInt8 := (List.range (5 * s.length / 8)).map fun j => (eight s j).toUInt8

end Go.Proofs.Ytcmembmaaebdeaa
