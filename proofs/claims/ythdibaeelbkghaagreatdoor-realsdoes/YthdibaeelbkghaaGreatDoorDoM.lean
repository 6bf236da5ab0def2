/- What Do answers, told by the worths: sums, products and quotients of reals that are no nan. -/
import Derived.Test.YthdibaeelbkghaaGreatDoorQuoM
import Derived.Test.YthdibaeelbkghaaGreatDoorSum
import Derived.Test.YthdibaeelbkghaaGreatDoorDoA
import Derived.Test.YthdibaeelbkghaaGreatDoorSameR
namespace Go.Proofs.YthdibaeelbkghaaGreatDoor
open Go.RowKit Go.PlainAid

def sgnB (x : Nat) : Bool := x / 2147483648 % 2 == 1
def wordN (neg : Bool) (n : Nat) : Nat := if neg then n + 2147483648 else n
theorem word_eq (neg : Bool) (n : Nat) : Ieee.single.word neg n = wordN neg n := by
  have e1 : Ieee.single.signWeight = 2147483648 := by decide
  unfold Ieee.Format.word wordN
  rw [e1]
  cases neg
  · rfl
  · rw [if_pos rfl, if_pos rfl, Nat.add_comm]
theorem wordN_facts (neg : Bool) (n : Nat) (h : n ≤ 2139095040) : wordN neg n < 4294967296 ∧ nanB (wordN neg n) = false ∧ rungN (wordN neg n) = n ∧ sgnB (wordN neg n) = neg := by
  unfold wordN nanB rungN sgnB
  cases neg
  · rw [if_neg (by decide)]
    refine ⟨by omega, by simp; omega, by omega, ?_⟩
    rw [show n / 2147483648 = 0 by omega]; rfl
  · rw [if_pos rfl]
    refine ⟨by omega, by simp; omega, by omega, ?_⟩
    rw [show (n + 2147483648) / 2147483648 = 1 by omega]; rfl
theorem below_sgn (x : Nat) (hx : x < 4294967296) (h : nanB x = false) : belowB x = sgnB x := by
  unfold belowB sgnB
  rw [h]
  by_cases h1 : 2147483648 ≤ x
  · rw [decide_eq_true h1, show x / 2147483648 = 1 by omega]; rfl
  · rw [decide_eq_false h1, show x / 2147483648 = 0 by omega]; rfl
theorem word_back (x : Nat) (hx : x < 4294967296) : wordN (sgnB x) (rungN x) = x := by
  unfold wordN sgnB rungN
  by_cases h1 : 2147483648 ≤ x
  · rw [show x / 2147483648 = 1 by omega, if_pos (by decide)]; omega
  · rw [show x / 2147483648 = 0 by omega, if_neg (by decide)]; omega

/-- r is z, or both are no number -/
def Like (r z : Nat) : Prop := r < 4294967296 ∧ (nanB r = true ∧ nanB z = true ∨ r = z)
theorem Like.same {r z : Nat} (h : Like r z) (hz : z < 4294967296) : sameR z r = true := by
  obtain ⟨h1, h2⟩ := h
  unfold sameR
  rcases h2 with ⟨a, b⟩ | rfl
  · rw [a, b]; rfl
  · cases hn : nanB r
    · unfold eqB; rw [hn]; simp
    · rfl

theorem doN_some {k : Int} {a b r : Nat} {op : BinOp} (ho : opK k = some op) (h : floatBits op .f32 a b = some r) (hr : nanB r = false) : doN k a b = r := by
  unfold doN; rw [ho]; simp only []; rw [h]; simp only []; rw [hr]; rfl
theorem doN_none {k : Int} {a b : Nat} {op : BinOp} (ho : opK k = some op) (h : floatBits op .f32 a b = none) : doN k a b = 2143289344 := by
  unfold doN; rw [ho]; simp only []; rw [h]
theorem nan_nan : nanB 2143289344 = true := by decide

theorem zero_mag {x m i : Nat} (hv : m * 2 ^ i = valN (rungN x)) : m = 0 ↔ rungN x = 0 := by
  constructor
  · intro h
    rw [h, Nat.zero_mul] at hv
    refine Decidable.byContradiction fun hn => ?_
    have := valN_pos (show 0 < rungN x by omega)
    omega
  · intro h
    rw [h, valN_zero] at hv
    rcases Nat.mul_eq_zero.1 hv with h1 | h1
    · exact h1
    · exact absurd h1 (Nat.pos_iff_ne_zero.1 (Nat.two_pow_pos i))

theorem mul_none' (a c : Nat) (h : rungN a = 2139095040 ∧ rungN c = 0 ∨ rungN a = 0 ∧ rungN c = 2139095040) : Ieee.single.mul a c = none := by
  unfold Ieee.Format.mul
  rcases h with ⟨h1, h2⟩ | ⟨h1, h2⟩
  · obtain ⟨m, i, rc, vc⟩ := read_num c (by omega)
    rw [read_inf a h1, rc]
    simp only [Ieee.Datum.product]
    rw [if_pos ((zero_mag vc).2 h2)]; rfl
  · obtain ⟨m, i, ra, va⟩ := read_num a (by omega)
    rw [read_inf c h2, ra]
    simp only [Ieee.Datum.product]
    rw [if_pos ((zero_mag va).2 h1)]; rfl
theorem inf_rung : Ieee.single.infRung = 2139095040 := by decide
theorem mul_inf' (a c : Nat) (ha : rungN a ≤ 2139095040) (hc : rungN c ≤ 2139095040) (h : rungN a = 2139095040 ∧ rungN c ≠ 0 ∨ rungN a ≠ 0 ∧ rungN c = 2139095040) : Ieee.single.mul a c = some (wordN (sgnB a ^^ sgnB c) 2139095040) := by
  rw [← word_eq]
  unfold Ieee.Format.mul sgnB
  by_cases h1 : rungN a = 2139095040
  · by_cases h2 : rungN c = 2139095040
    · rw [read_inf a h1, read_inf c h2]
      simp only [Ieee.Datum.product, Option.map_some, Ieee.Format.write, inf_rung]
    · obtain ⟨m, i, rc, vc⟩ := read_num c (by omega)
      rw [read_inf a h1, rc]
      simp only [Ieee.Datum.product]
      rw [if_neg (fun e => by have := (zero_mag vc).1 e; omega)]
      simp only [Option.map_some, Ieee.Format.write, inf_rung]
  · have h2 : rungN c = 2139095040 := by omega
    obtain ⟨m, i, ra, va⟩ := read_num a (by omega)
    rw [read_inf c h2, ra]
    simp only [Ieee.Datum.product]
    rw [if_neg (fun e => by have := (zero_mag va).1 e; omega)]
    simp only [Option.map_some, Ieee.Format.write, inf_rung, Bool.xor_comm]
theorem div_none' (a c : Nat) (h : rungN a = 0 ∧ rungN c = 0 ∨ rungN a = 2139095040 ∧ rungN c = 2139095040) : Ieee.single.div a c = none := by
  unfold Ieee.Format.div
  rcases h with ⟨h1, h2⟩ | ⟨h1, h2⟩
  · obtain ⟨m, i, ra, va⟩ := read_num a (by omega)
    obtain ⟨n, j, rc, vc⟩ := read_num c (by omega)
    rw [ra, rc]
    simp only [Ieee.Datum.quotient]
    rw [if_pos ((zero_mag vc).2 h2), if_pos ((zero_mag va).2 h1)]; rfl
  · rw [read_inf a h1, read_inf c h2]; rfl
theorem div_inf' (a c : Nat) (h : rungN a < 2139095040 ∧ rungN a ≠ 0 ∧ rungN c = 0 ∨ rungN a = 2139095040 ∧ rungN c < 2139095040) : Ieee.single.div a c = some (wordN (sgnB a ^^ sgnB c) 2139095040) := by
  rw [← word_eq]
  unfold Ieee.Format.div sgnB
  rcases h with ⟨h0, h1, h2⟩ | ⟨h1, h2⟩
  · obtain ⟨m, i, ra, va⟩ := read_num a (by omega)
    obtain ⟨n, j, rc, vc⟩ := read_num c (by omega)
    rw [ra, rc]
    simp only [Ieee.Datum.quotient]
    rw [if_pos ((zero_mag vc).2 h2), if_neg (fun e => h1 ((zero_mag va).1 e))]
    simp only [Option.map_some, Ieee.Format.write, inf_rung]
  · obtain ⟨n, j, rc, vc⟩ := read_num c (by omega)
    rw [read_inf a h1, rc]
    simp only [Ieee.Datum.quotient, Option.map_some, Ieee.Format.write, inf_rung]
theorem div_zero' (a c : Nat) (h1 : rungN a < 2139095040) (h2 : rungN c = 2139095040) : Ieee.single.div a c = some (wordN (sgnB a ^^ sgnB c) 0) := by
  rw [← word_eq]
  unfold Ieee.Format.div sgnB
  obtain ⟨m, i, ra, va⟩ := read_num a (by omega)
  rw [ra, read_inf c h2]
  simp only [Ieee.Datum.quotient, Option.map_some, Ieee.Format.write]
  unfold Ieee.Format.nearest
  rw [if_pos rfl]
theorem add_infs (a c : Nat) (h1 : rungN a = 2139095040) (h2 : rungN c = 2139095040) : Ieee.single.add a c = if sgnB a = sgnB c then some (wordN (sgnB a) 2139095040) else none := by
  rw [← word_eq]
  unfold Ieee.Format.add sgnB
  rw [read_inf a h1, read_inf c h2]
  simp only [Ieee.Datum.sum]
  by_cases h : (a / 2147483648 % 2 == 1) = (c / 2147483648 % 2 == 1)
  · rw [if_pos h, if_pos h]; simp only [Option.map_some, Ieee.Format.write, inf_rung]
  · rw [if_neg h, if_neg h]; rfl

/-- the worth of a float as the document has it -/
theorem at_worth (n : Nat) : (atM n : Nat) * 2 ^ (atE n + 149).toNat = valN n := by
  unfold atM atE valN
  by_cases h : n < 8388608
  · rw [if_pos h, if_pos h, if_pos h]; simp
  · rw [if_neg h, if_neg h, if_neg h]
    congr 2
    omega
end Go.Proofs.YthdibaeelbkghaaGreatDoor
