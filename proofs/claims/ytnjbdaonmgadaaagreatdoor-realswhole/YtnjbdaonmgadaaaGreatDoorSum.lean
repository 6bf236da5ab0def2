/- Sums and products of reals of 32 bits, told by their worths: they do not hang on the order, and a sum never falls. -/
import Derived.Test.YtnjbdaonmgadaaaGreatDoorRnd
namespace Go.Proofs.YtnjbdaonmgadaaaGreatDoor
open Go.RowKit Go.PlainAid

theorem sum_comm (x y : Ieee.Datum) : x.sum y = y.sum x := by
  cases x <;> cases y <;> simp only [Ieee.Datum.sum]
  · rename_i s m i t n j
    rw [Int.min_comm i j, Int.add_comm (Ieee.signed s m _), Bool.and_comm s t]
  · rename_i s t
    by_cases h : s = t
    · rw [if_pos h, if_pos h.symm, h]
    · rw [if_neg h, if_neg (fun e => h e.symm)]
theorem product_comm (x y : Ieee.Datum) : x.product y = y.product x := by
  cases x <;> cases y <;> simp only [Ieee.Datum.product]
  · rename_i s m i t n j
    rw [Bool.xor_comm s t, Nat.mul_comm m n, Int.add_comm i j]
  · rename_i s t
    rw [Bool.xor_comm s t]
theorem add_comm' (a b : Nat) : Ieee.single.add a b = Ieee.single.add b a := by unfold Ieee.Format.add; rw [sum_comm]
theorem mul_comm' (a b : Nat) : Ieee.single.mul a b = Ieee.single.mul b a := by unfold Ieee.Format.mul; rw [product_comm]
theorem opposite_twice (d : Ieee.Datum) : d.opposite.opposite = d := by cases d <;> simp [Ieee.Datum.opposite]

/-- the bits with the other sign -/
def negN (c : Nat) : Nat := if 2147483648 ≤ c then c - 2147483648 else c + 2147483648
theorem read_neg (c : Nat) (h : c < 4294967296) : Ieee.single.read (negN c) = (Ieee.single.read c).opposite := by
  have e1 : Ieee.single.signWeight = 2147483648 := by decide
  have hr : negN c % 2147483648 = c % 2147483648 := by unfold negN; split <;> omega
  have hs : (negN c / 2147483648 % 2 == 1) = !(c / 2147483648 % 2 == 1) := by
    unfold negN
    by_cases hc : 2147483648 ≤ c
    · rw [if_pos hc, show (c - 2147483648) / 2147483648 = 0 by omega, show c / 2147483648 = 1 by omega]; rfl
    · rw [if_neg hc, show (c + 2147483648) / 2147483648 = 1 by omega, show c / 2147483648 = 0 by omega]; rfl
  unfold Ieee.Format.read
  simp only [e1, hr, hs]
  split
  · rfl
  · split
    · rfl
    · split <;> rfl
theorem sub_neg (a c : Nat) (h : c < 4294967296) : Ieee.single.sub a (negN c) = Ieee.single.add a c := by
  unfold Ieee.Format.sub Ieee.Format.add
  rw [read_neg c h, opposite_twice]

theorem signed_units (x : Nat) (m up : Nat) (h : m * 2 ^ up = valN (rungN x)) (b : Nat) (hb : b ≤ up) : Ieee.signed (x / 2147483648 % 2 == 1) m (up - b) * (2 ^ b : Nat) = svalZ x := by
  rw [signed_mul, show up - b + b = up by omega, h]
  unfold svalZ
  simp

/-- a sum of two finite reals: the sum of their worths, rounded -/
theorem add_num (a c : Nat) (ha : rungN a < 2139095040) (hc : rungN c < 2139095040) :
    Ieee.single.add a c = some (Ieee.single.word (if svalZ a + svalZ c = 0 then (a / 2147483648 % 2 == 1) && (c / 2147483648 % 2 == 1) else decide (svalZ a + svalZ c < 0)) (rndR (svalZ a + svalZ c).natAbs)) := by
  obtain ⟨m, i, ra, va⟩ := read_num a ha
  obtain ⟨n, j, rc, vc⟩ := read_num c hc
  unfold Ieee.Format.add
  rw [ra, rc]
  simp only [Ieee.Datum.sum, Option.map_some, Ieee.Format.write]
  have hmin : min (-149 + (i : Int)) (-149 + (j : Int)) = -149 + ((min i j : Nat) : Int) := by omega
  rw [hmin]
  rw [show (-149 + (i : Int) - (-149 + ((min i j : Nat) : Int))).toNat = i - min i j by omega, show (-149 + (j : Int) - (-149 + ((min i j : Nat) : Int))).toNat = j - min i j by omega]
  have f1 := signed_units a m i va (min i j) (by omega)
  have f2 := signed_units c n j vc (min i j) (by omega)
  generalize Ieee.signed (a / 2147483648 % 2 == 1) m (i - min i j) = p at *
  generalize Ieee.signed (c / 2147483648 % 2 == 1) n (j - min i j) = q at *
  generalize min i j = b at *
  have hP : 0 < 2 ^ b := Nat.two_pow_pos b
  have f3 : (p + q) * ((2 ^ b : Nat) : Int) = svalZ a + svalZ c := by rw [Int.add_mul, f1, f2]
  rw [nearest_rnd]
  have f4 : (p + q).natAbs * 2 ^ b = (svalZ a + svalZ c).natAbs := by
    rw [← f3, Int.natAbs_mul]; simp
  rw [f4, ← f3]
  have hPi : (0 : Int) < ((2 ^ b : Nat) : Int) := by exact_mod_cast hP
  have g1 : (p + q) * ((2 ^ b : Nat) : Int) = 0 ↔ p + q = 0 := by
    rw [Int.mul_eq_zero]; constructor
    · rintro (h | h)
      · exact h
      · omega
    · exact fun h => .inl h
  have g2 : (p + q) * ((2 ^ b : Nat) : Int) < 0 ↔ p + q < 0 := by
    constructor
    · intro h
      by_cases hn : p + q < 0
      · exact hn
      · have := Int.mul_nonneg (show 0 ≤ p + q by omega) (Int.le_of_lt hPi); omega
    · intro h
      have := Int.mul_lt_mul_of_pos_right h hPi
      rw [Int.zero_mul] at this; exact this
  simp only [g1, g2]

theorem word_facts (s : Bool) (r : Nat) (h : r < 2147483648) : Ieee.single.word s r < 4294967296 ∧ rungN (Ieee.single.word s r) = r ∧ (Ieee.single.word s r / 2147483648 % 2 == 1) = s ∧ (2147483648 ≤ Ieee.single.word s r ↔ s = true) := by
  have e1 : Ieee.single.signWeight = 2147483648 := by decide
  unfold Ieee.Format.word rungN
  rw [e1]
  cases s
  · simp only [Bool.false_eq_true, if_false]
    refine ⟨by omega, by omega, ?_, ⟨fun h => by omega, fun h => by cases h⟩⟩
    rw [show r / 2147483648 = 0 by omega]; rfl
  · simp only [if_true]
    refine ⟨by omega, by omega, ?_, by simp⟩
    rw [show (2147483648 + r) / 2147483648 = 1 by omega]; rfl

/-- a finite real to which one that is infinite is added -/
theorem add_inf (a c : Nat) (ha : rungN a = 2139095040) (hc : rungN c < 2139095040) : Ieee.single.add a c = some (Ieee.single.word (a / 2147483648 % 2 == 1) 2139095040) := by
  obtain ⟨n, j, rc, vc⟩ := read_num c hc
  unfold Ieee.Format.add
  rw [read_inf a ha, rc]
  rfl
theorem add_nan (a c : Nat) (h : 2139095040 < rungN a ∨ 2139095040 < rungN c) : Ieee.single.add a c = none := by
  unfold Ieee.Format.add
  rcases h with h | h
  · obtain ⟨f, r⟩ := read_nan a h
    rw [r]; rfl
  · obtain ⟨f, r⟩ := read_nan c h
    rw [r]; cases Ieee.single.read a <;> rfl

/-- the place of a real in the order that tells the noughts apart -/
def ordK (x : Nat) : Int := if 2147483648 ≤ x then -(rungN x : Int) - 1 else (rungN x : Int)

/-- a greater real makes no lesser sum -/
theorem add_grows (a b c s t : Nat) (ha : a < 4294967296) (hb : b < 4294967296) (hra : rungN a ≤ 2139095040) (hrb : rungN b ≤ 2139095040) (hc : rungN c < 2139095040)
    (hab : svalZ a < svalZ b) (hs : Ieee.single.add a c = some s) (ht : Ieee.single.add b c = some t) :
    ordK s ≤ ordK t ∧ s < 4294967296 ∧ t < 4294967296 ∧ rungN s ≤ 2139095040 ∧ rungN t ≤ 2139095040 := by
  have key : ∀ x z, x < 4294967296 → rungN x ≤ 2139095040 → Ieee.single.add x c = some z → z < 4294967296 ∧ rungN z ≤ 2139095040 ∧
      ((rungN x = 2139095040 ∧ ordK z = if 2147483648 ≤ x then -2139095041 else 2139095040) ∨ (rungN x < 2139095040 ∧ ∃ sg : Bool, (svalZ x + svalZ c ≠ 0 → sg = decide (svalZ x + svalZ c < 0)) ∧ (svalZ x + svalZ c = 0 → sg = true → svalZ x = 0 ∧ 2147483648 ≤ x) ∧ ordK z = if sg then -(rndR (svalZ x + svalZ c).natAbs : Int) - 1 else (rndR (svalZ x + svalZ c).natAbs : Int))) := by
    intro x z hx hr hz
    by_cases hi : rungN x = 2139095040
    · rw [add_inf x c hi hc] at hz
      obtain rfl := Option.some.inj hz
      obtain ⟨w1, w2, w3, w4⟩ := word_facts (x / 2147483648 % 2 == 1) 2139095040 (by decide)
      refine ⟨w1, by omega, .inl ⟨hi, ?_⟩⟩
      unfold ordK
      rw [w2]
      by_cases hb : 2147483648 ≤ x
      · have : (x / 2147483648 % 2 == 1) = true := by rw [show x / 2147483648 = 1 by omega]; rfl
        rw [if_pos (w4.2 this), if_pos hb]; rfl
      · have : (x / 2147483648 % 2 == 1) = false := by rw [show x / 2147483648 = 0 by omega]; rfl
        rw [if_neg (fun e => by rw [w4.1 e] at this; cases this), if_neg hb]; rfl
    · rw [add_num x c (by omega) hc] at hz
      obtain rfl := Option.some.inj hz
      have hR := rndR_le (svalZ x + svalZ c).natAbs
      generalize hsg : (if svalZ x + svalZ c = 0 then (x / 2147483648 % 2 == 1) && (c / 2147483648 % 2 == 1) else decide (svalZ x + svalZ c < 0)) = sg
      obtain ⟨w1, w2, w3, w4⟩ := word_facts sg (rndR (svalZ x + svalZ c).natAbs) (by omega)
      refine ⟨w1, by omega, .inr ⟨by omega, sg, ?_, ?_, ?_⟩⟩
      · intro hne; rw [← hsg, if_neg hne]
      · intro h0 hsT
        rw [if_pos h0, hsT] at hsg
        simp only [Bool.and_eq_true, beq_iff_eq] at hsg
        obtain ⟨q1, q2⟩ := hsg
        refine ⟨?_, by omega⟩
        unfold svalZ at h0 ⊢
        rw [if_pos q1, if_pos q2] at h0
        rw [if_pos q1]
        omega
      · unfold ordK
        rw [w2]
        cases sg
        · rw [if_neg (fun e => by cases w4.1 e), if_neg (by decide)]
        · rw [if_pos (w4.2 rfl), if_pos rfl]
  obtain ⟨s1, s2, sK⟩ := key a s ha hra hs
  obtain ⟨t1, t2, tK⟩ := key b t hb hrb ht
  refine ⟨?_, s1, t1, s2, t2⟩
  have hinf : ∀ x, x < 4294967296 → rungN x = 2139095040 → svalZ x = if 2147483648 ≤ x then -(valN 2139095040 : Int) else (valN 2139095040 : Int) := by
    intro x hx hr
    unfold svalZ
    rw [hr]
    by_cases hb : 2147483648 ≤ x
    · rw [if_pos hb, if_pos (by omega)]
    · rw [if_neg hb, if_neg (by omega)]
  have hfin : ∀ x, rungN x ≤ 2139095040 → -(valN 2139095040 : Int) ≤ svalZ x ∧ svalZ x ≤ (valN 2139095040 : Int) := by
    intro x hr
    have : valN (rungN x) ≤ valN 2139095040 := by
      rcases Nat.lt_or_ge (rungN x) 2139095040 with h | h
      · exact Nat.le_of_lt (valN_lt h)
      · rw [show rungN x = 2139095040 by omega]; exact Nat.le_refl _
    unfold svalZ
    split <;> omega
  have fa := hfin a hra
  have fb := hfin b hrb
  have hV : 0 < valN 2139095040 := valN_pos (by decide)
  rcases sK with ⟨ia, ka⟩ | ⟨ia, sg, h1, h2, ka⟩
  · have va := hinf a ha ia
    have hlow : 2147483648 ≤ a := by
      by_cases h : 2147483648 ≤ a
      · exact h
      · rw [if_neg h] at va; omega
    rw [if_pos hlow] at ka
    rw [ka]
    unfold ordK
    split <;> omega
  · rcases tK with ⟨ib, kb⟩ | ⟨ib, sh, g1, g2, kb⟩
    · have vb := hinf b hb ib
      have hlow : ¬ 2147483648 ≤ b := by
        intro h
        rw [if_pos h] at vb; omega
      rw [if_neg hlow] at kb
      rw [kb]
      unfold ordK
      split <;> omega
    · rw [ka, kb]
      generalize hA : svalZ a + svalZ c = A at *
      generalize hB : svalZ b + svalZ c = B at *
      have hAB : A < B := by omega
      have mono : ∀ {u v : Nat}, u ≤ v → rndR u ≤ rndR v := fun h => rndR_mono h
      cases sg
      · -- A is not below 0 (or 0)
        have hA0 : 0 ≤ A := by
          by_cases h : A = 0
          · omega
          · have := h1 h; simp at this; omega
        have hsh : sh = false := by
          have := g1 (by omega)
          rw [this]; simp; omega
        rw [hsh]
        simp only [Bool.false_eq_true, if_false]
        have := mono (show A.natAbs ≤ B.natAbs by omega)
        omega
      · simp only [if_true]
        cases sh
        · simp only [Bool.false_eq_true, if_false]
          omega
        · simp only [if_true]
          -- B below 0, or 0 with both noughts below 0
          have hB0 : B ≤ 0 := by
            by_cases h : B = 0
            · omega
            · have := g1 h; simp at this; omega
          have := mono (show B.natAbs ≤ A.natAbs by omega)
          omega

end Go.Proofs.YtnjbdaonmgadaaaGreatDoor

