/- Products and quotients of reals of 32 bits: those of their worths, rounded to the nearest float as the document finds it. -/
import Derived.Test.YthdibaeelbkghaaGreatDoorNearW
namespace Go.Proofs.YthdibaeelbkghaaGreatDoor
open Go.RowKit Go.PlainAid

/-- a rung by its digits and its place -/
theorem valN_at (e t : Nat) (h1 : t < 16777216) (h2 : e = 0 ∨ 8388608 ≤ t) : valN (e * 8388608 + t) = t * 2 ^ e := by
  unfold valN
  rcases h2 with rfl | h2
  · by_cases h : t < 8388608
    · rw [if_pos (by omega)]; simp
    · rw [if_neg (by omega), show (0 * 8388608 + t) / 8388608 = 1 by omega, show (0 * 8388608 + t) % 8388608 = t - 8388608 by omega]
      simp; omega
  · rw [if_neg (by omega), show (e * 8388608 + t) / 8388608 - 1 = e by omega, show 8388608 + (e * 8388608 + t) % 8388608 = t by omega]
theorem valN_next (e t : Nat) (h1 : t < 16777216) (h2 : e = 0 ∨ 8388608 ≤ t) : valN (e * 8388608 + t + 1) = (t + 1) * 2 ^ e := by
  rw [valN_succ, valN_at e t h1 h2, Nat.succ_mul]
  congr 1
  rcases h2 with rfl | h2
  · by_cases h : t < 8388608
    · rw [if_pos (by omega)]
    · rw [if_neg (by omega), show (0 * 8388608 + t) / 8388608 = 1 by omega]
  · rw [if_neg (by omega), show (e * 8388608 + t) / 8388608 - 1 = e by omega]

/-- the rung below V over B is one alone -/
theorem near_floor (V B L n : Nat) (l1 : n ≤ 2139095040) (l2 : valN n * B ≤ V) (l3 : n = 2139095040 ∨ V < valN (n + 1) * B) (lo : valN L * B ≤ V) (hi : V < valN (L + 1) * B) :
    (if n = 2139095040 then n else if (decide ((valN n + valN (n + 1)) * B < 2 * V) || (decide (2 * V = (valN n + valN (n + 1)) * B) && decide (n % 2 = 1))) = true then n + 1 else n) =
      min (L + (decide ((valN L + valN (L + 1)) * B < 2 * V) || (decide (2 * V = (valN L + valN (L + 1)) * B) && decide (L % 2 = 1))).toNat) 2139095040 := by
  have a1 : n < L + 1 := by
    have := Nat.lt_of_le_of_lt l2 hi
    exact valN_iff.1 (Nat.lt_of_mul_lt_mul_right this)
  by_cases ho : n = 2139095040
  · rw [if_pos ho, Nat.min_eq_right (by omega)]; exact ho
  · rw [if_neg ho]
    have l3' : V < valN (n + 1) * B := by rcases l3 with h | h; exact absurd h ho; exact h
    have a2 : L < n + 1 := by
      have := Nat.lt_of_le_of_lt lo l3'
      exact valN_iff.1 (Nat.lt_of_mul_lt_mul_right this)
    obtain rfl : n = L := by omega
    have l1' : n + 1 ≤ 2139095040 := by omega
    generalize (decide ((valN n + valN (n + 1)) * B < 2 * V) || (decide (2 * V = (valN n + valN (n + 1)) * B) && decide (n % 2 = 1))) = b
    cases b
    · rw [if_neg (by decide), Nat.min_eq_left (by simp; omega)]; rfl
    · rw [if_pos rfl, Nat.min_eq_left (by simp; omega)]; rfl

/-- the float nearest to V over B, by the digits that are kept -/
theorem near_at (A V B t e n : Nat) (hV : A * 2 ^ 149 = V) (h1 : t < 16777216) (h2 : e = 0 ∨ 8388608 ≤ t) (lo : t * 2 ^ e * B ≤ V) (hi : V < (t + 1) * 2 ^ e * B) (hl : LowB A B n) :
    nearB A B n = min (e * 8388608 + (t + (decide ((2 * t + 1) * 2 ^ e * B < 2 * V) || (decide (2 * V = (2 * t + 1) * 2 ^ e * B) && decide (t % 2 = 1))).toNat)) 2139095040 := by
  obtain ⟨l1, l2, l3⟩ := hl
  have f1 := valN_at e t h1 h2
  have f2 := valN_next e t h1 h2
  rw [← f1] at lo
  rw [← f2] at hi
  have fs : (2 * t + 1) * 2 ^ e * B = (valN (e * 8388608 + t) + valN (e * 8388608 + t + 1)) * B := by
    rw [f1, f2, ← Nat.add_mul]; congr 2; omega
  rw [fs]
  have hpar : (e * 8388608 + t) % 2 = t % 2 := by omega
  rw [← hpar, ← Nat.add_assoc]
  unfold nearB upB
  rw [hV] at l2 l3 ⊢
  exact near_floor V B _ n l1 l2 l3 lo hi

/-- what is rounded (mag, at the place -149 + u - k) stands to all even numbers as V over B does -/
theorem near_core (neg ex : Bool) (mag u k A V B n : Nat) (hV : A * 2 ^ 149 = V) (hB : 0 < B) (hm : 0 < mag) (hb : (u = 0 ∧ ex = true) ∨ 25 ≤ mag.log2)
    (hc : ∀ z, (ex = true ∨ z % 2 = 0) → (mag < z ↔ V * 2 ^ k < z * 2 ^ u * B) ∧ (mag = z ↔ V * 2 ^ k = z * 2 ^ u * B)) (hl : LowB A B n) :
    Ieee.single.nearest neg mag (-149 + (u : Int) - k) = Ieee.single.word neg (nearB A B n) := by
  have e2 : Ieee.single.binade = 8388608 := by decide
  have e3 : Ieee.single.infRung = 2139095040 := by decide
  have e4 : Ieee.single.leastPlace = -149 := by decide
  have e5 : Ieee.single.fractionBits = 23 := rfl
  unfold Ieee.Format.nearest
  rw [if_neg (by omega)]
  simp only [e2, e3, e4, e5, cut_even]
  have g1 : 2 ^ mag.log2 ≤ mag := Nat.log2_self_le (by omega)
  have g2 : mag < 2 ^ (mag.log2 + 1) := Nat.lt_log2_self
  generalize mag.log2 = L at *
  obtain ⟨e, d, hed, he, hs, hd, hd3, hL, hLe⟩ : ∃ e d : Nat, e + k = d + u ∧ (max (-149 + (u : Int) - k + L - (23 : Nat)) (-149) - -149).toNat = e ∧ (-149 + (u : Int) - k - max (-149 + (u : Int) - k + L - (23 : Nat)) (-149)).toNat = 0 ∧ (max (-149 + (u : Int) - k + L - (23 : Nat)) (-149) - (-149 + (u : Int) - k)).toNat = d ∧ (ex = true ∨ 2 ≤ d) ∧ L ≤ d + 23 ∧ (e = 0 ∨ L = d + 23) := by
    refine ⟨(max (-149 + (u : Int) - k + L - (23 : Nat)) (-149) - -149).toNat, (max (-149 + (u : Int) - k + L - (23 : Nat)) (-149) - (-149 + (u : Int) - k)).toNat, ?_, rfl, ?_, rfl, ?_, ?_, ?_⟩
    · omega
    · omega
    · rcases hb with ⟨h1, h2⟩ | h
      · exact .inl h2
      · exact .inr (by omega)
    · omega
    · omega
  rw [he, hs, hd, Nat.shiftLeft_zero]
  clear he hs hd
  have hpow : 2 ^ e * 2 ^ k = 2 ^ d * 2 ^ u := by rw [← Nat.pow_add, ← Nat.pow_add, hed]
  have hp : 0 < 2 ^ d := Nat.two_pow_pos d
  have hk : 0 < 2 ^ k := Nat.two_pow_pos k
  have hdm := Nat.div_add_mod mag (2 ^ d)
  have hlt := Nat.mod_lt mag hp
  have ht1 : mag / 2 ^ d < 16777216 := by
    rw [Nat.div_lt_iff_lt_mul hp, show (16777216 : Nat) = 2 ^ 24 from rfl, ← Nat.pow_add]
    exact Nat.lt_of_lt_of_le g2 (Nat.pow_le_pow_right (by decide) (by omega))
  have ht2 : e = 0 ∨ 8388608 ≤ mag / 2 ^ d := by
    rcases hLe with h | h
    · exact .inl h
    · refine .inr ?_
      rw [Nat.le_div_iff_mul_le hp, show (8388608 : Nat) = 2 ^ 23 from rfl, ← Nat.pow_add]
      exact Nat.le_trans (Nat.pow_le_pow_right (by decide) (by omega)) g1
  -- a whole number of units, put in parts
  have hz : ∀ z, z * 2 ^ e * B * 2 ^ k = z * 2 ^ d * 2 ^ u * B := fun z => by
    rw [Nat.mul_right_comm, Nat.mul_assoc z, hpow, ← Nat.mul_assoc]
  have hev : ∀ z, ex = true ∨ z * 2 ^ d % 2 = 0 := fun z => by
    rcases hd3 with h | h
    · exact .inl h
    · obtain ⟨d', rfl⟩ : ∃ d', d = d' + 1 := ⟨d - 1, by omega⟩
      refine .inr ?_
      rw [Nat.pow_succ, ← Nat.mul_assoc]; omega
  have hcmp : ∀ z, (mag < z * 2 ^ d ↔ V < z * 2 ^ e * B) ∧ (mag = z * 2 ^ d ↔ V = z * 2 ^ e * B) := fun z => by
    obtain ⟨c1, c2⟩ := hc (z * 2 ^ d) (hev z)
    rw [← hz] at c1 c2
    exact ⟨c1.trans (Nat.mul_lt_mul_right hk), c2.trans ⟨fun h => Nat.eq_of_mul_eq_mul_right hk h, fun h => by rw [h]⟩⟩
  -- the middle
  have hmid : ∀ t, (2 * mag < (2 * t + 1) * 2 ^ d ↔ 2 * V < (2 * t + 1) * 2 ^ e * B) ∧ (2 * mag = (2 * t + 1) * 2 ^ d ↔ 2 * V = (2 * t + 1) * 2 ^ e * B) := fun t => by
    have hy := hz (2 * t + 1)
    rcases hd3 with h | h
    · -- exact
      have hx : V * 2 ^ k = mag * 2 ^ u * B := ((hc mag (.inl h)).2).1 rfl
      have hu : 0 < 2 ^ u := Nat.two_pow_pos u
      have hbu : 0 < 2 ^ u * B := Nat.mul_pos hu hB
      have hl : 2 * V * 2 ^ k = 2 * mag * (2 ^ u * B) := by rw [Nat.mul_assoc, hx]; simp only [Nat.mul_assoc]
      have hr : (2 * t + 1) * 2 ^ e * B * 2 ^ k = (2 * t + 1) * 2 ^ d * (2 ^ u * B) := by rw [hy]; simp only [Nat.mul_assoc]
      generalize (2 * t + 1) * 2 ^ e * B = S at *
      generalize (2 * t + 1) * 2 ^ d = T at *
      generalize 2 * V = V2 at *
      generalize 2 * mag = M2 at *
      constructor
      · rw [← Nat.mul_lt_mul_right (b := M2) hbu, ← Nat.mul_lt_mul_right (b := V2) hk, hl, hr]
      · constructor
        · intro h5
          refine Nat.eq_of_mul_eq_mul_right hk ?_
          rw [hl, hr, h5]
        · intro h5
          refine Nat.eq_of_mul_eq_mul_right hbu ?_
          rw [← hl, ← hr, h5]
    · obtain ⟨d', rfl⟩ : ∃ d', d = d' + 2 := ⟨d - 2, by omega⟩
      have hq : (2 * t + 1) * 2 ^ (d' + 2) = 2 * ((2 * t + 1) * 2 ^ (d' + 1)) := by
        rw [Nat.pow_succ 2 (d' + 1), ← Nat.mul_assoc, Nat.mul_comm]
      obtain ⟨c1, c2⟩ := hc ((2 * t + 1) * 2 ^ (d' + 1)) (.inr (by rw [Nat.pow_succ, ← Nat.mul_assoc]; omega))
      rw [hq, Nat.mul_assoc 2, Nat.mul_assoc 2] at hy
      rw [hq]
      generalize (2 * t + 1) * 2 ^ (d' + 1) = Z at *
      generalize Z * 2 ^ u * B = Y at *
      generalize (2 * t + 1) * 2 ^ e * B = S at *
      have y1 : V * 2 ^ k < Y ↔ 2 * V < S := by
        rw [← Nat.mul_lt_mul_right (b := 2 * V) hk, hy, Nat.mul_assoc]; omega
      have y2 : V * 2 ^ k = Y ↔ 2 * V = S := by
        constructor
        · intro h5
          refine Nat.eq_of_mul_eq_mul_right hk ?_
          rw [hy, Nat.mul_assoc, h5]
        · intro h5
          rw [← h5, Nat.mul_assoc] at hy; omega
      exact ⟨Iff.trans (by omega) (c1.trans y1), Iff.trans (by omega) (c2.trans y2)⟩
  have lo : mag / 2 ^ d * 2 ^ e * B ≤ V := by
    refine Nat.le_of_not_lt fun h => ?_
    have := ((hcmp (mag / 2 ^ d)).1).2 h
    rw [Nat.mul_comm] at this; omega
  have hi : V < (mag / 2 ^ d + 1) * 2 ^ e * B := by
    refine ((hcmp (mag / 2 ^ d + 1)).1).1 ?_
    rw [Nat.succ_mul, Nat.mul_comm (mag / 2 ^ d)]; omega
  rw [near_at A V B (mag / 2 ^ d) e n hV ht1 ht2 lo hi hl]
  refine congrArg (fun x => Ieee.single.word neg (min (e * 8388608 + x) 2139095040)) ?_
  unfold rne rneB
  obtain ⟨m1, m2⟩ := hmid (mag / 2 ^ d)
  have hx : (2 * (mag / 2 ^ d) + 1) * 2 ^ d = 2 * (2 ^ d * (mag / 2 ^ d)) + 2 ^ d := by
    rw [Nat.succ_mul, Nat.mul_assoc, Nat.mul_comm (mag / 2 ^ d)]
  rw [hx] at m1 m2
  have q1 : decide (2 ^ d < 2 * (mag % 2 ^ d)) = decide ((2 * (mag / 2 ^ d) + 1) * 2 ^ e * B < 2 * V) := by
    apply decide_eq_decide.2
    generalize (2 * (mag / 2 ^ d) + 1) * 2 ^ e * B = S at *
    generalize mag % 2 ^ d = r at *
    generalize 2 ^ d * (mag / 2 ^ d) = q at *
    generalize 2 ^ d = p at *
    omega
  have q2 : (2 ^ d == 2 * (mag % 2 ^ d)) = decide (2 * V = (2 * (mag / 2 ^ d) + 1) * 2 ^ e * B) := by
    rw [Bool.eq_iff_iff]
    simp only [beq_iff_eq, decide_eq_true_eq]
    rw [← m2]
    generalize mag % 2 ^ d = r at *
    generalize 2 ^ d * (mag / 2 ^ d) = q at *
    generalize 2 ^ d = p at *
    omega
  have q3 : (mag / 2 ^ d % 2 == 1) = decide (mag / 2 ^ d % 2 = 1) := by
    rw [Bool.eq_iff_iff]
    simp only [beq_iff_eq, decide_eq_true_eq]
  rw [q1, q2, q3]

theorem near_nought (B n : Nat) (hB : 0 < B) (hl : LowB 0 B n) : nearB 0 B n = 0 := by
  obtain ⟨l1, l2, l3⟩ := hl
  rw [Nat.zero_mul] at l2
  have h0 : n = 0 := by
    refine Decidable.byContradiction fun h => ?_
    have h1 : valN 0 < valN n := valN_lt (by omega)
    have := Nat.mul_pos (show 0 < valN n by omega) hB
    omega
  subst h0
  unfold nearB upB
  have h1 : 0 < (valN 0 + valN (0 + 1)) * B := Nat.mul_pos (by decide) hB
  have h2 : 2 * (0 * 2 ^ 149) = 0 := by rw [Nat.zero_mul]
  rw [if_neg (by decide), decide_eq_false (show ¬ (valN 0 + valN (0 + 1)) * B < 2 * (0 * 2 ^ 149) by rw [h2]; omega), decide_eq_false (show ¬ 2 * (0 * 2 ^ 149) = (valN 0 + valN (0 + 1)) * B by rw [h2]; omega)]
  rfl

theorem near_whole (A V B X n : Nat) (hV : A * 2 ^ 149 = V) (hB : 0 < B) (hx : V = X * B) (hl : LowB A B n) : nearB A B n = rndR X := by
  obtain ⟨l1, l2, l3⟩ := hl
  rw [hV, hx] at l2 l3
  have hlow : Low X n := ⟨l1, Nat.le_of_mul_le_mul_right l2 hB, by
    rcases l3 with h | h
    · exact .inl h
    · exact .inr (Nat.lt_of_mul_lt_mul_right h)⟩
  rw [← near_rnd X n hlow]
  unfold nearB nearN upB
  rw [hV, hx, ← Nat.mul_assoc]
  have c1 : decide ((valN n + valN (n + 1)) * B < 2 * X * B) = decide (valN n + valN (n + 1) < 2 * X) := by
    apply decide_eq_decide.2; exact Nat.mul_lt_mul_right hB
  have c2 : decide (2 * X * B = (valN n + valN (n + 1)) * B) = decide (2 * X = valN n + valN (n + 1)) := by
    apply decide_eq_decide.2; exact ⟨fun h => Nat.eq_of_mul_eq_mul_right hB h, fun h => by rw [h]⟩
  rw [c1, c2]

/-- a product of two finite reals: that of their worths, rounded -/
theorem mul_num (a c A V B n : Nat) (ha : rungN a < 2139095040) (hc : rungN c < 2139095040) (hV : A * 2 ^ 149 = V) (hB : 0 < B) (hx : V * 2 ^ 149 = valN (rungN a) * valN (rungN c) * B) (hl : LowB A B n) :
    Ieee.single.mul a c = some (Ieee.single.word ((a / 2147483648 % 2 == 1) ^^ (c / 2147483648 % 2 == 1)) (nearB A B n)) := by
  obtain ⟨m, i, ra, va⟩ := read_num a ha
  obtain ⟨m', j, rc, vc⟩ := read_num c hc
  unfold Ieee.Format.mul
  rw [ra, rc]
  simp only [Ieee.Datum.product, Option.map_some, Ieee.Format.write]
  generalize ((a / 2147483648 % 2 == 1) ^^ (c / 2147483648 % 2 == 1)) = neg
  have hx2 : V * 2 ^ 149 = m * m' * B * 2 ^ (i + j) := by
    rw [hx, ← va, ← vc, Nat.pow_add]
    rw [Nat.mul_mul_mul_comm m, Nat.mul_right_comm]
  clear hx va vc
  generalize m * m' = mag at *
  congr 1
  by_cases h0 : mag = 0
  · have hA : A = 0 := by
      have h1 : V * 2 ^ 149 = 0 := by rw [hx2, h0]; simp
      have h2 : V = 0 := by
        rcases Nat.mul_eq_zero.1 h1 with h | h
        · exact h
        · exact absurd h (Nat.pos_iff_ne_zero.1 (Nat.two_pow_pos 149))
      rw [h2] at hV
      rcases Nat.mul_eq_zero.1 hV with h | h
      · exact h
      · exact absurd h (Nat.pos_iff_ne_zero.1 (Nat.two_pow_pos 149))
    rw [hA] at hl ⊢
    rw [near_nought B n hB hl]
    unfold Ieee.Format.nearest
    rw [if_pos h0]
  by_cases hij : 149 ≤ i + j
  · obtain ⟨u, hu⟩ : ∃ u, i + j = u + 149 := ⟨i + j - 149, by omega⟩
    rw [hu, Nat.pow_add, ← Nat.mul_assoc] at hx2
    have h1 := Nat.eq_of_mul_eq_mul_right (Nat.two_pow_pos 149) hx2
    rw [Nat.mul_right_comm] at h1
    rw [near_whole A V B (mag * 2 ^ u) n hV hB h1 hl, ← nearest_rnd]
    congr 1
    omega
  · obtain ⟨k, hk⟩ : ∃ k, 149 = k + (i + j) := ⟨149 - (i + j), by omega⟩
    have h1 : V * 2 ^ k = mag * B := by
      refine Nat.eq_of_mul_eq_mul_right (Nat.two_pow_pos (i + j)) ?_
      rw [← hx2, Nat.mul_assoc, ← Nat.pow_add, ← hk]
    rw [← near_core neg true mag 0 k A V B n hV hB (by omega) (.inl ⟨rfl, rfl⟩) (fun z _ => by
      rw [h1, Nat.pow_zero, Nat.mul_one]
      exact ⟨(Nat.mul_lt_mul_right hB).symm, ⟨fun h => by rw [h], fun h => Nat.eq_of_mul_eq_mul_right hB h⟩⟩) hl]
    congr 1
    omega

/-- a quotient of two finite reals: that of their worths, rounded -/
theorem div_num (a c A V B n : Nat) (ha : rungN a < 2139095040) (hc : rungN c < 2139095040) (hc0 : valN (rungN c) ≠ 0) (hV : A * 2 ^ 149 = V) (hB : 0 < B) (hx : A * valN (rungN c) = valN (rungN a) * B) (hl : LowB A B n) :
    Ieee.single.div a c = some (Ieee.single.word ((a / 2147483648 % 2 == 1) ^^ (c / 2147483648 % 2 == 1)) (nearB A B n)) := by
  obtain ⟨m, i, ra, va⟩ := read_num a ha
  obtain ⟨y, j, rc, vc⟩ := read_num c hc
  unfold Ieee.Format.div
  rw [ra, rc]
  have hy : y ≠ 0 := fun h => hc0 (by rw [← vc, h, Nat.zero_mul])
  simp only [Ieee.Datum.quotient]
  rw [if_neg hy]
  simp only [Option.map_some, Ieee.Format.write]
  generalize ((a / 2147483648 % 2 == 1) ^^ (c / 2147483648 % 2 == 1)) = neg
  rw [show Ieee.single.fractionBits + 2 = 25 from rfl, Nat.shiftLeft_eq]
  obtain ⟨more, hmore⟩ : ∃ more, 25 + y.log2 - m.log2 = more := ⟨_, rfl⟩
  rw [hmore]
  have hx2 : A * (y * 2 ^ j) = m * 2 ^ i * B := by rw [vc, va]; exact hx
  clear hx va vc
  congr 1
  by_cases h0 : m = 0
  · have hA : A = 0 := by
      have h1 : A * (y * 2 ^ j) = 0 := by rw [hx2, h0]; simp
      rcases Nat.mul_eq_zero.1 h1 with h | h
      · exact h
      · exact absurd h (Nat.pos_iff_ne_zero.1 (Nat.mul_pos (by omega) (Nat.two_pow_pos j)))
    rw [hA] at hl ⊢
    rw [near_nought B n hB hl]
    unfold Ieee.Format.nearest
    rw [if_pos (by rw [h0]; simp)]
  have l1 : 2 ^ m.log2 ≤ m := Nat.log2_self_le h0
  have l2 : y < 2 ^ (y.log2 + 1) := Nat.lt_log2_self
  have hD : 2 ^ (25 + y.log2) ≤ m * 2 ^ more := by
    refine Nat.le_trans (Nat.pow_le_pow_right (by decide) (show 25 + y.log2 ≤ m.log2 + more by omega)) ?_
    rw [Nat.pow_add]; exact Nat.mul_le_mul_right _ l1
  have hq : 16777216 ≤ m * 2 ^ more / y := by
    rw [Nat.le_div_iff_mul_le (by omega)]
    refine Nat.le_trans ?_ hD
    rw [show 25 + y.log2 = 24 + (y.log2 + 1) by omega, Nat.pow_add 2 24]
    exact Nat.mul_le_mul (Nat.le_refl _) (Nat.le_of_lt l2)
  generalize hDD : m * 2 ^ more = D at *
  have hdm := Nat.div_add_mod D y
  have hlt := Nat.mod_lt D (show y > 0 by omega)
  obtain ⟨mag, hmag⟩ : ∃ mag, 2 * (D / y) + (D % y != 0).toNat = mag := ⟨_, rfl⟩
  rw [hmag]
  have hb : (D % y != 0).toNat ≤ 1 := Bool.toNat_le _
  have hbz : (D % y != 0).toNat = 0 ↔ D % y = 0 := by
    by_cases h : D % y = 0
    · simp [h]
    · simp [h]
  have hlog : 25 ≤ mag.log2 := by
    refine Nat.le_of_not_lt fun h => ?_
    have := (Nat.log2_lt (by omega : mag ≠ 0)).1 h
    omega
  have hw : V * 2 ^ (j + more + 1) * y = 2 * D * (2 ^ (149 + i) * B) := by
    rw [← hV, ← hDD, Nat.pow_succ 2 (j + more), Nat.pow_add 2 j, Nat.pow_add 2 149]
    have : A * 2 ^ 149 * (2 ^ j * 2 ^ more * 2) * y = A * (y * 2 ^ j) * (2 ^ 149 * 2 ^ more * 2) := by
      simp only [Nat.mul_assoc, Nat.mul_comm, Nat.mul_left_comm]
    rw [this, hx2]
    simp only [Nat.mul_assoc, Nat.mul_comm, Nat.mul_left_comm]
  rw [← near_core neg false mag (149 + i) (j + more + 1) A V B n hV hB (by omega) (.inr hlog) (fun z hz => by
    have hz2 : z % 2 = 0 := by rcases hz with h | h; cases h; exact h
    obtain ⟨h, rfl⟩ : ∃ h, z = 2 * h := ⟨z / 2, by omega⟩
    have hy0 : 0 < y := by omega
    have hub : 0 < 2 ^ (149 + i) * B := Nat.mul_pos (Nat.two_pow_pos _) hB
    have e1 : 2 * h * 2 ^ (149 + i) * B * y = 2 * (h * y) * (2 ^ (149 + i) * B) := by
      simp only [Nat.mul_assoc, Nat.mul_comm, Nat.mul_left_comm]
    generalize 2 * h * 2 ^ (149 + i) * B = Y at *
    generalize V * 2 ^ (j + more + 1) = X at *
    generalize 2 ^ (149 + i) * B = U at *
    have c1 : X < Y ↔ D < h * y := by
      rw [← Nat.mul_lt_mul_right (b := X) hy0, hw, e1, Nat.mul_lt_mul_right hub]; omega
    have c2 : X = Y ↔ D = h * y := by
      constructor
      · intro h5
        rw [h5, e1] at hw
        have := Nat.eq_of_mul_eq_mul_right hub hw
        omega
      · intro h5
        refine Nat.eq_of_mul_eq_mul_right hy0 ?_
        rw [hw, e1, h5]
    rw [c1, c2, ← Nat.div_lt_iff_lt_mul hy0]
    refine ⟨by omega, ?_⟩
    constructor
    · intro h5
      have h6 : D / y = h := by omega
      have h7 : D % y = 0 := hbz.1 (by omega)
      rw [h6, h7, Nat.mul_comm] at hdm
      omega
    · intro h5
      have h6 : D / y = h := by rw [h5]; exact Nat.mul_div_cancel _ hy0
      have h7 : D % y = 0 := by rw [h5]; exact Nat.mul_mod_left _ _
      have := hbz.2 h7
      omega) hl]
  congr 1
  omega
end Go.Proofs.YthdibaeelbkghaaGreatDoor
