/- A float's neighbours, in whole units. -/
import Derived.Test.YtnljpbpphdhnpaaGreatDoorTxB
import Derived.Test.YtnljpbpphdhnpaaGreatDoorTxP
import Derived.Test.YtnljpbpphdhnpaaGreatDoorNearW
import Derived.Test.YtnljpbpphdhnpaaGreatDoorTxQ

namespace Go.Proofs.YtnljpbpphdhnpaaGreatDoor

/-- ten to a place (from the 60th behind the point on), in units that hold all worths: 2 to the power -149 and ten to the power -60 -/
def Q60 : Nat := 10 ^ 60
def tP (P : Nat) : Nat := 10 ^ P * 2 ^ 149
def wN (n : Nat) : Nat := valN n * Q60
def l2N (n : Nat) : Nat := (valN (n - 1) + valN n) * Q60
def h2N (n : Nat) : Nat := (valN n + valN (n + 1)) * Q60
theorem tP_pos (P : Nat) : 0 < tP P := Nat.mul_pos (Nat.pow_pos (by decide)) (Nat.two_pow_pos _)
theorem tP_add (P k : Nat) : tP (P + k) = 10 ^ k * tP P := by
  unfold tP
  rw [Nat.pow_add, Nat.mul_comm (10 ^ P), Nat.mul_assoc]
theorem uN_scale (a b c : Nat) (hc : 0 < c) : uN (a * c) (b * c) = uN a b := by
  unfold uN
  rw [Nat.mul_mod_mul_right, Nat.mul_div_mul_right _ _ hc]
  have : a % b * c = 0 ↔ a % b = 0 := by
    rw [Nat.mul_eq_zero]
    omega
  by_cases h : a % b = 0
  · rw [if_pos h, if_pos (this.2 h)]
  · rw [if_neg h, if_neg (fun g => h (this.1 g))]
theorem u4_unit (n X : Nat) (hj : jF n ≤ 91) (hE : -149 ≤ atE n) : u4 n X = uN (X * 2 ^ (atE n + 149).toNat * Q60) (tP (91 - jF n)) := by
  unfold u4 tP
  rw [← uN_scale (X * 2 ^ (atE n).toNat * 10 ^ (jF n - 31)) _ (10 ^ (91 - jF n - (31 - jF n)) * 2 ^ (149 - (-(atE n)).toNat)) (Nat.mul_pos (Nat.pow_pos (by decide)) (Nat.two_pow_pos _))]
  have e1 : Q60 = 10 ^ (jF n - 31) * 10 ^ (91 - jF n - (31 - jF n)) := by
    unfold Q60
    rw [← Nat.pow_add]
    congr 1
    omega
  have e2 : (2 : Nat) ^ (atE n + 149).toNat = 2 ^ (atE n).toNat * 2 ^ (149 - (-(atE n)).toNat) := by
    rw [← Nat.pow_add]
    congr 1
    omega
  have e3 : (10 : Nat) ^ (91 - jF n) = 10 ^ (31 - jF n) * 10 ^ (91 - jF n - (31 - jF n)) := by
    rw [← Nat.pow_add]
    congr 1
    omega
  have e4 : (2 : Nat) ^ 149 = 2 ^ (-(atE n)).toNat * 2 ^ (149 - (-(atE n)).toNat) := by
    rw [← Nat.pow_add]
    congr 1
    omega
  rw [e1, e2, e3, e4]
  clear e1 e2 e3 e4
  generalize (2 : Nat) ^ (atE n).toNat = a
  generalize (2 : Nat) ^ (-(atE n)).toNat = b
  generalize (10 : Nat) ^ (jF n - 31) = c
  generalize (10 : Nat) ^ (31 - jF n) = d
  generalize (10 : Nat) ^ (91 - jF n - (31 - jF n)) = f
  generalize (2 : Nat) ^ (149 - (-(atE n)).toNat) = g
  congr 1
  · ac_rfl
  · ac_rfl

/-- a float's own step, in these units without the tens -/
def ulp (n : Nat) : Nat := 2 ^ (atE n + 149).toNat
theorem val_ulp (n : Nat) : valN n = atM n * ulp n := by
  unfold valN atM ulp atE
  by_cases h : n < 8388608
  · simp only [if_pos h]
    rw [show (-149 + 149 : Int).toNat = 0 by decide, Nat.pow_zero, Nat.mul_one]
  · simp only [if_neg h]
    congr 2
    omega
theorem val_up (n : Nat) : valN (n + 1) = valN n + ulp n := by
  rw [valN_succ]
  unfold ulp atE
  by_cases h : n < 8388608
  · simp only [if_pos h]
    rw [show (-149 + 149 : Int).toNat = 0 by decide, Nat.pow_zero]
  · simp only [if_neg h]
    congr 2
    omega
theorem val_down (n : Nat) (h1 : 1 ≤ n) : (skw n = false → valN n = valN (n - 1) + ulp n) ∧ (skw n = true → ∃ h, ulp n = 2 * h ∧ valN n = valN (n - 1) + h ∧ 1 ≤ h) := by
  obtain ⟨m, rfl⟩ : ∃ m, n = m + 1 := ⟨n - 1, by omega⟩
  rw [Nat.add_sub_cancel, valN_succ]
  unfold ulp atE skw
  constructor
  · intro hs
    simp at hs
    congr 1
    by_cases h : m + 1 < 8388608
    · rw [if_pos h, if_pos (by omega)]
      decide
    · rw [if_neg h]
      by_cases h2 : m < 8388608
      · have : m = 8388607 := by omega
        subst this
        decide
      · rw [if_neg h2]
        congr 1
        have : (m + 1) % 8388608 ≠ 0 := by
          intro h0
          have := hs h0
          omega
        omega
  · intro hs
    simp at hs
    obtain ⟨a, b⟩ := hs
    have h : ¬ m + 1 < 8388608 := by omega
    have h2 : ¬ m < 8388608 := by omega
    rw [if_neg h2]
    simp only [if_neg h]
    refine ⟨2 ^ (m / 8388608 - 1), ?_, rfl, Nat.one_le_two_pow⟩
    rw [← Nat.pow_succ']
    congr 1
    omega

def okN (k : Nat) : Prop := jN ((k : Int) - 149) ≤ 76 ∧ ((10 ^ (91 - jN ((k : Int) - 149)) * 2 ^ 149 < 2 ^ k * Q60 ∨ (2 ^ k * Q60) % (10 ^ (91 - jN ((k : Int) - 149)) * 2 ^ 149) = 0) ∧ 2 ^ k * Q60 < 10 * (10 ^ (91 - jN ((k : Int) - 149)) * 2 ^ 149))
def okS (k : Nat) : Prop := jS ((k : Int) - 149) ≤ 76 ∧ (4 * (10 ^ (91 - jS ((k : Int) - 149)) * 2 ^ 149) < 3 * (2 ^ k * Q60) ∧ 3 * (2 ^ k * Q60) < 40 * (10 ^ (91 - jS ((k : Int) - 149)) * 2 ^ 149))
instance (k : Nat) : Decidable (okN k) := by unfold okN; infer_instance
instance (k : Nat) : Decidable (okS k) := by unfold okS; infer_instance
theorem oks : ∀ k, k < 254 → okN k ∧ (1 ≤ k → okS k) := by decide +kernel
theorem at_facts2 (n : Nat) (h2 : n < 2139095040) : -149 ≤ atE n ∧ atE n ≤ 104 ∧ (skw n = true → -148 ≤ atE n) ∧ atM n % 2 = n % 2 ∧ (1 ≤ n → 1 ≤ atM n) ∧ (10 ≤ n → 10 ≤ atM n) := by
  unfold atE atM skw
  by_cases h : n < 8388608
  · simp only [if_pos h]
    refine ⟨by omega, by omega, fun hs => ?_, trivial, id, id⟩
    simp at hs
    omega
  · simp only [if_neg h]
    refine ⟨by omega, by omega, fun hs => ?_, by omega, fun _ => by omega, fun _ => by omega⟩
    simp at hs
    omega
theorem lin1 (v h z : Nat) : (v + (v + h)) * z = 2 * (v * z) + h * z := by
  simp only [Nat.add_mul]
  omega
theorem lin2 (v h z : Nat) : (v + h + (v + h + 2 * h)) * z = 2 * (v * z) + 4 * (h * z) := by
  simp only [Nat.add_mul, Nat.mul_assoc]
  omega
theorem lin3 (v h z : Nat) : (v + h + (v + h + h)) * z = 2 * (v * z) + 3 * (h * z) := by
  simp only [Nat.add_mul]
  omega
theorem sp_of (n : Nat) (h1 : 1 ≤ n) (h2 : n < 2139095040) : Sp (tP (91 - jF n)) (wN n) (l2N n) (h2N n) (n % 2) ∧ tP (91 - jF n) ≤ wN n ∧ (10 ≤ n → 10 * tP (91 - jF n) ≤ wN n) ∧ jF n ≤ 76 := by
  obtain ⟨a1, a2, a3, a4, a5, a6⟩ := at_facts2 n h2
  have hv := val_ulp n
  have hu := val_up n
  obtain ⟨d1, d2⟩ := val_down n h1
  obtain ⟨k, hk⟩ : ∃ k : Nat, atE n = (k : Int) - 149 := ⟨(atE n + 149).toNat, by omega⟩
  have hk2 : k < 254 := by omega
  have hul : ulp n = 2 ^ k := by unfold ulp; congr 1; omega
  have hp : 0 < 2 ^ k := Nat.two_pow_pos k
  have h60 : 0 < Q60 := Nat.pow_pos (by decide)
  have ht0 := tP_pos (91 - jF n)
  have hM := a5 h1
  by_cases hs : skw n = true
  · obtain ⟨b1, b2, b3⟩ := (oks k hk2).2 (by have := a3 hs; omega)
    obtain ⟨hh, e1, e2, e3⟩ := d2 hs
    have hj : jF n = jS ((k : Int) - 149) := by unfold jF; rw [if_pos hs, hk]
    rw [← hj] at b1 b2 b3
    change 4 * tP (91 - jF n) < _ at b2
    change _ < 40 * tP (91 - jF n) at b3
    have hM8 : 8388608 ≤ atM n := by
      unfold atM skw at *
      simp at hs
      rw [if_neg (by omega)]
      omega
    generalize tP (91 - jF n) = t at *
    rw [hul] at e1 hv hu
    have hb : 10 * t ≤ wN n := by
      unfold wN
      rw [hv, Nat.mul_assoc]
      have : 8388608 * (2 ^ k * Q60) ≤ atM n * (2 ^ k * Q60) := Nat.mul_le_mul_right _ hM8
      omega
    have f1 : wN n = valN (n - 1) * Q60 + hh * Q60 := by unfold wN; rw [e2, Nat.add_mul]
    have f2 : l2N n = 2 * (valN (n - 1) * Q60) + hh * Q60 := by
      unfold l2N
      rw [e2]
      exact lin1 _ _ _
    have f3 : h2N n = 2 * (valN (n - 1) * Q60) + 4 * (hh * Q60) := by
      unfold h2N
      rw [hu, e1, e2]
      exact lin2 _ _ _
    have f4 : 0 < hh * Q60 := Nat.mul_pos (by omega) h60
    rw [e1, Nat.mul_assoc 2 hh] at b2 b3
    rw [f1] at hb
    rw [f1, f2, f3]
    generalize valN (n - 1) * Q60 = y at *
    generalize hh * Q60 = x at *
    exact ⟨⟨ht0, by omega, by omega, by omega, by omega, .inl (by omega), by omega⟩, by omega, fun _ => hb, b1⟩
  · have hs0 : skw n = false := by simpa using hs
    obtain ⟨b1, b2, b3⟩ := (oks k hk2).1
    have e2 := d1 hs0
    have hj : jF n = jN ((k : Int) - 149) := by unfold jF; rw [if_neg hs, hk]
    rw [← hj] at b1 b2 b3
    change tP (91 - jF n) < _ ∨ _ % tP (91 - jF n) = 0 at b2
    change _ < 10 * tP (91 - jF n) at b3
    generalize tP (91 - jF n) = t at *
    rw [hul] at e2 hv hu
    have hw : wN n = atM n * (2 ^ k * Q60) := by unfold wN; rw [hv, Nat.mul_assoc]
    have f0 : 0 < 2 ^ k * Q60 := Nat.mul_pos hp h60
    have f1 : wN n = valN (n - 1) * Q60 + 2 ^ k * Q60 := by unfold wN; rw [e2, Nat.add_mul]
    have f2 : l2N n = 2 * (valN (n - 1) * Q60) + 2 ^ k * Q60 := by
      unfold l2N
      rw [e2]
      exact lin1 _ _ _
    have f3 : h2N n = 2 * (valN (n - 1) * Q60) + 3 * (2 ^ k * Q60) := by
      unfold h2N
      rw [hu, e2]
      exact lin3 _ _ _
    have hge : 2 ^ k * Q60 ≤ wN n := by rw [f1]; omega
    have ht1 : t ≤ 2 ^ k * Q60 := by
      rcases b2 with b2 | b2
      · omega
      · exact Nat.le_of_dvd f0 (Nat.dvd_of_mod_eq_zero b2)
    have hm : 2 * t < 2 * (2 ^ k * Q60) ∨ wN n % t = 0 := by
      rcases b2 with b2 | b2
      · exact .inl (by omega)
      · right
        rw [hw]
        exact Nat.mod_eq_zero_of_dvd (Nat.dvd_mul_left_of_dvd (Nat.dvd_of_mod_eq_zero b2) _)
    have h10 : 10 ≤ n → 10 * t ≤ wN n := fun h => by
      have g1 : 10 * (2 ^ k * Q60) ≤ wN n := by rw [hw]; exact Nat.mul_le_mul_right _ (a6 h)
      omega
    rw [f1] at hm
    have h12 : 2 * t < h2N n - l2N n ∨ wN n % t = 0 := by
      rw [f1, f2, f3]
      rcases hm with hm | hm
      · left
        omega
      · exact .inr hm
    refine ⟨⟨ht0, by omega, by omega, by omega, by omega, h12, by omega⟩, by omega, h10, b1⟩

end Go.Proofs.YtnljpbpphdhnpaaGreatDoor

/- The library's digits without their noughts are what the document comes to. -/
namespace Go.Proofs.YtnljpbpphdhnpaaGreatDoor

theorem at_lo (n : Nat) : -149 ≤ atE n := by unfold atE; split <;> omega
theorem shN_units (n : Nat) (h1 : 1 ≤ n) (h2 : n < 2139095040) (hj : jF n ≤ 76) : shN n = shD (uN (2 * l2N n) (tP (91 - jF n))) (uN (2 * h2N n) (tP (91 - jF n))) (uN (4 * wN n) (tP (91 - jF n))) (n % 2) := by
  obtain ⟨a1, a2, a3, a4, a5, a6⟩ := at_facts2 n h2
  have hv := val_ulp n
  have hu := val_up n
  obtain ⟨d1, d2⟩ := val_down n h1
  have e1 : 4 * atM n * ulp n * Q60 = 4 * wN n := by unfold wN; rw [hv, Nat.mul_assoc 4, Nat.mul_assoc 4]
  have e2 : (4 * atM n + 2) * ulp n * Q60 = 2 * h2N n := by
    unfold h2N
    rw [hu, hv]
    generalize ulp n = u
    simp only [Nat.add_mul, Nat.mul_add, Nat.mul_assoc]
    omega
  have e3 : xlo n * ulp n * Q60 = 2 * l2N n := by
    unfold l2N xlo
    have hM := a5 h1
    by_cases hs : skw n = true
    · obtain ⟨h, f1, f2, f3⟩ := d2 hs
      rw [if_pos hs]
      have g1 : (4 * atM n - 1) * ulp n = 4 * valN n - ulp n := by rw [hv, Nat.sub_mul, Nat.mul_assoc, Nat.one_mul]
      rw [g1, ← Nat.mul_assoc]
      congr 1
      omega
    · have hs0 : skw n = false := by simpa using hs
      have f2 := d1 hs0
      rw [if_neg hs]
      have g1 : (4 * atM n - 2) * ulp n = 4 * valN n - 2 * ulp n := by rw [hv, Nat.sub_mul, Nat.mul_assoc]
      rw [g1, ← Nat.mul_assoc]
      congr 1
      omega
  unfold shN
  rw [u4_unit n _ (by omega) a1, u4_unit n _ (by omega) a1, u4_unit n _ (by omega) a1, a4]
  change shD (uN (xlo n * ulp n * Q60) _) (uN ((4 * atM n + 2) * ulp n * Q60) _) (uN (4 * atM n * ulp n * Q60) _) _ = _
  rw [e1, e2, e3]

/-- the digits q, so many, with the last one at ten to the power P - 60, are the library's without their noughts -/
def IsD (n q s P : Nat) : Prop := 1 ≤ s ∧ 10 ^ (s - 1) ≤ q ∧ q < 10 ^ s ∧ q % 10 ≠ 0 ∧ ∃ z : Nat, dF n = q * 10 ^ z ∧ (P : Int) - 60 = pF n + (z : Int)
theorem smallA : ∀ n, n < 10 → 1 ≤ n → (shN n).2 = 1 → n = 7 := by decide +kernel
theorem sevenA : dF 7 = 1 ∧ jF 7 = 76 ∧ wN 7 / tP 15 = 9 ∧ ¬ LiesI (l2N 7) (h2N 7) (7 % 2) (9 * tP 15) := by
  unfold LiesI
  decide +kernel
theorem in_one (t L2 H2 o x y : Nat) (thin : H2 - L2 < 20 * t) (hx : LiesI L2 H2 o (x * (10 * t))) (hy : LiesI L2 H2 o (y * (10 * t))) : x = y := by
  unfold LiesI at hx hy
  rcases Nat.lt_trichotomy x y with h | h | h
  · have : (x + 1) * (10 * t) ≤ y * (10 * t) := Nat.mul_le_mul_right _ h
    rw [Nat.add_mul] at this
    omega
  · exact h
  · have : (y + 1) * (10 * t) ≤ x * (10 * t) := Nat.mul_le_mul_right _ h
    rw [Nat.add_mul] at this
    omega
theorem out_prog (n q s P : Nat) (h1 : 1 ≤ n) (h2 : n < 2139095040) (hs : 1 ≤ s) (hk1 : tP (P + s - 1) ≤ wN n) (hk2 : wN n < tP (P + s)) (ht : Told (tP P) (wN n) (l2N n) (h2N n) (n % 2) q)
    (hno : s = 1 ∨ ∀ x, ¬ LiesI (l2N n) (h2N n) (n % 2) (x * (10 * tP P))) : (q ≠ 10 ^ s ∧ IsD n q s P) ∨ (q = 10 ^ s ∧ IsD n 1 1 (P + s)) := by
  obtain ⟨sp, big, big10, hj⟩ := sp_of n h1 h2
  have hsh := shN_units n h1 h2 hj
  have hD := shD_told _ _ _ _ _ sp
  rw [← hsh] at hD
  have hpF : pF n = ((91 - jF n : Nat) : Int) - 60 + ((shN n).2 : Int) := by unfold pF; omega
  have hdF : dF n = (shN n).1 := rfl
  rw [← hdF] at hD
  have hsm := fun h => smallA n h h1
  generalize hz : (shN n).2 = z0 at *
  clear hsh hdF
  have q1 : 10 ^ (s - 1) ≤ wN n / tP P := by
    rw [show P + s - 1 = P + (s - 1) by omega, tP_add] at hk1
    exact (Nat.le_div_iff_mul_le (tP_pos P)).2 hk1
  have q2 : wN n / tP P < 10 ^ s := by
    rw [tP_add] at hk2
    exact (Nat.div_lt_iff_lt_mul (tP_pos P)).2 hk2
  have q3 : 10 ^ (s - 1) ≤ q ∧ q ≤ 10 ^ s := by
    rcases ht with ⟨h, _⟩ | ⟨h, _⟩ <;> omega
  have hin := ht.liesI
  -- no tenth: not where one more place ahead would have done
  have hten : s ≠ 1 → q % 10 ≠ 0 := fun h hm => by
    refine (hno.resolve_left h) (q / 10) ?_
    rw [← Nat.mul_assoc, show q / 10 * 10 = q by omega]
    exact hin
  have hpow : s ≠ 1 → q ≠ 10 ^ s := fun h he => by
    refine hten h ?_
    rw [he]
    obtain ⟨r, rfl⟩ : ∃ r, s = r + 1 := ⟨s - 1, by omega⟩
    rw [Nat.pow_succ]
    exact Nat.mul_mod_left _ _
  have hlow : s = 1 → 91 - jF n ≤ P := fun h => by
    subst h
    rcases Nat.lt_or_ge P (91 - jF n) with g | g
    · exfalso
      obtain ⟨i, hi⟩ : ∃ i, 91 - jF n = P + 1 + i := ⟨91 - jF n - P - 1, by omega⟩
      rw [hi, tP_add] at big
      have : 1 * tP (P + 1) ≤ 10 ^ i * tP (P + 1) := Nat.mul_le_mul_right _ (Nat.one_le_pow _ _ (by decide))
      omega
    · exact g
  generalize hP0 : 91 - jF n = P0 at *
  rcases hD with ⟨rfl, hA⟩ | ⟨rfl, hB, hB2⟩
  · rcases Nat.lt_or_ge P0 P with g | g
    · obtain ⟨i, rfl⟩ : ∃ i, P = P0 + 1 + i := ⟨P - P0 - 1, by omega⟩
      have e : q * tP (P0 + 1 + i) = q * 10 ^ i * (10 * tP P0) := by
        rw [tP_add, tP_add, Nat.pow_one, Nat.mul_assoc]
      rw [e] at hin
      have hd := in_one _ _ _ _ _ _ sp.thin hA hin
      by_cases h : s = 1
      · subst h
        by_cases h10 : q = 10 ^ 1
        · right
          refine ⟨h10, by decide, by decide, by decide, by decide, i + 1, ?_, by rw [hpF]; omega⟩
          rw [hd, h10, show (10 : Nat) ^ 1 = 10 from rfl, Nat.pow_succ, Nat.one_mul, Nat.mul_comm]
        · left
          exact ⟨h10, by decide, q3.1, by omega, by simp at q3 h10; omega, i, hd, by rw [hpF]; omega⟩
      · left
        have := hpow h
        exact ⟨this, hs, q3.1, by omega, hten h, i, hd, by rw [hpF]; omega⟩
    · obtain ⟨i, rfl⟩ : ∃ i, P0 = P + i := ⟨P0 - P, by omega⟩
      by_cases h : s = 1
      · subst h
        have hi : i = 0 := by have := hlow rfl; omega
        subst hi
        rw [Nat.add_zero] at *
        by_cases hn : 10 ≤ n
        · exfalso
          have b := big10 hn
          have e : tP (P + 1) = 10 * tP P := by rw [tP_add, Nat.pow_one]
          omega
        · have h7 := hsm (by omega) rfl
          subst h7
          obtain ⟨s1, s2, s3, s4⟩ := sevenA
          have hP : P = 15 := by omega
          subst hP
          right
          have hq : q = 10 := by
            rcases ht with ⟨_, h, _⟩ | ⟨h, _⟩
            · rw [s3] at h
              exact absurd h s4
            · rw [s3] at h
              exact h
          refine ⟨hq, by decide, by decide, by decide, by decide, 0, by rw [s1], by rw [hpF]; omega⟩
      · exfalso
        refine (hno.resolve_left h) (dF n * 10 ^ i) ?_
        rw [tP_add] at hA
        rw [show dF n * 10 ^ i * (10 * tP P) = dF n * (10 * (10 ^ i * tP P)) by ac_rfl]
        exact hA
  · rcases Nat.lt_trichotomy P0 P with g | g | g
    · exfalso
      obtain ⟨i, rfl⟩ : ∃ i, P = P0 + 1 + i := ⟨P - P0 - 1, by omega⟩
      have e : q * tP (P0 + 1 + i) = q * 10 ^ i * (10 * tP P0) := by
        rw [tP_add, tP_add, Nat.pow_one, Nat.mul_assoc]
      rw [e] at hin
      exact hB2 _ hin
    · subst g
      left
      have hq := told_one _ _ _ _ _ _ _ ht hB
      have h10 : q % 10 ≠ 0 := fun hm => by
        refine hB2 (q / 10) ?_
        rw [← Nat.mul_assoc, show q / 10 * 10 = q by omega]
        exact hin
      have hne : q ≠ 10 ^ s := fun he => by
        refine h10 ?_
        rw [he]
        obtain ⟨r, rfl⟩ : ∃ r, s = r + 1 := ⟨s - 1, by omega⟩
        rw [Nat.pow_succ]
        exact Nat.mul_mod_left _ _
      refine ⟨hne, hs, q3.1, by omega, h10, 0, by rw [Nat.pow_zero, Nat.mul_one, hq], by rw [hpF]; omega⟩
    · exfalso
      by_cases h : s = 1
      · have := hlow h
        omega
      · obtain ⟨i, rfl⟩ : ∃ i, P0 = P + 1 + i := ⟨P0 - P - 1, by omega⟩
        refine (hno.resolve_left h) (dF n * 10 ^ i) ?_
        have hin2 := hB.liesI
        rw [tP_add, tP_add, Nat.pow_one] at hin2
        rw [show dF n * 10 ^ i * (10 * tP P) = dF n * (10 ^ i * (10 * tP P)) by ac_rfl]
        exact hin2
/-- where a tenth of these units would do, some number of them does: the document comes to an end -/
theorem some_in (n P : Nat) (h1 : 1 ≤ n) (h2 : n < 2139095040) (hP : P ≤ 91 - jF n) : ∃ x, LiesI (l2N n) (h2N n) (n % 2) (x * tP P) := by
  obtain ⟨sp, big, big10, hj⟩ := sp_of n h1 h2
  have hD := shD_told _ _ _ _ _ sp
  obtain ⟨i, hi⟩ : ∃ i, 91 - jF n = P + i := ⟨91 - jF n - P, by omega⟩
  rcases hD with ⟨_, h⟩ | ⟨_, h, _⟩
  · rw [hi, tP_add, ← Nat.mul_assoc, ← Nat.mul_assoc] at h
    exact ⟨_, h⟩
  · have h := h.liesI
    rw [hi, tP_add, ← Nat.mul_assoc] at h
    exact ⟨_, h⟩

end Go.Proofs.YtnljpbpphdhnpaaGreatDoor

/- The digits as bytes. -/
namespace Go.Proofs.YtnljpbpphdhnpaaGreatDoor

/-- the m digits of a number -/
def decL (q m : Nat) : List UInt8 := (List.range m).map fun j => Lib.dg q (m - 1 - j)
theorem decL_len (q m : Nat) : (decL q m).length = m := by simp [decL]
theorem dg_shift (q z i : Nat) : Lib.dg (q * 10 ^ z) (i + z) = Lib.dg q i := by
  unfold Lib.dg
  rw [Nat.pow_add, Nat.mul_div_mul_right _ _ (Nat.pow_pos (by decide))]
theorem dg_shift2 (q i : Nat) : Lib.dg q (i + 1) = Lib.dg (q / 10) i := by
  unfold Lib.dg
  rw [Nat.pow_succ, Nat.mul_comm, ← Nat.div_div_eq_div_mul]
theorem decL_succ (q m : Nat) : decL q (m + 1) = decL (q / 10) m ++ [UInt8.ofNat (48 + q % 10)] := by
  unfold decL
  rw [List.range_succ, List.map_append]
  congr 1
  · apply List.map_congr_left
    intro j hj
    have hj := List.mem_range.1 hj
    rw [show m + 1 - 1 - j = m - 1 - j + 1 by omega]
    exact dg_shift2 q _
  · simp [Lib.dg]
theorem decL_one (q : Nat) (h : q < 10) : decL q 1 = [UInt8.ofNat (48 + q)] := by
  simp [decL, Lib.dg]
  rw [Nat.mod_eq_of_lt h]
theorem isD_told (n q s P : Nat) (h1 : 1 ≤ n) (h2 : n < 2139095040) (h : IsD n q s P) : digs n = decL q s ∧ exF n = (P : Int) - 60 + s - 1 := by
  obtain ⟨hs, c1, c2, c3, z, c4, c5⟩ := h
  obtain ⟨d1, d2⟩ := dF_bounds n h1 h2
  obtain ⟨m1, m2, m3, m4⟩ := ndN_ok (dF n) d1 d2
  obtain ⟨t1, t2, t3, t4⟩ := tzN_ok (dF n) d1 d2
  have hl := digs_len n h1 h2
  have hg := fun j => digs_get n j h1 h2
  have h10 : 0 < 10 ^ z := Nat.pow_pos (by decide)
  have hnd : ndN (dF n) = s + z := by
    have b1 : 10 ^ (s - 1 + z) ≤ dF n := by rw [c4, Nat.pow_add]; exact Nat.mul_le_mul_right _ c1
    have b2 : dF n < 10 ^ (s + z) := by rw [c4, Nat.pow_add]; exact Nat.mul_lt_mul_of_pos_right c2 h10
    have b3 : 10 ^ (ndN (dF n) - 1) < 10 ^ (s + z) := by omega
    have b4 : 10 ^ (s - 1 + z) < 10 ^ ndN (dF n) := by omega
    have b5 := (Nat.pow_lt_pow_iff_right (show 1 < 10 by decide)).1 b3
    have b6 := (Nat.pow_lt_pow_iff_right (show 1 < 10 by decide)).1 b4
    omega
  have htz : tzN (dF n) = z := by
    rcases Nat.lt_trichotomy (tzN (dF n)) z with h | h | h
    · exfalso
      refine t4 ?_
      clear t1 t2 t3 m3 m4 hnd hl hg
      generalize tzN (dF n) = T at *
      obtain ⟨i, rfl⟩ : ∃ i, z = T + 1 + i := ⟨z - T - 1, by omega⟩
      rw [c4, show q * 10 ^ (T + 1 + i) = q * 10 ^ i * 10 * 10 ^ T by rw [Nat.pow_add, Nat.pow_add, Nat.pow_one]; ac_rfl, Nat.mul_div_cancel _ (Nat.pow_pos (by decide))]
      exact Nat.mul_mod_left _ _
    · exact h
    · exfalso
      have := t3 z h
      rw [c4, Nat.mul_div_cancel _ h10] at this
      exact c3 this
  have hnF : ndF n = s := by unfold ndF; omega
  refine ⟨?_, by unfold exF; omega⟩
  apply List.ext_getElem?
  intro j
  rcases Nat.lt_or_ge j s with hj | hj
  · rw [hg j (by omega), hnd]
    unfold decL
    rw [List.getElem?_map, List.getElem?_range hj]
    show some _ = some _
    rw [c4, show s + z - 1 - j = s - 1 - j + z by omega, dg_shift]
  · rw [List.getElem?_eq_none (by omega), List.getElem?_eq_none (by rw [decL_len]; exact hj)]

end Go.Proofs.YtnljpbpphdhnpaaGreatDoor

/- The document's neighbours, in whole units. -/
namespace Go.Proofs.YtnljpbpphdhnpaaGreatDoor

theorem wN_lt {a b : Nat} : wN a < wN b ↔ a < b := by
  unfold wN
  rw [Nat.mul_lt_mul_right (show 0 < Q60 by unfold Q60; exact Nat.pow_pos (by decide)), valN_iff]
theorem Q60_pos : 0 < Q60 := by unfold Q60; exact Nat.pow_pos (by decide)
theorem l2_eq (n : Nat) : l2N n = wN (n - 1) + wN n := by unfold l2N wN; rw [Nat.add_mul]
theorem h2_eq (n : Nat) : h2N n = wN n + wN (n + 1) := by unfold h2N wN; rw [Nat.add_mul]
/-- what is nearest, in these units -/
theorem near_C (n m c : Nat) (h1 : 1 ≤ n) (h2 : n < 2139095040) (hm : m ≤ 2139095040) (lo : wN m ≤ c) (hi : m = 2139095040 ∨ c < wN (m + 1)) :
    (if m = 2139095040 then m else if h2N m < 2 * c ∨ 2 * c = h2N m ∧ m % 2 = 1 then m + 1 else m) = n ↔ LiesI (l2N n) (h2N n) (n % 2) c := by
  unfold LiesI
  rw [l2_eq, h2_eq n]
  have s1 : wN n < wN (n + 1) := wN_lt.2 (by omega)
  have s0 : wN (n - 1) < wN n := wN_lt.2 (by omega)
  by_cases ht : m = 2139095040
  · rw [if_pos ht]
    subst ht
    have : wN (n + 1) ≤ wN 2139095040 := Nat.le_of_not_lt (fun g => by have := wN_lt.1 g; omega)
    constructor
    · intro e; omega
    · intro e; omega
  · rw [if_neg ht]
    have hi := hi.resolve_left ht
    rw [h2_eq m]
    rcases Nat.lt_or_ge n m with g | g
    · have g1 : wN (n + 1) ≤ wN m := Nat.le_of_not_lt (fun g => by have := wN_lt.1 g; omega)
      constructor
      · intro e
        split at e <;> omega
      · intro e
        omega
    · rcases Nat.lt_or_ge (m + 1) n with g2 | g2
      · have g1 : wN (m + 1) ≤ wN (n - 1) := Nat.le_of_not_lt (fun g => by have := wN_lt.1 g; omega)
        constructor
        · intro e
          split at e <;> omega
        · intro e
          omega
      · rcases Nat.lt_or_ge m n with g3 | g3
        · obtain rfl : n = m + 1 := by omega
          rw [Nat.add_sub_cancel] at *
          constructor
          · intro e
            split at e
            · omega
            · omega
          · intro e
            rw [if_pos (by omega)]
        · obtain rfl : n = m := by omega
          constructor
          · intro e
            split at e
            · omega
            · omega
          · intro e
            rw [if_neg (by omega)]
theorem near_iff (n A B m q P : Nat) (hB : 0 < B) (h1 : 1 ≤ n) (h2 : n < 2139095040) (hAB : A * Q60 = q * 10 ^ P * B) (hl : LowB A B m) : nearB A B m = n ↔ LiesI (l2N n) (h2N n) (n % 2) (q * tP P) := by
  obtain ⟨l1, l2, l3⟩ := hl
  have hQ := Q60_pos
  have e0 : A * 2 ^ 149 * Q60 = q * tP P * B := by
    unfold tP
    rw [show A * 2 ^ 149 * Q60 = A * Q60 * 2 ^ 149 by ac_rfl, hAB]
    ac_rfl
  have ew : ∀ k, valN k * B * Q60 = wN k * B := fun k => by unfold wN; ac_rfl
  have lo : wN m ≤ q * tP P := by
    have := Nat.mul_le_mul_right Q60 l2
    rw [e0, ew] at this
    exact Nat.le_of_mul_le_mul_right this hB
  have hi : m = 2139095040 ∨ q * tP P < wN (m + 1) := by
    rcases l3 with h | h
    · exact .inl h
    · right
      have := Nat.mul_lt_mul_of_pos_right h hQ
      rw [e0, ew] at this
      exact Nat.lt_of_mul_lt_mul_right this
  rw [← near_C n m (q * tP P) h1 h2 l1 lo hi]
  unfold nearB upB
  have eS : (valN m + valN (m + 1)) * B * Q60 = h2N m * B := by unfold h2N; ac_rfl
  have eV : 2 * (A * 2 ^ 149) * Q60 = 2 * (q * tP P) * B := by rw [Nat.mul_assoc 2, e0]; ac_rfl
  have c1 : (valN m + valN (m + 1)) * B < 2 * (A * 2 ^ 149) ↔ h2N m < 2 * (q * tP P) := by
    rw [← Nat.mul_lt_mul_right hQ, eS, eV, Nat.mul_lt_mul_right hB]
  have c2 : 2 * (A * 2 ^ 149) = (valN m + valN (m + 1)) * B ↔ 2 * (q * tP P) = h2N m := by
    constructor
    · intro h
      have : 2 * (A * 2 ^ 149) * Q60 = (valN m + valN (m + 1)) * B * Q60 := congrArg (· * Q60) h
      rw [eS, eV] at this
      exact Nat.eq_of_mul_eq_mul_right hB this
    · intro h
      have : 2 * (q * tP P) * B = h2N m * B := congrArg (· * B) h
      rw [← eS, ← eV] at this
      exact Nat.eq_of_mul_eq_mul_right hQ this
  simp only [Bool.or_eq_true, Bool.and_eq_true, decide_eq_true_eq, c1, c2]
theorem ten_scale (q P : Nat) (k : Int) (hk : k = (P : Int) - 60) : q * 10 ^ k.toNat * Q60 = q * 10 ^ P * 10 ^ (-k).toNat := by
  unfold Q60
  rw [Nat.mul_assoc, Nat.mul_assoc, ← Nat.pow_add, ← Nat.pow_add]
  congr 2
  omega
/-- how a number of tens stands to so many of a float's steps -/
theorem against_ten (n m q P : Nat) (k : Int) (hk : k = (P : Int) - 60) : cmpI ((q * 10 ^ k.toNat * 2 ^ (-(atE n)).toNat : Nat) : Int) ((m * 2 ^ (atE n).toNat * 10 ^ (-k).toNat : Nat) : Int) = cmpI ((q * tP P : Nat) : Int) ((m * ulp n * Q60 : Nat) : Int) := by
  have hE := at_lo n
  have hs : 0 < 2 ^ (149 - (-(atE n)).toNat) * Q60 := Nat.mul_pos (Nat.two_pow_pos _) Q60_pos
  have hB : 0 < 10 ^ (-k).toNat := Nat.pow_pos (by decide)
  rw [← cmp_scale _ _ _ hs, ← cmp_scale (q * tP P) _ _ hB]
  have e1 : (2 : Nat) ^ 149 = 2 ^ (-(atE n)).toNat * 2 ^ (149 - (-(atE n)).toNat) := by
    rw [← Nat.pow_add]
    congr 1
    omega
  have e2 : ulp n = 2 ^ (atE n).toNat * 2 ^ (149 - (-(atE n)).toNat) := by
    unfold ulp
    rw [← Nat.pow_add]
    congr 1
    omega
  have e3 := ten_scale q P k hk
  congr 2
  · unfold tP
    rw [e1, show q * 10 ^ k.toNat * 2 ^ (-(atE n)).toNat * (2 ^ (149 - (-(atE n)).toNat) * Q60) = q * 10 ^ k.toNat * Q60 * (2 ^ (-(atE n)).toNat * 2 ^ (149 - (-(atE n)).toNat)) by ac_rfl, e3]
    ac_rfl
  · rw [e2]
    ac_rfl
theorem against_w (n q P : Nat) (k : Int) (hk : k = (P : Int) - 60) : cmpI ((q * 10 ^ k.toNat * 2 ^ (-(atE n)).toNat : Nat) : Int) ((atM n * 2 ^ (atE n).toNat * 10 ^ (-k).toNat : Nat) : Int) = cmpI ((q * tP P : Nat) : Int) ((wN n : Nat) : Int) := by
  rw [against_ten n (atM n) q P k hk]
  unfold wN
  rw [val_ulp n]
theorem against_2w (n q P : Nat) (k : Int) (hk : k = (P : Int) - 60) : cmpI ((q * 10 ^ k.toNat * 2 ^ (-(atE n)).toNat : Nat) : Int) ((2 * atM n * 2 ^ (atE n).toNat * 10 ^ (-k).toNat : Nat) : Int) = cmpI ((q * tP P : Nat) : Int) ((2 * wN n : Nat) : Int) := by
  rw [against_ten n (2 * atM n) q P k hk]
  unfold wN
  rw [val_ulp n, Nat.mul_assoc 2, Nat.mul_assoc 2]
/-- where the document stands: s digits, the last at ten to the power P - 60, the first at K - 60 -/
structure FewI (n s P K : Nat) : Prop where
  pos : P + s = K + 1
  one : 1 ≤ s
  lo : tP K ≤ wN n
  hi : wN n < tP (K + 1)
  no : s = 1 ∨ ∀ x, ¬ LiesI (l2N n) (h2N n) (n % 2) (x * (10 * tP P))
theorem FewI.next {n s P K : Nat} (h1 : 1 ≤ n) (h2 : n < 2139095040) (h : FewI n s P K) (ha : ¬ LiesI (l2N n) (h2N n) (n % 2) (wN n / tP P * tP P)) (hb : ¬ LiesI (l2N n) (h2N n) (n % 2) ((wN n / tP P + 1) * tP P)) : 91 - jF n < P ∧ FewI n (s + 1) (P - 1) K := by
  obtain ⟨sp, _, _, hj⟩ := sp_of n h1 h2
  have hno : ∀ x, ¬ LiesI (l2N n) (h2N n) (n % 2) (x * tP P) := fun x hx => by
    rcases near_in _ _ _ _ _ x (tP_pos P) sp.ho sp.lo sp.hi hx with h | h
    · exact ha h
    · exact hb h
  have hP : 91 - jF n < P := by
    rcases Nat.lt_or_ge (91 - jF n) P with g | g
    · exact g
    · obtain ⟨x, hx⟩ := some_in n P h1 h2 g
      exact absurd hx (hno x)
  refine ⟨hP, by have := h.pos; omega, by omega, h.lo, h.hi, .inr ?_⟩
  have e : 10 * tP (P - 1) = tP P := by
    obtain ⟨r, rfl⟩ : ∃ r, P = r + 1 := ⟨P - 1, by omega⟩
    rw [Nat.add_sub_cancel, tP_add, Nat.pow_one]
  rw [e]
  exact hno
theorem ulp_le (n : Nat) (h1 : 1 ≤ n) (h2 : n < 2139095040) : wN n ≤ 16777216 * (ulp n * Q60) ∧ ulp n * Q60 ≤ h2N n - l2N n := by
  have hv := val_ulp n
  have hu := val_up n
  have hM := atM_lt n
  constructor
  · unfold wN
    rw [hv, Nat.mul_assoc]
    exact Nat.mul_le_mul_right _ (by omega)
  · rw [l2_eq, h2_eq]
    have s0 : wN (n - 1) < wN n := wN_lt.2 (by omega)
    have : wN (n + 1) = wN n + ulp n * Q60 := by unfold wN; rw [hu, Nat.add_mul]
    omega
theorem tP_lt {a b : Nat} (h : tP a < tP b) : a < b := by
  rcases Nat.lt_or_ge a b with g | g
  · exact g
  · exfalso
    obtain ⟨i, rfl⟩ : ∃ i, a = b + i := ⟨a - b, by omega⟩
    rw [tP_add] at h
    have : 1 * tP b ≤ 10 ^ i * tP b := Nat.mul_le_mul_right _ (Nat.one_le_pow _ _ (by decide))
    omega
theorem FewI.small {n s P K : Nat} (h1 : 1 ≤ n) (h2 : n < 2139095040) (h : FewI n s P K) : s ≤ 10 ∧ 91 - jF n ≤ P ∧ jF n ≤ 76 := by
  obtain ⟨sp, big, _, hj⟩ := sp_of n h1 h2
  have hp := h.pos
  have ho := h.one
  have hP : 91 - jF n ≤ P := by
    rcases h.no with g | g
    · have : tP (91 - jF n) < tP (K + 1) := Nat.lt_of_le_of_lt big h.hi
      have := tP_lt this
      omega
    · rcases Nat.lt_or_ge P (91 - jF n) with g2 | g2
      · exfalso
        obtain ⟨x, hx⟩ := some_in n (P + 1) h1 h2 (by omega)
        rw [tP_add, Nat.pow_one] at hx
        exact g x hx
      · exact g2
  refine ⟨?_, hP, hj⟩
  obtain ⟨u1, u2⟩ := ulp_le n h1 h2
  have ht := sp.thin
  have hlo := h.lo
  have : tP K < tP (91 - jF n + 9) := by
    rw [tP_add]
    have e : 10 ^ 9 * tP (91 - jF n) = 1000000000 * tP (91 - jF n) := by congr 1
    rw [e]
    omega
  have := tP_lt this
  omega
theorem K_small {n K : Nat} (h2 : n < 2139095040) (h : tP K ≤ wN n) : K ≤ 99 := by
  obtain ⟨a1, a2, _⟩ := at_facts2 n h2
  have hM := atM_lt n
  have : wN n < tP 100 := by
    unfold wN tP Q60
    rw [val_ulp]
    have hu : ulp n ≤ 2 ^ 253 := by unfold ulp; exact Nat.pow_le_pow_right (by decide) (by omega)
    have : atM n * ulp n ≤ 16777216 * 2 ^ 253 := Nat.mul_le_mul (by omega) hu
    exact Nat.lt_of_le_of_lt (Nat.mul_le_mul_right _ this) (by decide)
  have := tP_lt (Nat.lt_of_le_of_lt h this)
  omega
theorem K_start {n : Nat} (h1 : 1 ≤ n) : tP 0 ≤ wN n := by
  have : wN 0 < wN n := wN_lt.2 (by omega)
  have h : 1 ≤ valN n := valN_pos h1
  unfold wN tP Q60
  exact Nat.le_trans (by decide) (Nat.mul_le_mul_right (10 ^ 60) h)

end Go.Proofs.YtnljpbpphdhnpaaGreatDoor

/- The program's Text, of every float32. -/
namespace Go.Proofs.YtnljpbpphdhnpaaGreatDoor
open Go.RowKit Go.PlainAid

/-- the text of the real of number n: 0, one above it, the infinite one -/
def textU (n : Nat) : List UInt8 := if n = 0 then [48, 46, 48] else if n = 2139095040 then [105, 110, 102] else textB n
/-- the text of any real -/
def textR (x : Nat) : List UInt8 := if nanB x = true then [110, 97, 110] else if belowB x = true then 45 :: textU (x - 2147483648) else textU x
theorem plainB_len (l : List UInt8) (k : Int) (hl : l.length ≤ 20) (hk : -100 ≤ k ∧ k ≤ 100) : (plainB l k).length ≤ 300 := by
  unfold plainB
  split
  · simp only [List.length_append, List.length_replicate, List.length_cons, List.length_nil]
    omega
  · split
    · simp only [List.length_append, List.length_replicate, List.length_cons, List.length_nil]
      omega
    · simp only [List.length_append, List.length_take, List.length_drop, List.length_cons, List.length_nil]
      omega
theorem textU_len (n : Nat) (h2 : n ≤ 2139095040) : (textU n).length ≤ 300 := by
  unfold textU
  split
  · decide
  · split
    · decide
    · have h1 : 1 ≤ n := by omega
      have h3 : n < 2139095040 := by omega
      have hl := digs_len n h1 h3
      have hb := ndF_le n h1 h3
      have hE := exF_bounds n h1 h3
      have hi := itoa_len (exF n) hE
      unfold textB
      split
      · have ho := orB_len ((digs n).drop 1)
        rw [List.length_drop] at ho
        simp only [List.length_append, List.length_take, List.length_cons, List.length_nil]
        omega
      · exact plainB_len _ _ (by omega) (by omega)
set_option maxRecDepth 1000000 in
theorem textAbove_all (n : Nat) (h2 : n ≤ 2139095040) (w : World) (hT : TabV w) : Calls Tryz.prog 16 #[.float .f32 n] w fun e w' => (∃ T : ByteArray, e = .returned (.string T) ∧ T.data.toList = textU n) ∧ Below w.heap.size w w' := by
  by_cases h0 : n = 0
  · subst h0
    have k1 : (FloatKind.f32.format.order 0 0 == some Ordering.eq) = true := by decide
    go_enter Tryz.func16, Tryz.ntmps16
    go_wp2
    go_ret
    exact ⟨⟨_, rfl, rfl⟩, Below.refl _ _⟩
  · by_cases h1 : n = 2139095040
    · subst h1
      have k1 : (FloatKind.f32.format.order 2139095040 0 == some Ordering.eq) = false := by decide
      have k2 : (FloatKind.f32.format.order 2139095040 2139095040 == some Ordering.eq) = true := by decide
      have hI := infinite_any false
      simp only [Bool.false_eq_true, if_false] at hI
      go_enter Tryz.func16, Tryz.ntmps16
      go_wp2_with (first
        | (go_at_call 27; refine (hI _).mono ?_; rintro e9 w9 ⟨rfl, hw9⟩; obtain rfl := hw9.symm))
      go_ret
      exact ⟨⟨_, rfl, rfl⟩, Below.refl _ _⟩
    · have e : textU n = textB n := by unfold textU; rw [if_neg h0, if_neg h1]
      rw [e]
      exact textAbove_any n (by omega) (by omega) w hT
set_option maxRecDepth 1000000 in
theorem text_any (x : Nat) (hx : x < 4294967296) (w : World) (hT : TabV w) : Calls Tryz.prog 6 #[.float .f32 x] w fun e w' => (∃ T : ByteArray, e = .returned (.string T) ∧ T.data.toList = textR x) ∧ Below w.heap.size w w' := by
  have hN := isNan_any x
  have hB := below0_any x hx
  by_cases hn : nanB x = true
  · have hR : textR x = [110, 97, 110] := by unfold textR; rw [if_pos hn]
    rw [hn] at hN
    rw [hR]
    clear hB
    go_enter Tryz.func6, Tryz.ntmps6
    go_wp2_with (first
      | (go_at_call 14; refine (hN _).mono ?_; rintro e9 w9 ⟨rfl, hw9⟩; obtain rfl := hw9.symm))
    go_ret
    exact ⟨⟨_, rfl, rfl⟩, Below.refl _ _⟩
  · have hn0 : nanB x = false := by simpa using hn
    have hle : x % 2147483648 ≤ 2139095040 := by
      unfold nanB at hn0
      have := of_decide_eq_false hn0
      omega
    rw [hn0] at hN
    by_cases hb : belowB x = true
    · have hx31 : 2147483648 ≤ x := by
        unfold belowB at hb
        simp at hb
        omega
      have hR : Hid (textR x = 45 :: textU (x - 2147483648)) := by show _ = _; unfold textR; rw [if_neg hn, if_pos hb]
      have hng : ∀ w, (Op.unary .neg (.float .f32 x)).run Tryz.prog w = .ok (.float .f32 (x - 2147483648)) w := fun w => by
        show Sem.run Tryz.prog (pure (Value.float .f32 (Op.negFloat .f32 x))) w = _
        rw [neg_high x hx31 hx]
        rfl
      have hle2 : x - 2147483648 ≤ 2139095040 := by omega
      have hA := textAbove_all (x - 2147483648) hle2 w hT
      have hlen := textU_len (x - 2147483648) hle2
      rw [hb] at hB
      generalize x - 2147483648 = y at *
      have HL : Hid (∀ T : ByteArray, T.data.toList = textU y → T.size ≤ 300) := fun T h => by
        have h3 : T.data.toList.length = T.size := Array.length_toList
        rw [← h3, h]
        exact hlen
      clear hlen hx31 hle hn hle2
      go_enter Tryz.func6, Tryz.ntmps6
      go_wp2_with (first
        | (go_at_call 14; refine (hN _).mono ?_; rintro e9 w9 ⟨rfl, hw9⟩; obtain rfl := hw9.symm)
        | (go_at_call 15; refine (hB _).mono ?_; rintro e9 w9 ⟨rfl, hw9⟩; obtain rfl := hw9.symm)
        | (go_at_call 16; refine hA.mono ?_; rintro e9 w1 ⟨⟨T, rfl, hT1⟩, hb1⟩; have HT1 : Hid (T.data.toList = textU y) := hT1; have hts := HL.out T hT1; clear hT1))
      go_ret
      exact ⟨⟨_, rfl, by rw [hR.out, ba_app, HT1.out]; rfl⟩, hb1⟩
    · have hb0 : belowB x = false := by simpa using hb
      have hx31 : x < 2147483648 := by
        unfold belowB at hb0
        rw [hn0] at hb0
        simp at hb0
        omega
      have hR : textR x = textU x := by unfold textR; rw [if_neg hn, if_neg hb]
      have hA := textAbove_all x (by omega) w hT
      rw [hb0] at hB
      rw [hR]
      clear hx31 hle hn hb hR hn0 hb0 hx
      go_enter Tryz.func6, Tryz.ntmps6
      go_wp2_with (first
        | (go_at_call 14; refine (hN _).mono ?_; rintro e9 w9 ⟨rfl, hw9⟩; obtain rfl := hw9.symm)
        | (go_at_call 15; refine (hB _).mono ?_; rintro e9 w9 ⟨rfl, hw9⟩; obtain rfl := hw9.symm)
        | (go_at_call 16; refine hA.mono ?_; rintro e9 w1 ⟨⟨T, rfl, hT1⟩, hb1⟩))
      go_ret
      exact ⟨⟨_, rfl, hT1⟩, hb1⟩
end Go.Proofs.YtnljpbpphdhnpaaGreatDoor
