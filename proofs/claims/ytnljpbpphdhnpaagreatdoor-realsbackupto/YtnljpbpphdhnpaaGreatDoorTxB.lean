/- What the document tells of a float's digits, in units of some power of ten, beside the library's way. -/
import Derived.Test.YtnljpbpphdhnpaaGreatDoorFtB
import Derived.Test.YtnljpbpphdhnpaaGreatDoorDoA
import Derived.Test.YtnljpbpphdhnpaaGreatDoorRlA
import Derived.Test.YtnljpbpphdhnpaaGreatDoorFtA
import Derived.Lib.AtoiErrMem

namespace Go.Proofs.YtnljpbpphdhnpaaGreatDoor

theorem uN_le (a t y : Nat) (ht : 0 < t) : uN a t ≤ 2 * y ↔ a ≤ 2 * y * t := by
  unfold uN
  have hd := Nat.div_add_mod a t
  have hm := Nat.mod_lt a ht
  by_cases h : a % t = 0
  · rw [if_pos h]
    rw [h, Nat.add_zero] at hd
    constructor
    · intro g
      rw [← hd, Nat.mul_comm]
      exact Nat.mul_le_mul_right t g
    · intro g
      exact Nat.div_le_of_le_mul (by rw [Nat.mul_comm]; exact g)
  · rw [if_neg h]
    constructor
    · intro g
      have g2 : a / t < 2 * y := by omega
      exact Nat.le_of_lt ((Nat.div_lt_iff_lt_mul ht).1 g2)
    · intro g
      have g2 : a < 2 * y * t := by
        rcases Nat.lt_or_eq_of_le g with h1 | h1
        · exact h1
        · exact absurd (by rw [h1]; exact Nat.mul_mod_left _ _) h
      have g3 := (Nat.div_lt_iff_lt_mul ht).2 g2
      omega
theorem uN_lt (a t y : Nat) (ht : 0 < t) : uN a t < 2 * y ↔ a < 2 * y * t := by
  unfold uN
  by_cases h : a % t = 0
  · rw [if_pos h]
    exact Nat.div_lt_iff_lt_mul ht
  · rw [if_neg h]
    rw [← Nat.div_lt_iff_lt_mul ht]
    omega

/-- does the number of c of these units lie where it is read as the float (all twice; o: is the float's number odd?) -/
def LiesI (L2 H2 o c : Nat) : Prop := L2 + o ≤ 2 * c ∧ 2 * c + o ≤ H2
theorem lo_iff (L2 t o x : Nat) (ht : 0 < t) (ho : o < 2) : (uN (2 * L2) t + o + 3) / 4 ≤ x ↔ L2 + o ≤ 2 * (x * t) := by
  have e1 : 2 * (2 * x) * t = 2 * (2 * (x * t)) := by rw [Nat.mul_assoc, Nat.mul_assoc]
  rcases Nat.lt_or_ge o 1 with h | h
  · have : o = 0 := by omega
    subst this
    have := uN_le (2 * L2) t (2 * x) ht
    rw [e1] at this
    omega
  · have : o = 1 := by omega
    subst this
    have := uN_lt (2 * L2) t (2 * x) ht
    rw [e1] at this
    omega
theorem hi_iff (H2 t o x : Nat) (ht : 0 < t) (ho : o < 2) (hx : 1 ≤ x ∨ o ≤ H2) : x ≤ (uN (2 * H2) t - o) / 4 ↔ 2 * (x * t) + o ≤ H2 := by
  have e1 : 2 * (2 * x) * t = 2 * (2 * (x * t)) := by rw [Nat.mul_assoc, Nat.mul_assoc]
  rcases Nat.lt_or_ge o 1 with h | h
  · have : o = 0 := by omega
    subst this
    have := uN_lt (2 * H2) t (2 * x) ht
    rw [e1] at this
    omega
  · have : o = 1 := by omega
    subst this
    have h1 := uN_le (2 * H2) t (2 * x) ht
    rw [e1] at h1
    rcases Nat.eq_zero_or_pos x with h0 | h0
    · subst h0
      simp at hx ⊢
      omega
    · omega
theorem rnd_q (N t : Nat) (ht : 0 < t) : rndU (uN (4 * N) t) = if 2 * N < (2 * (N / t) + 1) * t ∨ (2 * N = (2 * (N / t) + 1) * t ∧ N / t % 2 = 0) then N / t else N / t + 1 := by
  have hd := Nat.div_add_mod N t
  have hm := Nat.mod_lt N ht
  have a1 := uN_le (4 * N) t (2 * (N / t) + 1) ht
  have a2 := uN_lt (4 * N) t (2 * (N / t) + 1) ht
  have a3 := uN_lt (4 * N) t (2 * (N / t)) ht
  have a4 := uN_lt (4 * N) t (2 * (N / t) + 2) ht
  generalize N / t = q at *
  generalize uN (4 * N) t = u at *
  generalize N % t = r at *
  have e1 : 2 * (2 * q + 1) * t = 4 * (t * q) + 2 * t := by rw [Nat.mul_assoc, Nat.add_mul, Nat.mul_assoc 2 q, Nat.mul_comm q t]; omega
  have e2 : (2 * q + 1) * t = 2 * (t * q) + t := by rw [Nat.add_mul, Nat.mul_assoc 2 q, Nat.mul_comm q t]; omega
  have e3 : 2 * (2 * q) * t = 4 * (t * q) := by rw [Nat.mul_assoc, Nat.mul_assoc, Nat.mul_comm q t]; omega
  have e4 : 2 * (2 * q + 2) * t = 4 * (t * q) + 4 * t := by rw [Nat.mul_assoc, Nat.add_mul, Nat.mul_assoc 2 q, Nat.mul_comm q t]; omega
  rw [e1] at a1 a2
  rw [e3] at a3
  rw [e4] at a4
  rw [e2]
  generalize t * q = z at *
  unfold rndU
  have g1 : 4 * q ≤ u := by omega
  have g2 : u < 4 * q + 4 := by omega
  have g3 : u / 4 = q := by omega
  rw [g3]
  split <;> omega

/-- what both tell: a number of units of which no tenth lies there, or the only one of ten units -/
structure Sp (t N L2 H2 o : Nat) : Prop where
  t0 : 0 < t
  ho : o < 2
  lo : L2 < 2 * N
  hi : 2 * N < H2
  hh : H2 - 2 * N = 2 * N - L2 ∨ H2 - 2 * N = 2 * (2 * N - L2)
  wide : 2 * t < H2 - L2 ∨ N % t = 0
  thin : H2 - L2 < 20 * t
/-- q * t is what is told: in the way of the document, among the neighbours -/
def Told (t N L2 H2 o q : Nat) : Prop :=
  (q = N / t ∧ LiesI L2 H2 o (N / t * t) ∧ (LiesI L2 H2 o ((N / t + 1) * t) → 2 * N < (2 * (N / t) + 1) * t ∨ (2 * N = (2 * (N / t) + 1) * t ∧ N / t % 2 = 0))) ∨
  (q = N / t + 1 ∧ LiesI L2 H2 o ((N / t + 1) * t) ∧ (LiesI L2 H2 o (N / t * t) → ¬ (2 * N < (2 * (N / t) + 1) * t ∨ (2 * N = (2 * (N / t) + 1) * t ∧ N / t % 2 = 0))))
theorem Told.liesI {t N L2 H2 o q : Nat} (h : Told t N L2 H2 o q) : LiesI L2 H2 o (q * t) := by
  rcases h with ⟨rfl, h, _⟩ | ⟨rfl, h, _⟩ <;> exact h
/-- where some number of units lies there, a neighbour does -/
theorem near_in (t N L2 H2 o x : Nat) (ht : 0 < t) (ho : o < 2) (hlo : L2 < 2 * N) (hhi : 2 * N < H2) (hx : LiesI L2 H2 o (x * t)) : LiesI L2 H2 o (N / t * t) ∨ LiesI L2 H2 o ((N / t + 1) * t) := by
  have hd := Nat.div_add_mod N t
  have hm := Nat.mod_lt N ht
  rw [Nat.mul_comm] at hd
  rcases Nat.lt_or_ge (N / t) x with h | h
  · right
    have : (N / t + 1) * t ≤ x * t := Nat.mul_le_mul_right t h
    unfold LiesI at *
    rw [Nat.add_mul, Nat.one_mul] at *
    omega
  · left
    have : x * t ≤ N / t * t := Nat.mul_le_mul_right t h
    unfold LiesI at *
    omega
theorem told_of (t N L2 H2 o : Nat) (h : LiesI L2 H2 o (N / t * t) ∨ LiesI L2 H2 o ((N / t + 1) * t)) : ∃ q, Told t N L2 H2 o q := by
  unfold Told
  by_cases a : LiesI L2 H2 o (N / t * t)
  · by_cases b : LiesI L2 H2 o ((N / t + 1) * t)
    · by_cases c : 2 * N < (2 * (N / t) + 1) * t ∨ (2 * N = (2 * (N / t) + 1) * t ∧ N / t % 2 = 0)
      · exact ⟨_, .inl ⟨rfl, a, fun _ => c⟩⟩
      · exact ⟨_, .inr ⟨rfl, b, fun _ => c⟩⟩
    · exact ⟨_, .inl ⟨rfl, a, fun h => absurd h b⟩⟩
  · have b := h.resolve_left a
    exact ⟨_, .inr ⟨rfl, b, fun h => absurd h a⟩⟩
theorem told_one (t N L2 H2 o p q : Nat) (h1 : Told t N L2 H2 o p) (h2 : Told t N L2 H2 o q) : p = q := by
  rcases h1 with ⟨rfl, a1, b1⟩ | ⟨rfl, a1, b1⟩ <;> rcases h2 with ⟨rfl, a2, b2⟩ | ⟨rfl, a2, b2⟩
  · rfl
  · exact absurd (b1 a2) (b2 a1)
  · exact absurd (b2 a1) (b1 a2)
  · rfl
/-- the library's digits: of ten units, if one of these lies there; else what the document tells of the unit -/
theorem shD_told (t N L2 H2 o : Nat) (h : Sp t N L2 H2 o) :
    ((shD (uN (2 * L2) t) (uN (2 * H2) t) (uN (4 * N) t) o).2 = 1 ∧ LiesI L2 H2 o ((shD (uN (2 * L2) t) (uN (2 * H2) t) (uN (4 * N) t) o).1 * (10 * t))) ∨
    ((shD (uN (2 * L2) t) (uN (2 * H2) t) (uN (4 * N) t) o).2 = 0 ∧ Told t N L2 H2 o (shD (uN (2 * L2) t) (uN (2 * H2) t) (uN (4 * N) t) o).1 ∧ ∀ x, ¬ LiesI L2 H2 o (x * (10 * t))) := by
  obtain ⟨t0, ho, hlo, hhi, hh, wide, thin⟩ := h
  have l := fun x => lo_iff L2 t o x t0 ho
  have u := fun x => hi_iff H2 t o x t0 ho (.inr (by omega))
  have hr := rnd_q N t t0
  have hd := Nat.div_add_mod N t
  have hm := Nat.mod_lt N t0
  generalize uN (2 * L2) t = ul at *
  generalize uN (2 * H2) t = uh at *
  generalize uN (4 * N) t = um at *
  have liesI : ∀ x, LiesI L2 H2 o (x * t) ↔ (ul + o + 3) / 4 ≤ x ∧ x ≤ (uh - o) / 4 := fun x => by
    unfold LiesI
    rw [l x, u x]
  unfold shD
  generalize (ul + o + 3) / 4 = dl at *
  generalize (uh - o) / 4 = dh at *
  have liesI10 : ∀ x, LiesI L2 H2 o (x * (10 * t)) ↔ dl ≤ x * 10 ∧ x * 10 ≤ dh := fun x => by
    rw [← Nat.mul_assoc]
    exact liesI (x * 10)
  have hcx : ∀ x y z, x ≤ y → y ≤ z → LiesI L2 H2 o (x * t) → LiesI L2 H2 o (z * t) → LiesI L2 H2 o (y * t) := fun x y z h1 h2 g1 g2 => by
    rw [liesI] at *
    omega
  have hex : ∃ x, LiesI L2 H2 o (x * t) := by
    by_cases hN : N % t = 0
    · refine ⟨N / t, ?_⟩
      rw [Nat.mul_comm] at hd
      unfold LiesI
      omega
    · have hw := wide.resolve_right hN
      refine ⟨L2 / (2 * t) + 1, ?_⟩
      have d1 := Nat.div_add_mod L2 (2 * t)
      have d2 := Nat.mod_lt L2 (show 0 < 2 * t by omega)
      have e : 2 * ((L2 / (2 * t) + 1) * t) = 2 * t * (L2 / (2 * t)) + 2 * t := by
        rw [Nat.add_mul, Nat.one_mul, Nat.mul_add, Nat.mul_assoc 2 t, Nat.mul_comm t]
      unfold LiesI
      rw [e]
      omega
  obtain ⟨x0, hx0⟩ := hex
  have hx1 := (liesI x0).1 hx0
  obtain ⟨q, hq⟩ := told_of t N L2 H2 o (near_in t N L2 H2 o x0 t0 ho hlo hhi hx0)
  have hqi := (liesI q).1 hq.liesI
  by_cases c1 : dl ≤ dh / 10 * 10
  · rw [if_pos c1]
    exact .inl ⟨rfl, (liesI10 _).2 ⟨c1, by omega⟩⟩
  · rw [if_neg c1]
    have hno : ∀ x, ¬ LiesI L2 H2 o (x * (10 * t)) := fun x hx => by
      have := (liesI10 x).1 hx
      omega
    right
    by_cases c2 : dl < dh
    · rw [if_pos c2]
      refine ⟨rfl, ?_, hno⟩
      show Told t N L2 H2 o (rndU um)
      have i1 : LiesI L2 H2 o (dl * t) := (liesI _).2 ⟨Nat.le_refl _, by omega⟩
      have i2 : LiesI L2 H2 o ((dl + 1) * t) := (liesI _).2 ⟨by omega, by omega⟩
      have hqr : rndU um = q := by
        rw [hr]
        rcases hq with ⟨rfl, a, b⟩ | ⟨rfl, b, a⟩
        · rw [if_pos ?_]
          by_cases hb : LiesI L2 H2 o ((N / t + 1) * t)
          · exact b hb
          · exfalso
            have n1 : dl + 1 ≤ N / t := by
              rcases Nat.lt_or_ge (N / t) (dl + 1) with h | h
              · exact absurd (hcx _ (N / t + 1) _ (by omega) h a i2) hb
              · exact h
            obtain ⟨k, hk⟩ : ∃ k, N / t = k + 1 := ⟨N / t - 1, by omega⟩
            have i3 := hcx dl k (N / t) (by omega) (by omega) i1 a
            rw [hk] at hb hd a
            unfold LiesI at i3 hb a
            have e1 : t * (k + 1) = k * t + t := by rw [Nat.mul_add, Nat.mul_comm]; omega
            have e2 : (k + 1 + 1) * t = k * t + t + t := by rw [Nat.add_mul, Nat.add_mul]; omega
            have e3 : (k + 1) * t = k * t + t := by rw [Nat.add_mul]; omega
            rw [e1] at hd
            rw [e2] at hb
            rw [e3] at a
            generalize k * t = z at *
            omega
        · rw [if_neg ?_]
          by_cases ha : LiesI L2 H2 o (N / t * t)
          · exact a ha
          · have n1 : N / t + 1 ≤ dl := by
              rcases Nat.lt_or_ge dl (N / t + 1) with h | h
              · exact absurd (hcx dl (N / t) _ (by omega) (by omega) i1 b) ha
              · exact h
            have i3 := hcx (N / t + 1) (N / t + 2) (dl + 1) (by omega) (by omega) b i2
            generalize N / t = k at *
            unfold LiesI at i3 ha b
            have e1 : t * k = k * t := Nat.mul_comm _ _
            have e2 : (k + 2) * t = k * t + t + t := by rw [Nat.add_mul]; omega
            have e3 : (k + 1) * t = k * t + t := by rw [Nat.add_mul]; omega
            have e4 : (2 * k + 1) * t = 2 * (k * t) + t := by rw [Nat.add_mul, Nat.mul_assoc]; omega
            rw [e1] at hd
            rw [e2] at i3
            rw [e3] at b
            rw [e4]
            generalize k * t = z at *
            omega
      rw [hqr]
      exact hq
    · rw [if_neg c2]
      have : dl = q := by omega
      refine ⟨rfl, ?_, hno⟩
      show Told t N L2 H2 o dl
      rw [this]
      exact hq

end Go.Proofs.YtnljpbpphdhnpaaGreatDoor

/- The mathematics of the document's Nearest: the float below a number, and the nearer one of it and the next, is what rounding to the nearest gives. -/
namespace Go.Proofs.YtnljpbpphdhnpaaGreatDoor

theorem valN_succ (n : Nat) : valN (n + 1) = valN n + (if n < 8388608 then 1 else 2 ^ (n / 8388608 - 1)) := by
  unfold valN
  by_cases h1 : n < 8388608
  · rw [if_pos h1, if_pos h1]
    by_cases h2 : n + 1 < 8388608
    · rw [if_pos h2]
    · have : n = 8388607 := by omega
      subst this
      rfl
  · rw [if_neg h1, if_neg h1, if_neg (by omega)]
    by_cases h2 : n % 8388608 = 8388607
    · have e1 : (n + 1) % 8388608 = 0 := by omega
      have e2 : (n + 1) / 8388608 - 1 = (n / 8388608 - 1) + 1 := by omega
      rw [e1, e2, h2, Nat.pow_succ]
      generalize 2 ^ (n / 8388608 - 1) = p
      omega
    · have e1 : (n + 1) % 8388608 = n % 8388608 + 1 := by omega
      have e2 : (n + 1) / 8388608 - 1 = n / 8388608 - 1 := by omega
      rw [e1, e2, ← Nat.add_assoc, Nat.succ_mul]

/-- n is the float below V, in units of the least one -/
def Low (V n : Nat) : Prop := n ≤ 2139095040 ∧ valN n ≤ V ∧ (n = 2139095040 ∨ V < valN (n + 1))
def upB (V2 S n : Nat) : Bool := decide (S < V2) || (decide (V2 = S) && decide (n % 2 = 1))
def nearN (V n : Nat) : Nat := if n = 2139095040 then n else if upB (2 * V) (valN n + valN (n + 1)) n = true then n + 1 else n

theorem floor_rung (V : Nat) : valN ((V.log2 - 23) * 8388608 + V / 2 ^ (V.log2 - 23)) = V / 2 ^ (V.log2 - 23) * 2 ^ (V.log2 - 23) ∧
    valN ((V.log2 - 23) * 8388608 + V / 2 ^ (V.log2 - 23) + 1) = (V / 2 ^ (V.log2 - 23) + 1) * 2 ^ (V.log2 - 23) := by
  rw [valN_succ]
  by_cases h0 : V = 0
  · subst h0; decide
  have l1 : 2 ^ V.log2 ≤ V := Nat.log2_self_le h0
  have l2 : V < 2 ^ (V.log2 + 1) := Nat.lt_log2_self
  by_cases hd : V.log2 ≤ 23
  · have e0 : V.log2 - 23 = 0 := by omega
    have hV : V < 16777216 := Nat.lt_of_lt_of_le l2 (Nat.le_trans (Nat.pow_le_pow_right (by decide) (show V.log2 + 1 ≤ 24 by omega)) (by decide))
    rw [e0]
    simp only [Nat.zero_mul, Nat.zero_add, Nat.pow_zero, Nat.div_one, Nat.mul_one]
    have hv : valN V = V := by
      unfold valN
      split
      · rfl
      · rw [show V / 8388608 - 1 = 0 by omega]; omega
    rw [hv]
    refine ⟨rfl, ?_⟩
    split
    · rfl
    · rw [show V / 8388608 - 1 = 0 by omega]
  · generalize hdd : V.log2 - 23 = d at *
    have hlog : V.log2 = d + 23 := by omega
    rw [hlog] at l1 l2
    rw [Nat.pow_add] at l1
    rw [show d + 23 + 1 = d + 24 by omega, Nat.pow_add] at l2
    have hp : 0 < 2 ^ d := Nat.two_pow_pos d
    have t1 : 8388608 ≤ V / 2 ^ d := (Nat.le_div_iff_mul_le hp).2 (by rw [Nat.mul_comm]; exact l1)
    have t2 : V / 2 ^ d < 16777216 := (Nat.div_lt_iff_lt_mul hp).2 (by rw [Nat.mul_comm]; exact l2)
    generalize V / 2 ^ d = t at *
    have hv : valN (d * 8388608 + t) = t * 2 ^ d := by
      unfold valN
      rw [if_neg (by omega), show (d * 8388608 + t) % 8388608 = t - 8388608 by omega, show (d * 8388608 + t) / 8388608 - 1 = d by omega]
      rw [show 8388608 + (t - 8388608) = t by omega]
    rw [hv]
    refine ⟨rfl, ?_⟩
    rw [if_neg (by omega), show (d * 8388608 + t) / 8388608 - 1 = d by omega, Nat.succ_mul]

theorem floor_at (V d : Nat) (hd : V.log2 - 23 = d) : ∃ L, L = d * 8388608 + V / 2 ^ d ∧ valN L = V / 2 ^ d * 2 ^ d ∧ valN (L + 1) = (V / 2 ^ d + 1) * 2 ^ d := by
  subst hd
  exact ⟨_, rfl, floor_rung V⟩

theorem near_rnd (V n : Nat) (h : Low V n) : nearN V n = rndR V := by
  obtain ⟨h1, h2, h3⟩ := h
  unfold rndR rne rneB nearN upB
  generalize hd : V.log2 - 23 = d
  obtain ⟨L, hL, f1, f2⟩ := floor_at V d hd
  have hp : 0 < 2 ^ d := Nat.two_pow_pos d
  have hdm := Nat.div_add_mod V (2 ^ d)
  have hlt := Nat.mod_lt V hp
  generalize hpp : 2 ^ d = p at *
  generalize V / p = t at *
  generalize V % p = r at *
  rw [Nat.mul_comm] at hdm
  have hV1 : valN L ≤ V := by rw [f1]; omega
  have hV2 : V < valN (L + 1) := by rw [f2, Nat.succ_mul]; omega
  have hadd : ∀ b : Nat, d * 8388608 + (t + b) = L + b := fun b => by rw [hL]; omega
  rw [hadd]
  have a1 : n < L + 1 := valN_iff.1 (Nat.lt_of_le_of_lt h2 hV2)
  by_cases ho : n = 2139095040
  · rw [if_pos ho]
    generalize (decide (p < 2 * r) || p == 2 * r && t % 2 == 1).toNat = b
    rw [Nat.min_eq_right (by omega)]
    exact ho
  · rw [if_neg ho]
    have h3' : V < valN (n + 1) := by rcases h3 with h | h; exact absurd h ho; exact h
    have a2 : L < n + 1 := valN_iff.1 (Nat.lt_of_le_of_lt hV1 h3')
    have hn : n = L := by omega
    have h1' : L + 1 ≤ 2139095040 := by omega
    have e3 : decide (L % 2 = 1) = (t % 2 == 1) := by
      by_cases hx : t % 2 = 1
      · rw [show (t % 2 == 1) = true by simpa using hx, decide_eq_true (by omega)]
      · rw [show (t % 2 == 1) = false by simpa using hx, decide_eq_false (by omega)]
    clear hL hadd h1 ho a1 a2 h3 h3' hV1 hV2
    subst hn
    rw [f1, f2, e3]
    have e1 : decide (t * p + (t + 1) * p < 2 * V) = decide (p < 2 * r) := by
      rw [Nat.succ_mul t p, ← hdm]
      apply decide_eq_decide.2
      generalize t * p = q
      omega
    have e2 : decide (2 * V = t * p + (t + 1) * p) = (p == 2 * r) := by
      rw [Nat.succ_mul t p, ← hdm]
      generalize t * p = q
      by_cases hx : p = 2 * r
      · rw [show (p == 2 * r) = true by simpa using hx, decide_eq_true (by omega)]
      · rw [show (p == 2 * r) = false by simpa using hx, decide_eq_false (by omega)]
    rw [e1, e2]
    generalize (decide (p < 2 * r) || p == 2 * r && t % 2 == 1) = b
    cases b
    · rw [if_neg (by decide), Nat.min_eq_left (by simp; omega)]; rfl
    · rw [if_pos rfl, Nat.min_eq_left (by simp; omega)]; rfl

theorem cmp_scale (a b s : Nat) (hs : 0 < s) : cmpI ((a * s : Nat) : Int) ((b * s : Nat) : Int) = cmpI (a : Nat) (b : Nat) := by
  unfold cmpI
  rcases Nat.lt_trichotomy a b with h | h | h
  · have := Nat.mul_lt_mul_of_pos_right h hs
    rw [if_pos (by omega), if_pos (by omega)]
  · subst h
    rw [if_neg (by omega), if_neg (by omega), if_neg (by omega), if_neg (by omega)]
  · have := Nat.mul_lt_mul_of_pos_right h hs
    rw [if_neg (by omega), if_pos (by omega), if_neg (by omega), if_pos (by omega)]

theorem against_val (A B n : Nat) : cmpI ((A * 2 ^ (-(atE n)).toNat : Nat) : Int) ((atM n * 2 ^ (atE n).toNat * B : Nat) : Int) = cmpI ((A * 2 ^ 149 : Nat) : Int) ((valN n * B : Nat) : Int) := by
  unfold atE atM valN
  by_cases h : n < 8388608
  · rw [if_pos h, if_pos h, if_pos h]
    simp
  · rw [if_neg h, if_neg h, if_neg h]
    have hk : 1 ≤ n / 8388608 := by omega
    generalize n / 8388608 = k at *
    generalize 8388608 + n % 8388608 = m
    by_cases hk2 : k ≤ 150
    · rw [show (-((k : Int) - 150)).toNat = 150 - k by omega, show ((k : Int) - 150).toNat = 0 by omega, ← cmp_scale _ _ (2 ^ (k - 1)) (Nat.two_pow_pos _)]
      have e1 : A * 2 ^ (150 - k) * 2 ^ (k - 1) = A * 2 ^ 149 := by rw [Nat.mul_assoc, ← Nat.pow_add, show 150 - k + (k - 1) = 149 by omega]
      have e2 : m * 2 ^ 0 * B * 2 ^ (k - 1) = m * 2 ^ (k - 1) * B := by rw [Nat.pow_zero, Nat.mul_one, Nat.mul_assoc, Nat.mul_comm B, ← Nat.mul_assoc]
      rw [e1, e2]
    · rw [show (-((k : Int) - 150)).toNat = 0 by omega, show ((k : Int) - 150).toNat = k - 150 by omega, ← cmp_scale _ _ (2 ^ 149) (Nat.two_pow_pos _)]
      have e2 : m * 2 ^ (k - 150) * B * 2 ^ 149 = m * 2 ^ (k - 1) * B := by
        rw [Nat.mul_assoc, Nat.mul_comm B, ← Nat.mul_assoc, Nat.mul_assoc m, ← Nat.pow_add, show k - 150 + 149 = k - 1 by omega]
      rw [e2, Nat.pow_zero, Nat.mul_one]

theorem against_half (A B n : Nat) : cmpI ((A * 2 ^ (-(atE n - 1)).toNat : Nat) : Int) (((2 * atM n + 1) * 2 ^ (atE n - 1).toNat * B : Nat) : Int) = cmpI ((2 * (A * 2 ^ 149) : Nat) : Int) (((valN n + valN (n + 1)) * B : Nat) : Int) := by
  rw [valN_succ]
  have eA : 2 * (A * 2 ^ 149) = A * 2 ^ 150 := by rw [Nat.mul_comm, Nat.mul_assoc, ← Nat.pow_succ]
  rw [eA]
  unfold atE atM valN
  by_cases h : n < 8388608
  · rw [if_pos h, if_pos h, if_pos h, if_pos h]
    rw [show (-((-149 : Int) - 1)).toNat = 150 from rfl, show ((-149 : Int) - 1).toNat = 0 from rfl, Nat.pow_zero, Nat.mul_one, show 2 * n + 1 = n + (n + 1) by omega]
  · rw [if_neg h, if_neg h, if_neg h, if_neg h]
    have hk : 1 ≤ n / 8388608 := by omega
    generalize n / 8388608 = k at *
    generalize 8388608 + n % 8388608 = m
    have eS : m * 2 ^ (k - 1) + (m * 2 ^ (k - 1) + 2 ^ (k - 1)) = (2 * m + 1) * 2 ^ (k - 1) := by
      rw [Nat.add_mul, Nat.mul_assoc]; omega
    rw [eS]
    generalize 2 * m + 1 = m2
    by_cases hk2 : k ≤ 151
    · rw [show (-((k : Int) - 150 - 1)).toNat = 151 - k by omega, show ((k : Int) - 150 - 1).toNat = 0 by omega, ← cmp_scale _ _ (2 ^ (k - 1)) (Nat.two_pow_pos _)]
      have e1 : A * 2 ^ (151 - k) * 2 ^ (k - 1) = A * 2 ^ 150 := by rw [Nat.mul_assoc, ← Nat.pow_add, show 151 - k + (k - 1) = 150 by omega]
      have e2 : m2 * 2 ^ 0 * B * 2 ^ (k - 1) = m2 * 2 ^ (k - 1) * B := by rw [Nat.pow_zero, Nat.mul_one, Nat.mul_assoc, Nat.mul_comm B, ← Nat.mul_assoc]
      rw [e1, e2]
    · rw [show (-((k : Int) - 150 - 1)).toNat = 0 by omega, show ((k : Int) - 150 - 1).toNat = k - 151 by omega, ← cmp_scale _ _ (2 ^ 150) (Nat.two_pow_pos _)]
      have e2 : m2 * 2 ^ (k - 151) * B * 2 ^ 150 = m2 * 2 ^ (k - 1) * B := by
        rw [Nat.mul_assoc, Nat.mul_comm B, ← Nat.mul_assoc, Nat.mul_assoc m2, ← Nat.pow_add, show k - 151 + 150 = k - 1 by omega]
      rw [e2, Nat.pow_zero, Nat.mul_one]
end Go.Proofs.YtnljpbpphdhnpaaGreatDoor


/- The real of a number: the steps from its digits in 64 bits to its 32 bits. -/
namespace Go.Proofs.YtnljpbpphdhnpaaGreatDoor
open Go.RowKit Go.PlainAid Go.Lib

/-- the digits of the rung n, k doublings on, in 64 bits -/
def fD (n : Nat) (k : Int) : Nat := if atM n = 0 then 0 else wD (atM n * 2 ^ (52 - (atM n).log2)) (((atM n).log2 : Int) + k)

theorem atM_lt (n : Nat) : atM n < 16777216 := by unfold atM; split <;> omega
theorem atE_lo (n : Nat) : -149 ≤ atE n := by unfold atE; split <;> omega
theorem atE_hi (n : Nat) (h : n < 2139095040) : atE n ≤ 104 := by unfold atE; split <;> omega

theorem fD_start (n : Nat) : floatOfInt .f64 ((atM n : Nat) : Int) = fD n 0 := by
  show Ieee.double.nearest (decide (((atM n : Nat) : Int) < 0)) ((atM n : Nat) : Int).natAbs 0 = _
  rw [show decide (((atM n : Nat) : Int) < 0) = false by simp, Int.natAbs_natCast]
  unfold fD
  by_cases h : atM n = 0
  · rw [if_pos h, h]; decide
  · rw [if_neg h, (nearS (atM n) (by omega) (atM_lt n)).1, Int.add_zero]

theorem fD_mul (n : Nat) (k : Int) (h0 : 0 ≤ k) (h1 : k < 104) : floatBits .mul .f64 (fD n k) 4611686018427387904 = some (fD n (k + 1)) := by
  show Ieee.double.mul _ _ = _
  unfold fD
  by_cases h : atM n = 0
  · rw [if_pos h, if_pos h]; decide
  · rw [if_neg h, if_neg h]
    obtain ⟨_, k1, k2, k3⟩ := nearS (atM n) (by omega) (atM_lt n)
    rw [mul2 _ _ k1 k2 (by omega) (by omega), Int.add_assoc]

theorem fD_div (n : Nat) (k : Int) (h0 : -149 ≤ k) (h1 : k ≤ 104) : floatBits .quo .f64 (fD n k) 4611686018427387904 = some (fD n (k - 1)) := by
  show Ieee.double.div _ _ = _
  unfold fD
  by_cases h : atM n = 0
  · rw [if_pos h, if_pos h]; decide
  · rw [if_neg h, if_neg h]
    obtain ⟨_, k1, k2, k3⟩ := nearS (atM n) (by omega) (atM_lt n)
    rw [div2 _ _ k1 k2 (by omega) (by omega)]
    congr 2
    omega

theorem fD_end (n : Nat) (h : n < 2139095040) : floatToFloatBits .f64 (fD n (atE n)) .f32 = some n := by
  unfold floatToFloatBits
  rw [if_neg (by decide)]
  show (match Ieee.double.read (fD n (atE n)) with | .nan _ _ => none | .infinity s => some (Ieee.single.write (.infinity s)) | .number s m e => if (Ieee.single.read (Ieee.single.write (.number s m e))).isInfinity then none else some (Ieee.single.write (.number s m e))) = _
  unfold fD
  by_cases h0 : atM n = 0
  · have hn : n = 0 := by unfold atM at h0; split at h0 <;> omega
    subst hn
    decide
  · rw [if_neg h0]
    have hn0 : 0 < n := by
      rcases Nat.eq_zero_or_pos n with hz | hz
      · subst hz; exact absurd (by decide) h0
      · exact hz
    obtain ⟨_, k1, k2, k3⟩ := nearS (atM n) (by omega) (atM_lt n)
    have a1 := atE_lo n
    have a2 := atE_hi n h
    rw [readD _ _ k1 k2 (by omega) (by omega)]
    have hw : Ieee.single.write (.number false (atM n * 2 ^ (52 - (atM n).log2)) (((atM n).log2 : Int) + atE n - 52)) = n := toSingle n hn0 h
    simp only [hw]
    obtain ⟨m, up, hr, _⟩ := read_num n (by unfold rungN; omega)
    rw [hr]
    rfl

end Go.Proofs.YtnljpbpphdhnpaaGreatDoor



/- FormatFloat and the program's Text at the one number that is asked for. -/
namespace Go.Proofs.YtnljpbpphdhnpaaGreatDoor
open Go.RowKit Go.PlainAid

theorem push_fold : ∀ (l : List UInt8) (s : ByteArray), (l.map fun x => ((x.toNat : Nat) : Int)).foldl (fun r n => r.push (UInt8.ofNat n.toNat)) s = ⟨s.data ++ l.toArray⟩
  | [], s => by simp
  | x :: r, s => by
    rw [List.map_cons, List.foldl_cons, push_fold r]
    have hx : UInt8.ofNat ((x.toNat : Nat) : Int).toNat = x := by simp
    rw [hx]
    congr 1
    apply Array.ext'
    simp [ByteArray.push]
theorem run_str {w : World} {v : Value} {l : List UInt8} (h : Bs w v l) : (convert 72 9 v).run Tryz.prog w = .ok (.string ⟨l.toArray⟩) w := by
  have key : ∀ (a : Addr) (cap : Nat), (∀ j u, (bv l)[j]? = some u → w.cell? (a.add j) = some u) → (convert 72 9 (.slice (some a) l.length cap)).run Tryz.prog w = .ok (.string ⟨l.toArray⟩) w := by
    intro a cap hc
    rw [run_convert_bytes_string w 72 9 5 _ _ _ underS Tryz.underlying5 Tryz.underlying9]
    have hld : (loadCells a l.length).run Tryz.prog w = .ok ((l.map fun x => ((x.toNat : Nat) : Int)).map (Value.int .u8)).toArray w := by
      have := run_loadCells_list (P := Tryz.prog) w a (bv l) hc
      rw [bv_length] at this
      rw [this]
      simp [bv, Function.comp_def]
    rw [run_bytesToString w a l.length cap _ hld, push_fold]
    simp
  rcases h.cases with ⟨rfl, ao, cap, rfl, _, _⟩ | ⟨_, b, o, cap, rfl, _, _, _, hc⟩
  · cases ao with
    | none =>
      rw [run_convert_bytes_string w 72 9 5 _ _ _ underS Tryz.underlying5 Tryz.underlying9]
      rfl
    | some a => exact key a cap (fun j u hj => by simp [bv] at hj)
  · refine key _ cap (fun j u hu => ?_)
    have hj : j < l.length := by
      have := (List.getElem?_eq_some_iff.1 hu).1
      simpa [bv_length] using this
    rw [bv_get l j hj] at hu
    have hadd : (⟨b, o, none⟩ : Addr).add j = ⟨b, o + j, none⟩ := by unfold Addr.add; split <;> simp_all
    rw [hadd, hc j hj, List.getD_eq_getElem?_getD, List.getElem?_eq_getElem hj]
    exact hu

/-- the library's tables, as far as Text reads them -/
structure Tabx (w : World) : Prop where
  tabs : Tabs w
  ten : w.cell? ⟨4, 7, none⟩ = some (.int .u64 10000000)
  most : ∃ m, w.cell? ⟨1, 0, none⟩ = some (.int .i64 m)
theorem Tabx.below {w w' : World} (h : Tabx w) (hb : Below w.heap.size w w') : Tabx w' := by
  obtain ⟨m, hm⟩ := h.most
  exact ⟨h.tabs.below hb, cell_next hb h.ten, m, cell_next hb hm⟩

abbrev sF : ByteArray := ⟨#[49, 46, 54, 55, 55, 55, 50, 49, 54, 101, 43, 48, 55]⟩

set_option maxRecDepth 1000000 in
set_option maxHeartbeats 1000000 in
theorem iff_p (w : World) (hT : Tabx w) : Calls Tryz.prog 84 #[.float .f64 4715268809856909312, .int .u8 101, .int .i64 (-1), .int .i64 32] w fun e w' => e = .returned (.string sF) ∧ Below w.heap.size w w' := by
  obtain ⟨i5, h5a, h5b, h5c, h5d⟩ := info_parts infoB
  have hC := conv_q
  go_enter Tryz.func84, Tryz.ntmps84
  go_wp2_with (first
    | (refine wpList_make_own w rfl (.const (.int .i64 0)) (.tmp 13) 72 rfl 0 5 i5 (.int .u8 0) 1 underS h5a h5b h5c .i64 .i64 24 24 rfl rfl rfl (by rw [h5d]; omega) (by decide) (Nat.zero_le _) ?_; intro w1 r1 g1; have HK : Hid (Keep [] w w1) := Keep.grown g1; have HR : Hid (Row w1 (.slice (some ⟨w.heap.size, 0, none⟩) 0 24) []) := r1; clear r1 g1)
    | (go_at_call 108; refine (ftoa32_p w w1 _ (hT.below HK.out.below).tabs (hT.below HK.out.below).ten HR.out HK.out (fun k hk => by simp [Value.ownBlock] at hk; subst hk; exact ⟨Nat.le_refl _, HR.out.lt _ rfl⟩)).mono ?_; rintro e9 w2 ⟨v2, rfl, hr2, hk2⟩; have hcv := run_str hr2.bs; have HK2 : Hid (Keep [] w w2) := hk2; clear hr2 hk2))
  go_ret
  exact ⟨rfl, HK2.out.below⟩
theorem ff_p (w : World) (hT : Tabx w) : Calls Tryz.prog 59 #[.float .f64 4715268809856909312, .int .u8 101, .int .i64 (-1), .int .i64 32] w fun e w' => e = .returned (.string sF) ∧ Below w.heap.size w w' := by
  have h := iff_p w hT
  go_enter Tryz.func59, Tryz.ntmps59
  go_wp2_with (first | (go_at_call 84; refine h.mono ?_; rintro e9 w2 ⟨rfl, hb⟩))
  go_ret
  exact ⟨rfl, hb⟩
end Go.Proofs.YtnljpbpphdhnpaaGreatDoor



/- The program's Text at the one number that is asked for. -/
namespace Go.Proofs.YtnljpbpphdhnpaaGreatDoor
open Go.RowKit Go.PlainAid

abbrev sG : ByteArray := ⟨#[49, 46, 54, 55, 55, 55, 50, 49, 54]⟩
abbrev sH : ByteArray := ⟨#[49, 54, 55, 55, 55, 50, 49, 54]⟩

set_option maxRecDepth 1000000 in
theorem cutF (w : World) : Calls Tryz.prog 50 #[.string sF, .string ⟨#[101]⟩] w fun e w' => e = .returned (.tuple #[.string sG, .string ⟨#[43, 48, 55]⟩, .bool true]) ∧ ∃ n, w' = w.drewN n := by
  have h := cut_at sF 101 9 (by decide) (by decide) (by decide) w
  have e1 : sF.extract 0 9 = sG := by decide
  have e2 : sF.extract (9 + 1) sF.size = ⟨#[43, 48, 55]⟩ := by decide
  rw [e1, e2] at h
  exact h
theorem atoi_p (w : World) : Calls Tryz.prog 60 #[.string ⟨#[43, 48, 55]⟩] w fun e w' => e = .returned (.tuple #[.int .i64 7, .nilIface]) ∧ Below w.heap.size w w' := by
  refine (Tryz.strconv_Atoi ⟨#[43, 48, 55]⟩ 7 (by decide) (by decide) w).mono ?_
  rintro e w' ⟨rfl, t, rfl⟩
  exact ⟨rfl, Lib.bytesWorld_below w 5 t⟩
theorem replace_p (w : World) (hm : ∃ m, w.cell? ⟨1, 0, none⟩ = some (.int .i64 m)) : Calls Tryz.prog 61 #[.string sG, .string ⟨#[46]⟩, .string ⟨#[]⟩, .int .i64 1] w fun e w' => e = .returned (.string sH) ∧ Below w.heap.size w w' := by
  obtain ⟨m, hm⟩ := hm
  refine (Tryz.strings_Replace_some sG ⟨#[46]⟩ ⟨#[]⟩ 1 m w (by decide) hm (by decide) (by decide) (by decide) (by decide) (by decide)).mono ?_
  rintro e w' ⟨rfl, hb⟩
  have e1 : (⟨(Lib.replaceK (⟨#[46]⟩ : ByteArray).data.toList (⟨#[]⟩ : ByteArray).data.toList (Lib.replaceNum sG.data.toList (⟨#[46]⟩ : ByteArray).data.toList 1) sG.data.toList).toArray⟩ : ByteArray) = sH := by decide
  exact ⟨by rw [e1], hb⟩

set_option maxRecDepth 1000000 in
theorem shortest_p (w : World) (hT : Tabx w) : Calls Tryz.prog 37 #[.float .f32 1266679808] w fun e w' => e = .returned (.tuple #[.string sH, .int .i64 7]) ∧ Below w.heap.size w w' := by
  have hC := conv_p
  have hF := ff_p w hT
  go_enter Tryz.func37, Tryz.ntmps37
  go_wp2_with (first
    | (go_at_call 59; refine hF.mono ?_; rintro e9 w1 ⟨rfl, hb1⟩; have HB1 : Hid (Below w.heap.size w w1) := hb1; clear hb1)
    | (go_at_call 50; refine (cutF _).mono ?_; rintro e9 w2 ⟨rfl, n2, hw2⟩; have HB2 : Hid (Below w.heap.size w w2) := (by rw [hw2]; exact below_drewN HB1.out n2); clear hw2)
    | (go_at_call 60; refine (atoi_p _).mono ?_; rintro e9 w3 ⟨rfl, hb3⟩; have HB3 : Hid (Below w.heap.size w w3) := HB2.out.trans (hb3.mono HB2.out.size); clear hb3)
    | (go_at_call 61; refine (replace_p _ (hT.below HB3.out).most).mono ?_; rintro e9 w4 ⟨rfl, hb4⟩; have HB4 : Hid (Below w.heap.size w w4) := HB3.out.trans (hb4.mono HB3.out.size); clear hb4))
  go_ret2
  exact ⟨rfl, HB4.out⟩
theorem plain_p (w : World) : Calls Tryz.prog 40 #[.string sH, .int .i64 7] w fun e w' => e = .returned (.string ⟨#[49, 54, 55, 55, 55, 50, 49, 54, 46, 48]⟩) ∧ w' = w := by
  have hR := Tryz.strings_Repeat_zero ⟨#[48]⟩
  go_enter Tryz.func40, Tryz.ntmps40
  go_wp2_with (first | (go_at_call 63; refine (hR _).mono ?_; rintro e9 w9 ⟨rfl, hw9⟩; obtain rfl := hw9.symm))
  go_ret
  exact ⟨rfl, rfl⟩
theorem textAbove_p (w : World) (hT : Tabx w) : Calls Tryz.prog 16 #[.float .f32 1266679808] w fun e w' => e = .returned (.string ⟨#[49, 54, 55, 55, 55, 50, 49, 54, 46, 48]⟩) ∧ Below w.heap.size w w' := by
  have hS := shortest_p w hT
  have hI := infinite_any false
  simp only [Bool.false_eq_true, if_false] at hI
  have k1 : (FloatKind.f32.format.order 1266679808 0 == some Ordering.eq) = false := by decide
  have k2 : (FloatKind.f32.format.order 1266679808 2139095040 == some Ordering.eq) = false := by decide
  go_enter Tryz.func16, Tryz.ntmps16
  go_wp2_with (first
    | (go_at_call 27; refine (hI _).mono ?_; rintro e9 w9 ⟨rfl, hw9⟩; obtain rfl := hw9.symm)
    | (go_at_call 37; refine hS.mono ?_; rintro e9 w1 ⟨rfl, hb1⟩)
    | (go_at_call 40; refine (plain_p _).mono ?_; rintro e9 w9 ⟨rfl, hw9⟩; obtain rfl := hw9.symm))
  go_ret
  exact ⟨rfl, hb1⟩
theorem text_p (w : World) (hT : Tabx w) : Calls Tryz.prog 6 #[.float .f32 1266679808] w fun e w' => e = .returned (.string ⟨#[49, 54, 55, 55, 55, 50, 49, 54, 46, 48]⟩) ∧ Below w.heap.size w w' := by
  have hN : ∀ w, Calls Tryz.prog 14 #[.float .f32 1266679808] w fun e w' => e = .returned (.bool false) ∧ w' = w := fun w => isNan_any 1266679808 w
  have hB : ∀ w, Calls Tryz.prog 15 #[.float .f32 1266679808] w fun e w' => e = .returned (.bool false) ∧ w' = w := fun w => below0_any 1266679808 (by decide) w
  have hA := textAbove_p w hT
  go_enter Tryz.func6, Tryz.ntmps6
  go_wp2_with (first
    | (go_at_call 14; refine (hN _).mono ?_; rintro e9 w9 ⟨rfl, hw9⟩; obtain rfl := hw9.symm)
    | (go_at_call 15; refine (hB _).mono ?_; rintro e9 w9 ⟨rfl, hw9⟩; obtain rfl := hw9.symm)
    | (go_at_call 16; refine hA.mono ?_; rintro e9 w1 ⟨rfl, hb1⟩))
  go_ret
  exact ⟨rfl, hb1⟩
end Go.Proofs.YtnljpbpphdhnpaaGreatDoor


