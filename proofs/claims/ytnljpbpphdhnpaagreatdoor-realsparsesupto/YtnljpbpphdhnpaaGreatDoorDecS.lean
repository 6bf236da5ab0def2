/- A row of decimal digits as a number, and what halving it digit by digit says. -/
import Derived.Test.YtnljpbpphdhnpaaGreatDoorWhM

namespace Go.Proofs.YtnljpbpphdhnpaaGreatDoor
open Go.RowKit Go.PlainAid

/-- the number that the first r digits are -/
def pD (e : Nat → Nat) : Nat → Nat
  | 0 => 0
  | r + 1 => pD e r * 10 + e r
theorem pD_succ (e : Nat → Nat) (r : Nat) : pD e (r + 1) = pD e r * 10 + e r := rfl
theorem pD_lt (e : Nat → Nat) : ∀ r, (∀ j, j < r → e j < 10) → pD e r < 10 ^ r := by
  intro r
  induction r with
  | zero => intro _; simp [pD]
  | succ r ih =>
    intro h
    have h1 := ih fun j hj => h j (by omega)
    have h2 := h r (by omega)
    rw [pD_succ, Nat.pow_succ]
    omega
theorem pD_congr (e f : Nat → Nat) : ∀ r, (∀ j, j < r → e j = f j) → pD e r = pD f r := by
  intro r
  induction r with
  | zero => intro _; rfl
  | succ r ih =>
    intro h
    rw [pD_succ, pD_succ, ih fun j hj => h j (by omega), h r (by omega)]
theorem pD_ge (e : Nat → Nat) (h : 1 ≤ e 0) : ∀ r, 10 ^ r ≤ pD e (r + 1) := by
  intro r
  induction r with
  | zero => simpa [pD] using h
  | succ r ih => rw [pD_succ, Nat.pow_succ]; omega
theorem pD_split (e : Nat → Nat) (a : Nat) : ∀ t, pD e (a + t) = pD e a * 10 ^ t + pD (fun j => e (a + j)) t := by
  intro t
  induction t with
  | zero => simp [pD]
  | succ t ih =>
    rw [← Nat.add_assoc, pD_succ, ih, pD_succ, Nat.pow_succ, Nat.add_mul, Nat.mul_assoc]
    omega
theorem pD_zeros (e : Nat → Nat) (a t : Nat) (h : ∀ j, a ≤ j → e j = 0) : pD e (a + t) = pD e a * 10 ^ t := by
  rw [pD_split]
  have : ∀ t, pD (fun j => e (a + j)) t = 0 := by
    intro t
    induction t with
    | zero => rfl
    | succ t ih => rw [pD_succ, ih, h (a + t) (by omega)]
  rw [this]; rfl
theorem pD_mono (e : Nat → Nat) (a : Nat) : ∀ t, pD e a ≤ pD e (a + t) := by
  intro t
  induction t with
  | zero => exact Nat.le_refl _
  | succ t ih => rw [← Nat.add_assoc, pD_succ]; omega

/-- what is carried, halving by 2^k from the r-th digit on -/
def nR (e : Nat → Nat) (k r : Nat) : Nat → Nat
  | 0 => pD e r
  | i + 1 => nR e k r i % 2 ^ k * 10 + e (r + i)
def qR (e : Nat → Nat) (k r i : Nat) : Nat := nR e k r i / 2 ^ k
theorem nR_succ (e : Nat → Nat) (k r i : Nat) : nR e k r (i + 1) = nR e k r i % 2 ^ k * 10 + e (r + i) := rfl
theorem nR_lt (e : Nat → Nat) (k r : Nat) (he : ∀ j, e j < 10) (h : pD e r < 10 * 2 ^ k) : ∀ i, nR e k r i < 10 * 2 ^ k := by
  intro i
  cases i with
  | zero => exact h
  | succ i =>
    rw [nR_succ]
    have h1 : nR e k r i % 2 ^ k < 2 ^ k := Nat.mod_lt _ (Nat.two_pow_pos k)
    have h2 := he (r + i)
    omega
theorem qR_lt (e : Nat → Nat) (k r : Nat) (he : ∀ j, e j < 10) (h : pD e r < 10 * 2 ^ k) (i : Nat) : qR e k r i < 10 := by
  unfold qR
  exact (Nat.div_lt_iff_lt_mul (Nat.two_pow_pos k)).2 (nR_lt e k r he h i)
theorem nR_inv (e : Nat → Nat) (k r : Nat) : ∀ i, pD (qR e k r) i * (10 * 2 ^ k) + nR e k r i = pD e (r + i) := by
  intro i
  induction i with
  | zero => simp [pD, nR]
  | succ i ih =>
    rw [← Nat.add_assoc, pD_succ, pD_succ, nR_succ, ← ih]
    have hd := Nat.div_add_mod (nR e k r i) (2 ^ k)
    unfold qR
    rw [show (fun i => nR e k r i / 2 ^ k) = qR e k r from rfl]
    generalize nR e k r i % 2 ^ k = m at *
    generalize nR e k r i / 2 ^ k = q at *
    rw [← hd]
    generalize pD (qR e k r) i = p
    generalize e (r + i) = c
    generalize 2 ^ k = z at *
    rw [Nat.add_mul, Nat.add_mul, Nat.add_mul, Nat.mul_comm z q, Nat.mul_assoc p 10, Nat.mul_assoc p, show 10 * (10 * z) = (10 * z) * 10 by omega, ← Nat.mul_assoc q, Nat.mul_comm (q * 10) z, Nat.mul_comm q 10, ← Nat.mul_assoc z, Nat.mul_comm z 10]
    rw [Nat.mul_comm q z]
    have e1 : 10 * z * q = z * q * 10 := by rw [Nat.mul_assoc, Nat.mul_comm 10]
    omega
/-- behind the last digit it ends within k + 1 places -/
theorem nR_dvd (e : Nat → Nat) (k r a : Nat) (h : ∀ j, r + a ≤ j → e j = 0) : ∀ j, j ≤ k → 2 ^ j ∣ nR e k r (a + j) := by
  intro j
  induction j with
  | zero => intro _; simp
  | succ j ih =>
    intro hj
    have h1 := ih (by omega)
    rw [← Nat.add_assoc, nR_succ, h (r + (a + j)) (by omega), Nat.add_zero]
    have h2 : 2 ^ j ∣ nR e k r (a + j) % 2 ^ k := (Nat.dvd_mod_iff (Nat.pow_dvd_pow 2 (by omega))).2 h1
    rw [Nat.pow_succ]
    exact Nat.mul_dvd_mul h2 (by decide)
theorem nR_end (e : Nat → Nat) (k r a : Nat) (h : ∀ j, r + a ≤ j → e j = 0) : nR e k r (a + (k + 1)) = 0 := by
  have h1 := nR_dvd e k r a h k (Nat.le_refl _)
  rw [← Nat.add_assoc, nR_succ, h (r + (a + k)) (by omega), Nat.add_zero, Nat.mod_eq_zero_of_dvd h1]
theorem qR_top (e : Nat → Nat) (k r : Nat) (h : 2 ^ k ≤ pD e r) : 1 ≤ qR e k r 0 := by
  unfold qR
  exact (Nat.le_div_iff_mul_le (Nat.two_pow_pos k)).2 (by rw [Nat.one_mul]; exact h)
end Go.Proofs.YtnljpbpphdhnpaaGreatDoor

/- What a decimal that may be cut still tells of the number that it stands for. -/
namespace Go.Proofs.YtnljpbpphdhnpaaGreatDoor
open Go.RowKit Go.PlainAid

/-- the number's worth in units of 10^-B * 2^-m -/
def xD (B m N : Nat) (nd dp : Int) : Nat := N * 10 ^ (dp - nd + B).toNat * 2 ^ m
/-- of the number that a decimal stands for: F is what is whole of it (2^m times it), st whether something is left -/
structure Sees (B F : Nat) (st : Bool) (m N : Nat) (nd dp : Int) (tr : Bool) : Prop where
  wh : xD B m N nd dp / 10 ^ B = F
  sk : st = false ↔ (xD B m N nd dp % 10 ^ B = 0 ∧ tr = false)

theorem ten_pos (n : Nat) : 0 < 10 ^ n := Nat.pow_pos (by decide)
/-- cut at a unit that divides the whole -/
theorem cut_cell (X Y U Z : Nat) (hU : 0 < U) (h1 : Y ≤ X) (h2 : X < Y + U) (hY : U ∣ Y) (hZ : U ∣ Z) : X / Z = Y / Z := by
  obtain ⟨y, rfl⟩ := hY
  obtain ⟨z, rfl⟩ := hZ
  rw [← Nat.div_div_eq_div_mul, ← Nat.div_div_eq_div_mul, Nat.mul_div_cancel_left _ hU]
  congr 1
  have h3 : y ≤ X / U := (Nat.le_div_iff_mul_le hU).2 (by rw [Nat.mul_comm]; exact h1)
  have h4 : X / U < y + 1 := (Nat.div_lt_iff_lt_mul hU).2 (by rw [Nat.add_mul, Nat.one_mul, Nat.mul_comm y U]; exact h2)
  omega
theorem cut_rest (X Y U Z : Nat) (h1 : Y < X) (h2 : X < Y + U) (hY : U ∣ Y) (hZ : U ∣ Z) : X % Z ≠ 0 := by
  intro h
  have h3 : Z ∣ X := Nat.dvd_of_mod_eq_zero h
  have h4 : U ∣ X := Nat.dvd_trans hZ h3
  obtain ⟨y, rfl⟩ := hY
  obtain ⟨x, rfl⟩ := h4
  have h5 : y < x := Nat.lt_of_mul_lt_mul_left h1
  have h6 : x < y + 1 := by
    have : U * x < U * (y + 1) := by rw [Nat.mul_add, Nat.mul_one]; exact h2
    exact Nat.lt_of_mul_lt_mul_left this
  omega
theorem unit_dvd (B a m : Nat) (h : a + m ≤ B) : 10 ^ a * 2 ^ m ∣ 10 ^ B := by
  obtain ⟨c, rfl⟩ : ∃ c, B = a + m + c := ⟨B - (a + m), by omega⟩
  rw [Nat.pow_add, Nat.pow_add]
  have h1 : 2 ^ m ∣ 10 ^ m := by
    rw [show 10 = 2 * 5 by decide, Nat.mul_pow]
    exact Nat.dvd_mul_right _ _
  exact Nat.dvd_trans (Nat.mul_dvd_mul_left _ h1) (Nat.dvd_mul_right _ _)
/-- a nought more at the end, and the number of digits with it -/
theorem xD_noughts (B m N : Nat) (nd dp : Int) (t : Nat) (h : 0 ≤ dp - (nd + t) + B) : xD B m (N * 10 ^ t) (nd + t) dp = xD B m N nd dp := by
  unfold xD
  rw [show (dp - nd + (B : Int)).toNat = t + (dp - (nd + t) + (B : Int)).toNat by omega, Nat.pow_add, ← Nat.mul_assoc N]
/-- cutting digits off -/
theorem sees_cut (B F : Nat) (st : Bool) (m a t b : Nat) (nd dp : Int) (tr tr2 : Bool) (h : Sees B F st m (a * 10 ^ t + b) (nd + t) dp tr) (hb : b < 10 ^ t) (he : 0 ≤ dp - (nd + t) + B)
    (h0 : t = 0 → tr2 = tr) (h1 : t ≠ 0 → tr2 = true ∧ b ≠ 0 ∧ dp - nd + m ≤ 0) : Sees B F st m a nd dp tr2 := by
  by_cases ht : t = 0
  · subst ht
    rw [h0 rfl]
    have hb0 : b = 0 := by simpa using hb
    subst hb0
    simpa using h
  · obtain ⟨e1, e2, e3⟩ := h1 ht
    subst e1
    have hX : xD B m (a * 10 ^ t + b) (nd + t) dp = a * (10 ^ (dp - nd + B).toNat * 2 ^ m) + b * (10 ^ (dp - (nd + t) + B).toNat * 2 ^ m) := by
      unfold xD
      rw [show (dp - nd + (B : Int)).toNat = t + (dp - (nd + t) + (B : Int)).toNat by omega, Nat.pow_add, Nat.add_mul, Nat.add_mul]
      simp only [Nat.mul_assoc]
    have hY : xD B m a nd dp = a * (10 ^ (dp - nd + B).toNat * 2 ^ m) := by
      unfold xD; rw [Nat.mul_assoc]
    have hU : 0 < 10 ^ (dp - nd + B).toNat * 2 ^ m := Nat.mul_pos (ten_pos _) (Nat.two_pow_pos m)
    have hr : b * (10 ^ (dp - (nd + t) + B).toNat * 2 ^ m) < 10 ^ (dp - nd + B).toNat * 2 ^ m := by
      rw [show (dp - nd + (B : Int)).toNat = t + (dp - (nd + t) + (B : Int)).toNat by omega, Nat.pow_add, Nat.mul_assoc (10 ^ t)]
      exact Nat.mul_lt_mul_of_pos_right hb (Nat.mul_pos (ten_pos _) (Nat.two_pow_pos m))
    have hr0 : 0 < b * (10 ^ (dp - (nd + t) + B).toNat * 2 ^ m) := Nat.mul_pos (by omega) (Nat.mul_pos (ten_pos _) (Nat.two_pow_pos m))
    have hZ : 10 ^ (dp - nd + B).toNat * 2 ^ m ∣ 10 ^ B := unit_dvd B _ m (by omega)
    have hd : 10 ^ (dp - nd + B).toNat * 2 ^ m ∣ xD B m a nd dp := by rw [hY]; exact Nat.dvd_mul_left _ _
    have k1 := cut_cell (xD B m (a * 10 ^ t + b) (nd + t) dp) (xD B m a nd dp) _ (10 ^ B) hU (by rw [hX, hY]; omega) (by rw [hX, hY]; omega) hd hZ
    have k2 := cut_rest (xD B m (a * 10 ^ t + b) (nd + t) dp) (xD B m a nd dp) _ (10 ^ B) (by rw [hX, hY]; omega) (by rw [hX, hY]; omega) hd hZ
    refine ⟨by rw [← k1]; exact h.wh, ?_⟩
    constructor
    · intro hs
      exact absurd (h.sk.1 hs).1 k2
    · intro hs
      exact absurd hs.2 (by simp)
theorem sees_trim (B F : Nat) (st : Bool) (m N : Nat) (nd dp : Int) (tr : Bool) (t : Nat) (he : 0 ≤ dp - (nd + t) + B) (h : Sees B F st m (N * 10 ^ t) (nd + t) dp tr) : Sees B F st m N nd dp tr := by
  have e := xD_noughts B m N nd dp t he
  exact ⟨by rw [← e]; exact h.wh, by rw [← e]; exact h.sk⟩
/-- halving: the quotient's digits, all of them -/
theorem sees_half (B F : Nat) (st : Bool) (m N : Nat) (nd dp : Int) (tr : Bool) (k Q : Nat) (r T : Int) (hrT : 0 ≤ r + T - nd) (he : 0 ≤ dp - (r - 1) - T + B) (he2 : 0 ≤ dp - nd + B) (hQ : Q * (10 * 2 ^ k) = N * 10 ^ (r + T - nd).toNat)
    (h : Sees B F st m N nd dp tr) : Sees B F st (m + k) Q T (dp - (r - 1)) tr := by
  have e : xD B (m + k) Q T (dp - (r - 1)) = xD B m N nd dp := by
    have h10 : 10 * xD B (m + k) Q T (dp - (r - 1)) = 10 * xD B m N nd dp := by
      unfold xD
      have e1 : 10 * (Q * 10 ^ (dp - (r - 1) - T + (B : Int)).toNat * 2 ^ (m + k)) = Q * (10 * 2 ^ k) * 10 ^ (dp - (r - 1) - T + (B : Int)).toNat * 2 ^ m := by
        rw [Nat.pow_add]
        simp only [Nat.mul_assoc, Nat.mul_left_comm, Nat.mul_comm]
      rw [e1, hQ, Nat.mul_assoc N, ← Nat.pow_add, show (r + T - nd).toNat + (dp - (r - 1) - T + (B : Int)).toNat = (dp - nd + (B : Int)).toNat + 1 by omega, Nat.pow_succ]
      simp only [Nat.mul_left_comm, Nat.mul_comm]
    omega
  exact ⟨by rw [e]; exact h.wh, by rw [e]; exact h.sk⟩
/-- doubling: all digits -/
theorem sees_double (B F : Nat) (st : Bool) (m N : Nat) (nd dp : Int) (tr : Bool) (k : Nat) (δ : Int) (h : Sees B F st (m + k) N nd dp tr) : Sees B F st m (N * 2 ^ k) (nd + δ) (dp + δ) tr := by
  have e : xD B m (N * 2 ^ k) (nd + δ) (dp + δ) = xD B (m + k) N nd dp := by
    unfold xD
    rw [show (dp + δ - (nd + δ) + (B : Int)) = dp - nd + (B : Int) by omega, Nat.pow_add]
    simp only [Nat.mul_assoc, Nat.mul_left_comm, Nat.mul_comm]
  exact ⟨by rw [e]; exact h.wh, by rw [e]; exact h.sk⟩
end Go.Proofs.YtnljpbpphdhnpaaGreatDoor
