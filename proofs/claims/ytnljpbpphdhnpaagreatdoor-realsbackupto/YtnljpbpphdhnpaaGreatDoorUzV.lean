/- A row of decimal digits as a number, and what halving it digit by digit says. -/
import Derived.Test.YtnljpbpphdhnpaaGreatDoorWhM
import Derived.Test.YtnljpbpphdhnpaaGreatDoorSdG
import Derived.Test.YtnljpbpphdhnpaaGreatDoorUzT

namespace Go.Proofs.YtnljpbpphdhnpaaGreatDoor
open Go.RowKit Go.PlainAid

/-- the number that the first r digits are -/
def pD (e : Nat → Nat) : Nat → Nat
  | 0 => 0
  | r + 1 => pD e r * 10 + e r
theorem pD_succ (e : Nat → Nat) (r : Nat) : pD e (r + 1) = pD e r * 10 + e r := rfl
theorem pD_lt (e : Nat → Nat) : ∀ r, (∀ j, j < r → e j < 10) → pD e r < 10 ^ r := by
  intro r
  induction r with
  | zero => intro _; simp [pD]
  | succ r ih =>
    intro h
    have h1 := ih fun j hj => h j (by omega)
    have h2 := h r (by omega)
    rw [pD_succ, Nat.pow_succ]
    omega
theorem pD_congr (e f : Nat → Nat) : ∀ r, (∀ j, j < r → e j = f j) → pD e r = pD f r := by
  intro r
  induction r with
  | zero => intro _; rfl
  | succ r ih =>
    intro h
    rw [pD_succ, pD_succ, ih fun j hj => h j (by omega), h r (by omega)]
theorem pD_ge (e : Nat → Nat) (h : 1 ≤ e 0) : ∀ r, 10 ^ r ≤ pD e (r + 1) := by
  intro r
  induction r with
  | zero => simpa [pD] using h
  | succ r ih => rw [pD_succ, Nat.pow_succ]; omega
theorem pD_split (e : Nat → Nat) (a : Nat) : ∀ t, pD e (a + t) = pD e a * 10 ^ t + pD (fun j => e (a + j)) t := by
  intro t
  induction t with
  | zero => simp [pD]
  | succ t ih =>
    rw [← Nat.add_assoc, pD_succ, ih, pD_succ, Nat.pow_succ, Nat.add_mul, Nat.mul_assoc]
    omega
theorem pD_zeros (e : Nat → Nat) (a t : Nat) (h : ∀ j, a ≤ j → e j = 0) : pD e (a + t) = pD e a * 10 ^ t := by
  rw [pD_split]
  have : ∀ t, pD (fun j => e (a + j)) t = 0 := by
    intro t
    induction t with
    | zero => rfl
    | succ t ih => rw [pD_succ, ih, h (a + t) (by omega)]
  rw [this]; rfl
theorem pD_mono (e : Nat → Nat) (a : Nat) : ∀ t, pD e a ≤ pD e (a + t) := by
  intro t
  induction t with
  | zero => exact Nat.le_refl _
  | succ t ih => rw [← Nat.add_assoc, pD_succ]; omega

/-- what is carried, halving by 2^k from the r-th digit on -/
def nR (e : Nat → Nat) (k r : Nat) : Nat → Nat
  | 0 => pD e r
  | i + 1 => nR e k r i % 2 ^ k * 10 + e (r + i)
def qR (e : Nat → Nat) (k r i : Nat) : Nat := nR e k r i / 2 ^ k
theorem nR_succ (e : Nat → Nat) (k r i : Nat) : nR e k r (i + 1) = nR e k r i % 2 ^ k * 10 + e (r + i) := rfl
theorem nR_lt (e : Nat → Nat) (k r : Nat) (he : ∀ j, e j < 10) (h : pD e r < 10 * 2 ^ k) : ∀ i, nR e k r i < 10 * 2 ^ k := by
  intro i
  cases i with
  | zero => exact h
  | succ i =>
    rw [nR_succ]
    have h1 : nR e k r i % 2 ^ k < 2 ^ k := Nat.mod_lt _ (Nat.two_pow_pos k)
    have h2 := he (r + i)
    omega
theorem qR_lt (e : Nat → Nat) (k r : Nat) (he : ∀ j, e j < 10) (h : pD e r < 10 * 2 ^ k) (i : Nat) : qR e k r i < 10 := by
  unfold qR
  exact (Nat.div_lt_iff_lt_mul (Nat.two_pow_pos k)).2 (nR_lt e k r he h i)
theorem nR_inv (e : Nat → Nat) (k r : Nat) : ∀ i, pD (qR e k r) i * (10 * 2 ^ k) + nR e k r i = pD e (r + i) := by
  intro i
  induction i with
  | zero => simp [pD, nR]
  | succ i ih =>
    rw [← Nat.add_assoc, pD_succ, pD_succ, nR_succ, ← ih]
    have hd := Nat.div_add_mod (nR e k r i) (2 ^ k)
    unfold qR
    rw [show (fun i => nR e k r i / 2 ^ k) = qR e k r from rfl]
    generalize nR e k r i % 2 ^ k = m at *
    generalize nR e k r i / 2 ^ k = q at *
    rw [← hd]
    generalize pD (qR e k r) i = p
    generalize e (r + i) = c
    generalize 2 ^ k = z at *
    rw [Nat.add_mul, Nat.add_mul, Nat.add_mul, Nat.mul_comm z q, Nat.mul_assoc p 10, Nat.mul_assoc p, show 10 * (10 * z) = (10 * z) * 10 by omega, ← Nat.mul_assoc q, Nat.mul_comm (q * 10) z, Nat.mul_comm q 10, ← Nat.mul_assoc z, Nat.mul_comm z 10]
    rw [Nat.mul_comm q z]
    have e1 : 10 * z * q = z * q * 10 := by rw [Nat.mul_assoc, Nat.mul_comm 10]
    omega
/-- behind the last digit it ends within k + 1 places -/
theorem nR_dvd (e : Nat → Nat) (k r a : Nat) (h : ∀ j, r + a ≤ j → e j = 0) : ∀ j, j ≤ k → 2 ^ j ∣ nR e k r (a + j) := by
  intro j
  induction j with
  | zero => intro _; simp
  | succ j ih =>
    intro hj
    have h1 := ih (by omega)
    rw [← Nat.add_assoc, nR_succ, h (r + (a + j)) (by omega), Nat.add_zero]
    have h2 : 2 ^ j ∣ nR e k r (a + j) % 2 ^ k := (Nat.dvd_mod_iff (Nat.pow_dvd_pow 2 (by omega))).2 h1
    rw [Nat.pow_succ]
    exact Nat.mul_dvd_mul h2 (by decide)
theorem nR_end (e : Nat → Nat) (k r a : Nat) (h : ∀ j, r + a ≤ j → e j = 0) : nR e k r (a + (k + 1)) = 0 := by
  have h1 := nR_dvd e k r a h k (Nat.le_refl _)
  rw [← Nat.add_assoc, nR_succ, h (r + (a + k)) (by omega), Nat.add_zero, Nat.mod_eq_zero_of_dvd h1]
theorem qR_top (e : Nat → Nat) (k r : Nat) (h : 2 ^ k ≤ pD e r) : 1 ≤ qR e k r 0 := by
  unfold qR
  exact (Nat.le_div_iff_mul_le (Nat.two_pow_pos k)).2 (by rw [Nat.one_mul]; exact h)
end Go.Proofs.YtnljpbpphdhnpaaGreatDoor

/- What a decimal that may be cut still tells of the number that it stands for. -/
namespace Go.Proofs.YtnljpbpphdhnpaaGreatDoor
open Go.RowKit Go.PlainAid

/-- the number's worth in units of 10^-B * 2^-m -/
def xD (B m N : Nat) (nd dp : Int) : Nat := N * 10 ^ (dp - nd + B).toNat * 2 ^ m
/-- of the number that a decimal stands for: F is what is whole of it (2^m times it), st whether something is left -/
structure Sees (B F : Nat) (st : Bool) (m N : Nat) (nd dp : Int) (tr : Bool) : Prop where
  wh : xD B m N nd dp / 10 ^ B = F
  sk : st = false ↔ (xD B m N nd dp % 10 ^ B = 0 ∧ tr = false)

theorem ten_pos (n : Nat) : 0 < 10 ^ n := Nat.pow_pos (by decide)
/-- cut at a unit that divides the whole -/
theorem cut_cell (X Y U Z : Nat) (hU : 0 < U) (h1 : Y ≤ X) (h2 : X < Y + U) (hY : U ∣ Y) (hZ : U ∣ Z) : X / Z = Y / Z := by
  obtain ⟨y, rfl⟩ := hY
  obtain ⟨z, rfl⟩ := hZ
  rw [← Nat.div_div_eq_div_mul, ← Nat.div_div_eq_div_mul, Nat.mul_div_cancel_left _ hU]
  congr 1
  have h3 : y ≤ X / U := (Nat.le_div_iff_mul_le hU).2 (by rw [Nat.mul_comm]; exact h1)
  have h4 : X / U < y + 1 := (Nat.div_lt_iff_lt_mul hU).2 (by rw [Nat.add_mul, Nat.one_mul, Nat.mul_comm y U]; exact h2)
  omega
theorem cut_rest (X Y U Z : Nat) (h1 : Y < X) (h2 : X < Y + U) (hY : U ∣ Y) (hZ : U ∣ Z) : X % Z ≠ 0 := by
  intro h
  have h3 : Z ∣ X := Nat.dvd_of_mod_eq_zero h
  have h4 : U ∣ X := Nat.dvd_trans hZ h3
  obtain ⟨y, rfl⟩ := hY
  obtain ⟨x, rfl⟩ := h4
  have h5 : y < x := Nat.lt_of_mul_lt_mul_left h1
  have h6 : x < y + 1 := by
    have : U * x < U * (y + 1) := by rw [Nat.mul_add, Nat.mul_one]; exact h2
    exact Nat.lt_of_mul_lt_mul_left this
  omega
theorem unit_dvd (B a m : Nat) (h : a + m ≤ B) : 10 ^ a * 2 ^ m ∣ 10 ^ B := by
  obtain ⟨c, rfl⟩ : ∃ c, B = a + m + c := ⟨B - (a + m), by omega⟩
  rw [Nat.pow_add, Nat.pow_add]
  have h1 : 2 ^ m ∣ 10 ^ m := by
    rw [show 10 = 2 * 5 by decide, Nat.mul_pow]
    exact Nat.dvd_mul_right _ _
  exact Nat.dvd_trans (Nat.mul_dvd_mul_left _ h1) (Nat.dvd_mul_right _ _)
/-- a nought more at the end, and the number of digits with it -/
theorem xD_noughts (B m N : Nat) (nd dp : Int) (t : Nat) (h : 0 ≤ dp - (nd + t) + B) : xD B m (N * 10 ^ t) (nd + t) dp = xD B m N nd dp := by
  unfold xD
  rw [show (dp - nd + (B : Int)).toNat = t + (dp - (nd + t) + (B : Int)).toNat by omega, Nat.pow_add, ← Nat.mul_assoc N]
/-- cutting digits off -/
theorem sees_cut (B F : Nat) (st : Bool) (m a t b : Nat) (nd dp : Int) (tr tr2 : Bool) (h : Sees B F st m (a * 10 ^ t + b) (nd + t) dp tr) (hb : b < 10 ^ t) (he : 0 ≤ dp - (nd + t) + B)
    (h0 : t = 0 → tr2 = tr) (h1 : t ≠ 0 → tr2 = true ∧ b ≠ 0 ∧ dp - nd + m ≤ 0) : Sees B F st m a nd dp tr2 := by
  by_cases ht : t = 0
  · subst ht
    rw [h0 rfl]
    have hb0 : b = 0 := by simpa using hb
    subst hb0
    simpa using h
  · obtain ⟨e1, e2, e3⟩ := h1 ht
    subst e1
    have hX : xD B m (a * 10 ^ t + b) (nd + t) dp = a * (10 ^ (dp - nd + B).toNat * 2 ^ m) + b * (10 ^ (dp - (nd + t) + B).toNat * 2 ^ m) := by
      unfold xD
      rw [show (dp - nd + (B : Int)).toNat = t + (dp - (nd + t) + (B : Int)).toNat by omega, Nat.pow_add, Nat.add_mul, Nat.add_mul]
      simp only [Nat.mul_assoc]
    have hY : xD B m a nd dp = a * (10 ^ (dp - nd + B).toNat * 2 ^ m) := by
      unfold xD; rw [Nat.mul_assoc]
    have hU : 0 < 10 ^ (dp - nd + B).toNat * 2 ^ m := Nat.mul_pos (ten_pos _) (Nat.two_pow_pos m)
    have hr : b * (10 ^ (dp - (nd + t) + B).toNat * 2 ^ m) < 10 ^ (dp - nd + B).toNat * 2 ^ m := by
      rw [show (dp - nd + (B : Int)).toNat = t + (dp - (nd + t) + (B : Int)).toNat by omega, Nat.pow_add, Nat.mul_assoc (10 ^ t)]
      exact Nat.mul_lt_mul_of_pos_right hb (Nat.mul_pos (ten_pos _) (Nat.two_pow_pos m))
    have hr0 : 0 < b * (10 ^ (dp - (nd + t) + B).toNat * 2 ^ m) := Nat.mul_pos (by omega) (Nat.mul_pos (ten_pos _) (Nat.two_pow_pos m))
    have hZ : 10 ^ (dp - nd + B).toNat * 2 ^ m ∣ 10 ^ B := unit_dvd B _ m (by omega)
    have hd : 10 ^ (dp - nd + B).toNat * 2 ^ m ∣ xD B m a nd dp := by rw [hY]; exact Nat.dvd_mul_left _ _
    have k1 := cut_cell (xD B m (a * 10 ^ t + b) (nd + t) dp) (xD B m a nd dp) _ (10 ^ B) hU (by rw [hX, hY]; omega) (by rw [hX, hY]; omega) hd hZ
    have k2 := cut_rest (xD B m (a * 10 ^ t + b) (nd + t) dp) (xD B m a nd dp) _ (10 ^ B) (by rw [hX, hY]; omega) (by rw [hX, hY]; omega) hd hZ
    refine ⟨by rw [← k1]; exact h.wh, ?_⟩
    constructor
    · intro hs
      exact absurd (h.sk.1 hs).1 k2
    · intro hs
      exact absurd hs.2 (by simp)
theorem sees_trim (B F : Nat) (st : Bool) (m N : Nat) (nd dp : Int) (tr : Bool) (t : Nat) (he : 0 ≤ dp - (nd + t) + B) (h : Sees B F st m (N * 10 ^ t) (nd + t) dp tr) : Sees B F st m N nd dp tr := by
  have e := xD_noughts B m N nd dp t he
  exact ⟨by rw [← e]; exact h.wh, by rw [← e]; exact h.sk⟩
/-- halving: the quotient's digits, all of them -/
theorem sees_half (B F : Nat) (st : Bool) (m N : Nat) (nd dp : Int) (tr : Bool) (k Q : Nat) (r T : Int) (hrT : 0 ≤ r + T - nd) (he : 0 ≤ dp - (r - 1) - T + B) (he2 : 0 ≤ dp - nd + B) (hQ : Q * (10 * 2 ^ k) = N * 10 ^ (r + T - nd).toNat)
    (h : Sees B F st m N nd dp tr) : Sees B F st (m + k) Q T (dp - (r - 1)) tr := by
  have e : xD B (m + k) Q T (dp - (r - 1)) = xD B m N nd dp := by
    have h10 : 10 * xD B (m + k) Q T (dp - (r - 1)) = 10 * xD B m N nd dp := by
      unfold xD
      have e1 : 10 * (Q * 10 ^ (dp - (r - 1) - T + (B : Int)).toNat * 2 ^ (m + k)) = Q * (10 * 2 ^ k) * 10 ^ (dp - (r - 1) - T + (B : Int)).toNat * 2 ^ m := by
        rw [Nat.pow_add]
        simp only [Nat.mul_assoc, Nat.mul_left_comm, Nat.mul_comm]
      rw [e1, hQ, Nat.mul_assoc N, ← Nat.pow_add, show (r + T - nd).toNat + (dp - (r - 1) - T + (B : Int)).toNat = (dp - nd + (B : Int)).toNat + 1 by omega, Nat.pow_succ]
      simp only [Nat.mul_left_comm, Nat.mul_comm]
    omega
  exact ⟨by rw [e]; exact h.wh, by rw [e]; exact h.sk⟩
/-- doubling: all digits -/
theorem sees_double (B F : Nat) (st : Bool) (m N : Nat) (nd dp : Int) (tr : Bool) (k : Nat) (δ : Int) (h : Sees B F st (m + k) N nd dp tr) : Sees B F st m (N * 2 ^ k) (nd + δ) (dp + δ) tr := by
  have e : xD B m (N * 2 ^ k) (nd + δ) (dp + δ) = xD B (m + k) N nd dp := by
    unfold xD
    rw [show (dp + δ - (nd + δ) + (B : Int)) = dp - nd + (B : Int) by omega, Nat.pow_add]
    simp only [Nat.mul_assoc, Nat.mul_left_comm, Nat.mul_comm]
  exact ⟨by rw [e]; exact h.wh, by rw [e]; exact h.sk⟩
end Go.Proofs.YtnljpbpphdhnpaaGreatDoor

/- Doubling a row of digits, from its end on; how many digits come ahead. -/
namespace Go.Proofs.YtnljpbpphdhnpaaGreatDoor
open Go.RowKit Go.PlainAid

/-- digits from the lowest place on -/
def sR (f : Nat → Nat) : Nat → Nat
  | 0 => 0
  | i + 1 => sR f i + f i * 10 ^ i
theorem pD_rev (f : Nat → Nat) : ∀ L, pD (fun x => f (L - 1 - x)) L = sR f L := by
  intro L
  induction L with
  | zero => rfl
  | succ L ih =>
    have h := pD_split (fun x => f (L + 1 - 1 - x)) 1 L
    rw [Nat.add_comm 1 L] at h
    rw [h]
    have h1 : pD (fun x => f (L + 1 - 1 - x)) 1 = f L := by simp [pD]
    have h2 : pD (fun j => f (L + 1 - 1 - (1 + j))) L = pD (fun x => f (L - 1 - x)) L := pD_congr _ _ _ fun j _ => by rw [show L + 1 - 1 - (1 + j) = L - 1 - j by omega]
    rw [h1, h2, ih]
    show _ = sR f L + f L * 10 ^ L
    omega
/-- the digits of e from the end on, noughts ahead of the first -/
def eR (e : Nat → Nat) (nd i : Nat) : Nat := if i < nd then e (nd - 1 - i) else 0
def tL (e : Nat → Nat) (nd k : Nat) : Nat → Nat
  | 0 => 0
  | i + 1 => (tL e nd k i + eR e nd i * 2 ^ k) / 10
def sL (e : Nat → Nat) (nd k i : Nat) : Nat := tL e nd k i + eR e nd i * 2 ^ k
def rL (e : Nat → Nat) (nd k i : Nat) : Nat := sL e nd k i % 10
theorem tL_succ (e : Nat → Nat) (nd k i : Nat) : tL e nd k (i + 1) = sL e nd k i / 10 := rfl
theorem tL_le (e : Nat → Nat) (nd k : Nat) (he : ∀ j, e j < 10) : ∀ i, tL e nd k i ≤ 2 ^ k := by
  intro i
  induction i with
  | zero => exact Nat.zero_le _
  | succ i ih =>
    rw [tL_succ]
    unfold sL
    have h : eR e nd i ≤ 9 := by
      unfold eR; split
      · have := he (nd - 1 - i); omega
      · omega
    have h2 : eR e nd i * 2 ^ k ≤ 9 * 2 ^ k := Nat.mul_le_mul_right _ h
    omega
theorem tL_inv (e : Nat → Nat) (nd k : Nat) : ∀ i, sR (eR e nd) i * 2 ^ k = tL e nd k i * 10 ^ i + sR (rL e nd k) i := by
  intro i
  induction i with
  | zero => simp [sR, tL]
  | succ i ih =>
    show (sR (eR e nd) i + eR e nd i * 10 ^ i) * 2 ^ k = tL e nd k (i + 1) * 10 ^ (i + 1) + (sR (rL e nd k) i + rL e nd k i * 10 ^ i)
    rw [tL_succ, Nat.add_mul, ih]
    have h : eR e nd i * 2 ^ k + tL e nd k i = sL e nd k i / 10 * 10 + rL e nd k i := by
      unfold rL
      have := Nat.div_add_mod (sL e nd k i) 10
      have h9 : sL e nd k i = tL e nd k i + eR e nd i * 2 ^ k := rfl
      omega
    generalize sL e nd k i / 10 = q at *
    generalize rL e nd k i = r at *
    generalize tL e nd k i = t at *
    have h2 : (eR e nd i * 2 ^ k + t) * 10 ^ i = (q * 10 + r) * 10 ^ i := by rw [h]
    rw [Nat.add_mul, Nat.add_mul] at h2
    have h3 : eR e nd i * 10 ^ i * 2 ^ k = eR e nd i * 2 ^ k * 10 ^ i := by rw [Nat.mul_assoc, Nat.mul_comm (10 ^ i), ← Nat.mul_assoc]
    have h4 : q * 10 ^ (i + 1) = q * 10 * 10 ^ i := by rw [Nat.pow_succ, Nat.mul_assoc, Nat.mul_comm 10]
    rw [h3, h4]
    omega
theorem sR_eR (e : Nat → Nat) (nd : Nat) : ∀ j, sR (eR e nd) (nd + j) = pD e nd := by
  intro j
  induction j with
  | zero =>
    rw [Nat.add_zero, ← pD_rev]
    refine pD_congr _ _ _ fun x hx => ?_
    unfold eR
    rw [if_pos (by omega), show nd - 1 - (nd - 1 - x) = x by omega]
  | succ j ih =>
    show sR (eR e nd) (nd + j) + eR e nd (nd + j) * 10 ^ (nd + j) = _
    rw [ih]
    unfold eR
    rw [if_neg (by omega), Nat.zero_mul, Nat.add_zero]
theorem tL_div (e : Nat → Nat) (nd k j : Nat) : tL e nd k (nd + j) = pD e nd * 2 ^ k / 10 ^ (nd + j) := by
  have h := tL_inv e nd k (nd + j)
  rw [sR_eR] at h
  rw [h]
  have h2 : sR (rL e nd k) (nd + j) < 10 ^ (nd + j) := by
    rw [← pD_rev]
    refine pD_lt _ _ fun x _ => ?_
    exact Nat.mod_lt _ (by decide)
  rw [Nat.add_comm (tL e nd k (nd + j) * _), Nat.add_mul_div_right _ _ (ten_pos _), Nat.div_eq_of_lt h2, Nat.zero_add]
/-- the digits that are written -/
def oL (e : Nat → Nat) (nd k L x : Nat) : Nat := rL e nd k (L - 1 - x)
theorem oL_num (e : Nat → Nat) (nd k j : Nat) (h : tL e nd k (nd + j) = 0) : pD (oL e nd k (nd + j)) (nd + j) = pD e nd * 2 ^ k := by
  have h2 := tL_inv e nd k (nd + j)
  rw [sR_eR, h, Nat.zero_mul, Nat.zero_add] at h2
  rw [h2, ← pD_rev]
  rfl
theorem oL_lt (e : Nat → Nat) (nd k L x : Nat) : oL e nd k L x < 10 := Nat.mod_lt _ (by decide)
theorem first_pos (f : Nat → Nat) (L : Nat) (hf : ∀ j, f j < 10) (h : 10 ^ L ≤ pD f (L + 1)) : 1 ≤ f 0 := by
  have h1 := pD_split f 1 L
  rw [Nat.add_comm 1 L] at h1
  have h2 := pD_lt (fun j => f (1 + j)) L fun j _ => hf _
  have h3 : pD f 1 = f 0 := by simp [pD]
  rw [h3] at h1
  rcases Nat.eq_zero_or_pos (f 0) with h4 | h4
  · rw [h4, Nat.zero_mul] at h1; omega
  · exact h4
/-- of two rows of digits, with the same beginning, the first that differs tells -/
theorem lex_lt (e c : Nat → Nat) (L i : Nat) (hi : i < L) (he : ∀ j, e j < 10) (hs : ∀ j, j < i → e j = c j) (h : e i < c i) : pD e L < pD c L := by
  obtain ⟨t, rfl⟩ : ∃ t, L = i + 1 + t := ⟨L - (i + 1), by omega⟩
  rw [pD_split e (i + 1) t, pD_split c (i + 1) t, pD_succ, pD_succ, pD_congr e c i hs]
  have h2 := pD_lt (fun j => e (i + 1 + j)) t fun j _ => he _
  have h3 : (pD c i * 10 + e i + 1) * 10 ^ t ≤ (pD c i * 10 + c i) * 10 ^ t := Nat.mul_le_mul_right _ (by omega)
  rw [Nat.add_mul (pD c i * 10 + e i) 1, Nat.one_mul] at h3
  omega
/-- how many digits come ahead -/
theorem ahead_is (e : Nat → Nat) (nd k δ len : Nat) (he : ∀ j, e j < 10) (hz : ∀ j, nd ≤ j → e j = 0) (h0 : 1 ≤ e 0) (hn : 0 < nd) (hδ : δ + len = k + 1) (hδ1 : 1 ≤ δ) (c1 : 2 ^ k ≤ 10 ^ δ) (c2 : 10 ^ (δ - 1) ≤ 2 ^ k) :
    (pD e len < 5 ^ k → pD e nd * 2 ^ k < 10 ^ (δ - 1 + nd) ∧ (1 < δ → 10 ^ (δ - 2 + nd) ≤ pD e nd * 2 ^ k)) ∧ (5 ^ k ≤ pD e len → pD e nd * 2 ^ k < 10 ^ (δ + nd) ∧ 10 ^ (δ - 1 + nd) ≤ pD e nd * 2 ^ k) := by
  have hW : pD e (nd + len) = pD e nd * 10 ^ len := pD_zeros e nd len hz
  have hW2 := pD_split e len nd
  rw [Nat.add_comm len nd, hW] at hW2
  have ht := pD_lt (fun j => e (len + j)) nd fun j _ => he _
  have hlt := pD_lt e nd fun j _ => he j
  have hge : 10 ^ (nd - 1) ≤ pD e nd := by
    have := pD_ge e h0 (nd - 1)
    rwa [show nd - 1 + 1 = nd by omega] at this
  have h10 : 5 ^ k * 2 ^ k = 10 ^ (δ - 1) * 10 ^ len := by
    rw [← Nat.mul_pow, ← Nat.pow_add, show δ - 1 + len = k by omega]
  have hcancel : ∀ a b : Nat, a * 10 ^ len < b * 10 ^ len → a < b := fun a b h => Nat.lt_of_mul_lt_mul_right h
  have hcancel2 : ∀ a b : Nat, a * 10 ^ len ≤ b * 10 ^ len → a ≤ b := fun a b h => Nat.le_of_mul_le_mul_right h (ten_pos len)
  refine ⟨fun h => ⟨?_, fun hd => ?_⟩, fun h => ⟨?_, ?_⟩⟩
  · refine hcancel _ _ ?_
    have h1 : (pD e len + 1) * 10 ^ nd ≤ 5 ^ k * 10 ^ nd := Nat.mul_le_mul_right _ h
    rw [Nat.add_mul, Nat.one_mul] at h1
    have h2 : pD e nd * 10 ^ len < 5 ^ k * 10 ^ nd := by omega
    have h3 : pD e nd * 10 ^ len * 2 ^ k < 5 ^ k * 10 ^ nd * 2 ^ k := Nat.mul_lt_mul_of_pos_right h2 (Nat.two_pow_pos k)
    have e1 : pD e nd * 2 ^ k * 10 ^ len = pD e nd * 10 ^ len * 2 ^ k := by rw [Nat.mul_assoc, Nat.mul_comm (2 ^ k), ← Nat.mul_assoc]
    have e2 : 10 ^ (δ - 1 + nd) * 10 ^ len = 5 ^ k * 10 ^ nd * 2 ^ k := by
      rw [Nat.mul_assoc (5 ^ k), Nat.mul_comm (10 ^ nd), ← Nat.mul_assoc, h10, Nat.pow_add, Nat.mul_assoc, Nat.mul_comm (10 ^ nd), ← Nat.mul_assoc]
    rw [e1, e2]; exact h3
  · have h1 : 10 ^ (nd - 1) * 10 ^ (δ - 1) ≤ pD e nd * 2 ^ k := Nat.mul_le_mul hge c2
    rw [← Nat.pow_add, show nd - 1 + (δ - 1) = δ - 2 + nd by omega] at h1
    exact h1
  · have h1 : pD e nd * 2 ^ k < 10 ^ nd * 2 ^ k := Nat.mul_lt_mul_of_pos_right hlt (Nat.two_pow_pos k)
    have h2 : 10 ^ nd * 2 ^ k ≤ 10 ^ nd * 10 ^ δ := Nat.mul_le_mul_left _ c1
    rw [← Nat.pow_add, Nat.add_comm nd δ] at h2
    omega
  · refine hcancel2 _ _ ?_
    have h1 : 5 ^ k * 10 ^ nd ≤ pD e len * 10 ^ nd := Nat.mul_le_mul_right _ h
    have h2 : 5 ^ k * 10 ^ nd ≤ pD e nd * 10 ^ len := by omega
    have h3 : 5 ^ k * 10 ^ nd * 2 ^ k ≤ pD e nd * 10 ^ len * 2 ^ k := Nat.mul_le_mul_right _ h2
    have e1 : pD e nd * 2 ^ k * 10 ^ len = pD e nd * 10 ^ len * 2 ^ k := by rw [Nat.mul_assoc, Nat.mul_comm (2 ^ k), ← Nat.mul_assoc]
    have e2 : 10 ^ (δ - 1 + nd) * 10 ^ len = 5 ^ k * 10 ^ nd * 2 ^ k := by
      rw [Nat.mul_assoc (5 ^ k), Nat.mul_comm (10 ^ nd), ← Nat.mul_assoc, h10, Nat.pow_add, Nat.mul_assoc, Nat.mul_comm (10 ^ nd), ← Nat.mul_assoc]
    rw [e1, e2]; exact h3
end Go.Proofs.YtnljpbpphdhnpaaGreatDoor

/- The library's decimal in memory: its digits, how many, its point, its two marks. -/
namespace Go.Proofs.YtnljpbpphdhnpaaGreatDoor
open Go.RowKit Go.PlainAid

def upD (D : Nat → Int) (i : Nat) (x : Int) : Nat → Int := fun j => if j = i then x else D j
theorem upD_same (D : Nat → Int) (i : Nat) (x : Int) : upD D i x i = x := by simp [upD]
theorem upD_other (D : Nat → Int) (i j : Nat) (x : Int) (h : j ≠ i) : upD D i x j = D j := by simp [upD, h]

structure DecC (w : World) (b : Nat) (D : Nat → Int) (nd dp : Int) (tr : Bool) : Prop where
  dg : ∀ j, j < 800 → w.cell? ⟨b, j, none⟩ = some (.int .u8 (D j))
  nd : w.cell? ⟨b, 800, none⟩ = some (.int .i64 nd)
  dp : w.cell? ⟨b, 801, none⟩ = some (.int .i64 dp)
  ng : w.cell? ⟨b, 802, none⟩ = some (.bool false)
  tr : w.cell? ⟨b, 803, none⟩ = some (.bool tr)
  fz : ∀ j, j < 804 → w.frozen? ⟨b, j, none⟩ = false

variable {w w' : World} {b : Nat} {D : Nat → Int} {nd dp : Int} {tr : Bool}
theorem DecC.lt (h : DecC w b D nd dp tr) : b < w.heap.size := World.block_lt_of_cell? w _ h.nd
theorem DecC.keep {F : List Nat} (h : DecC w b D nd dp tr) (k : Keep F w w') (hn : b ∉ F) : DecC w' b D nd dp tr :=
  ⟨fun j hj => k.cell' (h.dg j hj) hn, k.cell' h.nd hn, k.cell' h.dp hn, k.cell' h.ng hn, k.cell' h.tr hn, fun j hj => (k.frozen (p := ⟨b, j, none⟩) h.lt hn).trans (h.fz j hj)⟩
theorem DecC.drewN (h : DecC w b D nd dp tr) (n : Nat) : DecC (w.drewN n) b D nd dp tr := ⟨h.dg, h.nd, h.dp, h.ng, h.tr, h.fz⟩
theorem ne_cell (b i j : Nat) (h : j ≠ i) : (⟨b, j, none⟩ : Addr) ≠ ⟨b, i, none⟩ := by
  intro e; injection e with _ e2 _; exact h e2
theorem fz_set (w : World) (p q : Addr) (v : Value) : (w.setCell p v).frozen? q = w.frozen? q := World.frozen?_setCell w p q v
theorem DecC.put_d (h : DecC w b D nd dp tr) (i : Nat) (x : Int) (hi : i < 800) : DecC (w.setCell ⟨b, i, none⟩ (.int .u8 x)) b (upD D i x) nd dp tr := by
  refine ⟨fun j hj => ?_, ?_, ?_, ?_, ?_, fun j hj => (fz_set _ _ _ _).trans (h.fz j hj)⟩
  · by_cases e : j = i
    · subst e
      rw [upD_same]
      exact World.cell?_setCell_same _ _ _ (h.dg j hj)
    · rw [upD_other _ _ _ _ e]
      exact (World.cell?_setCell_other _ _ _ _ (ne_cell b i j e).symm).trans (h.dg j hj)
  · exact (World.cell?_setCell_other _ _ _ _ (ne_cell b i 800 (by omega)).symm).trans h.nd
  · exact (World.cell?_setCell_other _ _ _ _ (ne_cell b i 801 (by omega)).symm).trans h.dp
  · exact (World.cell?_setCell_other _ _ _ _ (ne_cell b i 802 (by omega)).symm).trans h.ng
  · exact (World.cell?_setCell_other _ _ _ _ (ne_cell b i 803 (by omega)).symm).trans h.tr
theorem DecC.put_nd (h : DecC w b D nd dp tr) (x : Int) : DecC (w.setCell ⟨b, 800, none⟩ (.int .i64 x)) b D x dp tr :=
  ⟨fun j hj => (World.cell?_setCell_other _ _ _ _ (ne_cell b 800 j (by omega)).symm).trans (h.dg j hj), World.cell?_setCell_same _ _ _ h.nd,
    (World.cell?_setCell_other _ _ _ _ (ne_cell b 800 801 (by omega)).symm).trans h.dp, (World.cell?_setCell_other _ _ _ _ (ne_cell b 800 802 (by omega)).symm).trans h.ng,
    (World.cell?_setCell_other _ _ _ _ (ne_cell b 800 803 (by omega)).symm).trans h.tr, fun j hj => (fz_set _ _ _ _).trans (h.fz j hj)⟩
theorem DecC.put_dp (h : DecC w b D nd dp tr) (x : Int) : DecC (w.setCell ⟨b, 801, none⟩ (.int .i64 x)) b D nd x tr :=
  ⟨fun j hj => (World.cell?_setCell_other _ _ _ _ (ne_cell b 801 j (by omega)).symm).trans (h.dg j hj), (World.cell?_setCell_other _ _ _ _ (ne_cell b 801 800 (by omega)).symm).trans h.nd,
    World.cell?_setCell_same _ _ _ h.dp, (World.cell?_setCell_other _ _ _ _ (ne_cell b 801 802 (by omega)).symm).trans h.ng,
    (World.cell?_setCell_other _ _ _ _ (ne_cell b 801 803 (by omega)).symm).trans h.tr, fun j hj => (fz_set _ _ _ _).trans (h.fz j hj)⟩
theorem DecC.put_ng (h : DecC w b D nd dp tr) : DecC (w.setCell ⟨b, 802, none⟩ (.bool false)) b D nd dp tr :=
  ⟨fun j hj => (World.cell?_setCell_other _ _ _ _ (ne_cell b 802 j (by omega)).symm).trans (h.dg j hj), (World.cell?_setCell_other _ _ _ _ (ne_cell b 802 800 (by omega)).symm).trans h.nd,
    (World.cell?_setCell_other _ _ _ _ (ne_cell b 802 801 (by omega)).symm).trans h.dp, World.cell?_setCell_same _ _ _ h.ng,
    (World.cell?_setCell_other _ _ _ _ (ne_cell b 802 803 (by omega)).symm).trans h.tr, fun j hj => (fz_set _ _ _ _).trans (h.fz j hj)⟩
theorem DecC.put_tr (h : DecC w b D nd dp tr) (x : Bool) : DecC (w.setCell ⟨b, 803, none⟩ (.bool x)) b D nd dp x :=
  ⟨fun j hj => (World.cell?_setCell_other _ _ _ _ (ne_cell b 803 j (by omega)).symm).trans (h.dg j hj), (World.cell?_setCell_other _ _ _ _ (ne_cell b 803 800 (by omega)).symm).trans h.nd,
    (World.cell?_setCell_other _ _ _ _ (ne_cell b 803 801 (by omega)).symm).trans h.dp, (World.cell?_setCell_other _ _ _ _ (ne_cell b 803 802 (by omega)).symm).trans h.ng,
    World.cell?_setCell_same _ _ _ h.tr, fun j hj => (fz_set _ _ _ _).trans (h.fz j hj)⟩

/-- the digits as numbers, noughts behind the last one -/
def eD (D : Nat → Int) (nd : Nat) (j : Nat) : Nat := if j < nd then (D j - 48).toNat else 0
/-- each of the first nd is a digit -/
def DgD (D : Nat → Int) (nd : Nat) : Prop := ∀ j, j < nd → 48 ≤ D j ∧ D j ≤ 57
theorem eD_lt {D : Nat → Int} {nd : Nat} (h : DgD D nd) (j : Nat) : eD D nd j < 10 := by
  unfold eD
  split
  · rename_i hj; have := h j hj; omega
  · decide
theorem eD_val {D : Nat → Int} {nd : Nat} (h : DgD D nd) (j : Nat) (hj : j < nd) : D j = (eD D nd j : Int) + 48 := by
  unfold eD
  rw [if_pos hj]
  have := h j hj
  omega
theorem eD_out (D : Nat → Int) (nd j : Nat) (h : nd ≤ j) : eD D nd j = 0 := by
  unfold eD; rw [if_neg (by omega)]
end Go.Proofs.YtnljpbpphdhnpaaGreatDoor

/- The library's parseFloat32: of every number of 64 bits by ten to -70 .. 40 it is the document's Nearest. -/
namespace Go.Proofs.YtnljpbpphdhnpaaGreatDoor
open Go.RowKit Go.PlainAid

def pwZ (p : Int) : Prop := 2 ^ (lpZ p + 400).toNat * 10 ^ (-p).toNat ≤ 10 ^ p.toNat * 2 ^ 400 ∧ 200 * 10 ^ p.toNat * 2 ^ 400 < 199 * 2 ^ (lpZ p + 401).toNat * 10 ^ (-p).toNat ∧ -233 ≤ lpZ p ∧ lpZ p ≤ 132
instance (p : Int) : Decidable (pwZ p) := by unfold pwZ; infer_instance
theorem pws : ∀ j : Nat, j < 111 → pwZ ((j : Int) - 70) := by decide +kernel
/-- how great the number is -/
theorem z_bounds (d : Nat) (p : Int) (l : Nat) (h0 : 0 < d) (h1 : -70 ≤ p) (h2 : p ≤ 40) (hl : (l : Int) = lpZ p + 400) :
    10 ^ (-p).toNat * 2 ^ (d.log2 + l) ≤ d * 10 ^ p.toNat * 2 ^ 400 ∧ 200 * (d * 10 ^ p.toNat) * 2 ^ 400 < 199 * (10 ^ (-p).toNat * 2 ^ (d.log2 + l + 2)) := by
  obtain ⟨a1, a2, a3, a4⟩ : pwZ p := by
    have := pws (p + 70).toNat (by omega)
    rwa [show (((p + 70).toNat : Nat) : Int) - 70 = p by omega] at this
  have d1 : 2 ^ d.log2 ≤ d := Nat.log2_self_le (by omega)
  have d2 : d < 2 ^ (d.log2 + 1) := Nat.lt_log2_self
  rw [show (lpZ p + 400).toNat = l by omega] at a1
  rw [show (lpZ p + 401).toNat = l + 1 by omega] at a2
  have e1 : 2 ^ (d.log2 + l) = 2 ^ d.log2 * 2 ^ l := Nat.pow_add _ _ _
  have e2 : 2 ^ (d.log2 + l + 2) = 2 ^ (d.log2 + 1) * 2 ^ (l + 1) := by rw [← Nat.pow_add]; congr 1; omega
  rw [e1, e2]
  generalize 2 ^ d.log2 = x at *
  generalize 2 ^ (d.log2 + 1) = y at *
  generalize 2 ^ l = z at *
  generalize 2 ^ (l + 1) = z2 at *
  generalize 10 ^ (-p).toNat = B at *
  generalize 10 ^ p.toNat = U at *
  generalize (2 : Nat) ^ 400 = T at *
  refine ⟨?_, ?_⟩
  · calc B * (x * z) = x * (z * B) := by ac_rfl
      _ ≤ d * (U * T) := Nat.mul_le_mul d1 a1
      _ = d * U * T := by ac_rfl
  · calc 200 * (d * U) * T = d * (200 * U * T) := by ac_rfl
      _ < y * (199 * z2 * B) := Nat.mul_lt_mul_of_lt_of_lt d2 a2
      _ = 199 * (B * (y * z2)) := by ac_rfl
theorem u_up (A B T D k : Nat) (hk : 2 ^ k ≤ 2 ^ D * 33554432 * T) (h : 200 * A * T < 199 * (B * 2 ^ k)) : 200 * A < 6677331968 * (B * 2 ^ D) := by
  have h2 : 199 * (B * 2 ^ k) ≤ 199 * (B * (2 ^ D * 33554432 * T)) := Nat.mul_le_mul_left _ (Nat.mul_le_mul_left _ hk)
  have h3 : 200 * A * T < 6677331968 * (B * 2 ^ D) * T := by
    refine Nat.lt_of_lt_of_le h (Nat.le_trans h2 (Nat.le_of_eq ?_))
    rw [show (6677331968 : Nat) = 199 * 33554432 by decide]
    ac_rfl
  exact Nat.lt_of_mul_lt_mul_right h3
/-- the table's row of ten to the power p -/
structure TabZ (w : World) (p : Int) : Prop where
  hi : w.cell? ⟨15, (348 + p).toNat * 2, none⟩ = some (.int .u64 ((hiZ p : Nat) : Int))
  lo : w.cell? ⟨15, (348 + p).toNat * 2 + 1, none⟩ = some (.int .u64 ((loZ p : Nat) : Int))
def erR (R : Nat) : Value := if R = 2139095040 then errRange else .nilIface
theorem lessU_low (u : Nat) (h : 67108862 ≤ u) : 8388608 ≤ rndU (lessU u) := by
  have : 33554431 ≤ lessU u := by unfold lessU; split <;> omega
  unfold rndU
  omega
theorem and31_low (m : Nat) (h : m < 16777216) : bits .and .u32 (m : Int) 2147483648 = 0 := by
  have h1 := u32_and_nat m 2147483648 (by omega) (by decide)
  have h3 : m &&& 2147483648 = 0 := by
    have h4 : m &&& 2 ^ 31 = 0 := by
      apply Nat.eq_of_testBit_eq
      intro i
      rw [Nat.testBit_and, Nat.testBit_two_pow]
      by_cases hi : 31 = i
      · subst hi
        rw [Nat.testBit_lt_two_pow (by omega)]
        simp
      · simp [hi]
    simpa using h4
  rw [h3] at h1
  exact h1
theorem pack_over (m : Nat) (E : Int) (h1 : 8388608 ≤ m) (h2 : m < 16777216) (hE : 105 ≤ E) (w : World) :
    Calls Tryz.prog 190 #[.int .u32 (m : Int), .int .i64 E] w fun e w' => e = .returned (.tuple #[.float .f32 2139095040, errRange]) ∧ w' = w :=
  pack_over_raw (m : Int) E (and23_bits m h1 h2) (and31_low m h2) (by decide) hE w
/-- what is packed, and whether it is too great -/
theorem pack_all (m D : Nat) (E : Int) (hE : E = (D : Int) - 149) (h1 : 8388608 ≤ m ∨ D = 0) (h2 : m < 16777216) (R : Nat) (hR : R = if 254 ≤ D then 2139095040 else D * 8388608 + m) (w : World) :
    Calls Tryz.prog 190 #[.int .u32 (m : Int), .int .i64 E] w fun e w' => e = .returned (.tuple #[.float .f32 R, erR R]) ∧ w' = w := by
  by_cases h : 254 ≤ D
  · rw [if_pos h] at hR
    subst hR
    exact pack_over m E (by omega) h2 (by omega) w
  · rw [if_neg h] at hR
    have e : erR R = .nilIface := by unfold erR; rw [if_neg (by omega)]
    rw [e]
    by_cases h3 : m < 8388608
    · obtain rfl : D = 0 := by omega
      rw [Nat.zero_mul, Nat.zero_add] at hR
      subst hR
      exact pack_small R E h3 w
    · have := pack_any m E (D + 1) (by omega) h2 (by omega) (by omega) w
      rw [show m - 8388608 + (D + 1) * 8388608 = R by omega] at this
      exact this
/-- what the numbers say of each other -/
theorem n_facts {z u n : Nat} (h4 : z / 4 = n) (h1 : z ≤ u) (h2 : u ≤ 2 * (z / 2) + 1) : (u < 67108862 → n < 16777216 ∧ rndU u < 16777216) ∧ (67108862 ≤ u → 16777215 ≤ n ∧ (n < 16777216 → u = 67108862 ∨ u = 67108863)) ∧ (n < 33386660 → u < 133546700 ∧ rndU (lessU u) < 16777216) := by
  refine ⟨fun h => ⟨by omega, by unfold rndU; omega⟩, fun h => ⟨by omega, fun _ => by omega⟩, fun h => ?_⟩
  have hu : u < 133546700 := by omega
  have hy : lessU u < 66773400 := by unfold lessU; split <;> omega
  exact ⟨hu, by unfold rndU; omega⟩
theorem n_up {n X Q : Nat} (h : n * Q ≤ X) (hu : 200 * X < 6677331968 * Q) : n < 33386660 := by
  have h2 : 200 * n * Q < 6677331968 * Q := by
    rw [Nat.mul_assoc]
    exact Nat.lt_of_le_of_lt (Nat.mul_le_mul_left 200 h) hu
  have := Nat.lt_of_mul_lt_mul_right h2
  omega
theorem d_max : 253 * 8388608 + 16777216 = 2139095040 := by decide
theorem near_u (A B D m u : Nat) (hB : 0 < B) (hl : LowB A B m) (hlow : 8388608 ≤ A * 2 ^ 149 / (B * 2 ^ D) ∨ D = 0) (hup : 200 * (A * 2 ^ 149) < 6677331968 * (B * 2 ^ D)) (hu : uN (4 * (A * 2 ^ 149)) (B * 2 ^ D) = u) :
    u < 133546700 ∧
    (u < 67108862 → nearB A B m = (if 254 ≤ D then 2139095040 else D * 8388608 + rndU u) ∧ rndU u < 16777216 ∧ (8388608 ≤ rndU u ∨ D = 0)) ∧
    (67108862 ≤ u → nearB A B m = (if 254 ≤ D + 1 then 2139095040 else (D + 1) * 8388608 + rndU (lessU u)) ∧ rndU (lessU u) < 16777216 ∧ 8388608 ≤ rndU (lessU u)) := by
  have hQ : 0 < B * 2 ^ D := Nat.mul_pos hB (Nat.two_pow_pos D)
  obtain ⟨n, hn⟩ : ∃ n, A * 2 ^ 149 / (B * 2 ^ D) = n := ⟨_, rfl⟩
  have e4 : 4 * (A * 2 ^ 149) / (B * 2 ^ D) / 4 = n := by
    rw [Nat.div_div_eq_div_mul, Nat.mul_comm _ 4, Nat.mul_div_mul_left _ _ (by decide), hn]
  have hb := uN_between (4 * (A * 2 ^ 149)) (B * 2 ^ D)
  rw [hu] at hb
  obtain ⟨f1, f2, f3⟩ := n_facts e4 hb.1 hb.2
  have hn3 : n < 33386660 := n_up (by rw [← hn]; exact Nat.div_mul_le_self _ _) hup
  obtain ⟨f4, f5⟩ := f3 hn3
  have e5 : A * 2 ^ 149 / (B * 2 ^ (D + 1)) = n / 2 := by
    rw [show B * 2 ^ (D + 1) = B * 2 ^ D * 2 by rw [Nat.pow_succ 2 D, Nat.mul_assoc], ← Nat.div_div_eq_div_mul, hn]
  have hr := rnd_uN (4 * (A * 2 ^ 149)) (B * 2 ^ D) hQ
  rw [hu, e4] at hr
  have hge : n ≤ rndU u := by rw [hr]; exact Nat.le_add_right _ _
  clear hr hb f3 e4
  rw [hn] at hlow
  refine ⟨f4, fun h => ?_, fun h => ?_⟩
  · obtain ⟨g1, g2⟩ := f1 h
    have g3 : 8388608 ≤ rndU u ∨ D = 0 := by
      rcases hlow with k | k
      · left; exact Nat.le_trans k hge
      · right; exact k
    refine ⟨?_, g2, g3⟩
    by_cases hD : 254 ≤ D
    · rw [if_pos hD]
      refine near_inf A B D m hB hl ?_ hD
      rw [hn]
      rcases hlow with k | k
      · exact k
      · subst k; exact absurd hD (by decide)
    · rw [if_neg hD, ← hu]
      refine near_cut A B D m hB hl (by rw [hn]; exact hlow) (by rw [hn]; exact g1) ?_
      rw [hn]
      clear hup hl hu e5
      omega
  · obtain ⟨g1, g2⟩ := f2 h
    refine ⟨?_, f5, lessU_low u h⟩
    by_cases hD : 254 ≤ D
    · rw [if_pos (Nat.le_succ_of_le hD)]
      refine near_inf A B D m hB hl ?_ hD
      rw [hn]
      exact Nat.le_trans (by decide) g1
    · by_cases hD2 : 254 ≤ D + 1
      · rw [if_pos hD2]
        obtain rfl : D = 253 := by clear hup hl hu e5 hn hlow hQ; omega
        by_cases hn2 : 16777216 ≤ n
        · refine near_inf A B 254 m hB hl ?_ (by decide)
          rw [e5]
          clear hup hl hu e5 hn hlow hQ
          omega
        · have hn4 : n = 16777215 := by clear hup hl hu e5 hn hlow hQ; omega
          have := near_cut A B 253 m hB hl (by left; rw [hn, hn4]; decide) (by rw [hn, hn4]; decide) (by rw [hn, hn4]; decide)
          rw [this, hu]
          rcases g2 (by rw [hn4]; decide) with e | e
          · rw [e]; exact d_max
          · rw [e]; exact d_max
      · rw [if_neg hD2, ← hu]
        refine (near_less A B D m hB hl (by rw [hu]; exact h) ?_ ?_).1
        · rw [e5]; clear hup hl hu e5 hn hlow hQ; omega
        · rw [e5]; clear hup hl hu e5 hn hlow hQ; omega
end Go.Proofs.YtnljpbpphdhnpaaGreatDoor

/- The library's parseFloat32: of every number of 64 bits by ten to -70 .. 40 it is the document's Nearest. -/
namespace Go.Proofs.YtnljpbpphdhnpaaGreatDoor
open Go.RowKit Go.PlainAid

theorem pow_le_two {a b : Nat} (h : a ≤ b) : 2 ^ a ≤ 2 ^ b := Nat.pow_le_pow_right (by decide) h
theorem pow_23 (a b c d e : Nat) (h : a + b = c + d + e) : (2 : Nat) ^ a * 2 ^ b = 2 ^ c * 2 ^ d * 2 ^ e := by
  rw [← Nat.pow_add, ← Nat.pow_add, ← Nat.pow_add, h]
theorem pow_13 (a c d e : Nat) (h : a = c + d + e) : (2 : Nat) ^ a = 2 ^ c * 2 ^ d * 2 ^ e := by
  rw [← Nat.pow_add, ← Nat.pow_add, h]
theorem pow_le_13 (a b c k : Nat) (h : k ≤ a + b + c) : (2 : Nat) ^ k ≤ 2 ^ a * 2 ^ b * 2 ^ c := by
  rw [← Nat.pow_add, ← Nat.pow_add]; exact pow_le_two h
/-- the number's bounds at the place that the library takes -/
theorem z_place (d D L l : Nat) (A B : Nat) (_hL : d.log2 = L) (h1 : B * 2 ^ (L + l) ≤ A * 2 ^ 400) (h2 : 200 * A * 2 ^ 400 < 199 * (B * 2 ^ (L + l + 2))) (hB : 0 < B) (hD : L + l ≤ D + 274) (hE : D = 0 ∨ L + l = D + 274) :
    (8388608 ≤ A * 2 ^ 149 / (B * 2 ^ D) ∨ D = 0) ∧ 200 * (A * 2 ^ 149) < 6677331968 * (B * 2 ^ D) := by
  have hQ : 0 < B * 2 ^ D := Nat.mul_pos hB (Nat.two_pow_pos D)
  refine ⟨?_, ?_⟩
  · rcases hE with h | h
    · right; exact h
    · left
      refine (Nat.le_div_iff_mul_le hQ).2 ?_
      have h3 : 8388608 * (B * 2 ^ D) * 2 ^ 400 = B * 2 ^ (L + l) * 2 ^ 149 := by
        have e : (2 : Nat) ^ (L + l) * 2 ^ 149 = 2 ^ 23 * 2 ^ D * 2 ^ 400 := pow_23 (L + l) 149 23 D 400 (by omega)
        rw [Nat.mul_assoc B, e, show (8388608 : Nat) = 2 ^ 23 by decide]
        generalize (2 : Nat) ^ 400 = T
        generalize (2 : Nat) ^ 23 = y
        ac_rfl
      have h4 : 8388608 * (B * 2 ^ D) * 2 ^ 400 ≤ A * 2 ^ 149 * 2 ^ 400 := by
        rw [h3]
        refine Nat.le_trans (Nat.mul_le_mul_right _ h1) (Nat.le_of_eq ?_)
        generalize (2 : Nat) ^ 400 = T
        generalize (2 : Nat) ^ 149 = y
        ac_rfl
      exact Nat.le_of_mul_le_mul_right h4 (Nat.two_pow_pos 400)
  · refine u_up (A * 2 ^ 149) B (2 ^ 400) D (L + l + 151) ?_ ?_
    · rw [show (33554432 : Nat) = 2 ^ 25 by decide]
      exact pow_le_13 D 25 400 (L + l + 151) (by omega)
    · have e : (2 : Nat) ^ (L + l + 151) = 2 ^ (L + l + 2) * 2 ^ 149 := by rw [← Nat.pow_add]
      rw [e]
      have h3 := Nat.mul_lt_mul_of_pos_right h2 (Nat.two_pow_pos 149)
      generalize (2 : Nat) ^ 400 = T at *
      generalize (2 : Nat) ^ 149 = y at *
      generalize (2 : Nat) ^ (L + l + 2) = z at *
      have e1 : 200 * (A * y) * T = 200 * A * T * y := by ac_rfl
      have e2 : 199 * (B * (z * y)) = 199 * (B * z) * y := by ac_rfl
      rw [e1, e2]
      exact h3
/-- the library's scaled number -/
theorem z_scaled (d D L S : Nat) (p E : Int) (hL : d.log2 = L) (hL2 : L < 64) (hx : d * 2 ^ (63 - L) < 18446744073709551616) (h1 : -70 ≤ p) (h2 : p ≤ 40) (hD : (D : Int) = 149 - E) (hS : (S : Int) = 60 - E - L - lpZ p) (hS2 : 37 ≤ S) :
    uscN (d * 2 ^ (63 - L)) (hiZ p) (loZ p) S = uN (4 * (d * 10 ^ p.toNat * 2 ^ 149)) (10 ^ (-p).toNat * 2 ^ D) := by
  have h := usc_z p (d * 2 ^ (63 - L)) S h1 h2 hx hS2
  rw [h]
  refine uN_ratio _ _ _ _ (Nat.mul_pos (Nat.two_pow_pos _) (Nat.pow_pos (by decide))) (Nat.mul_pos (Nat.pow_pos (by decide)) (Nat.two_pow_pos _)) ?_
  have e : (2 : Nat) ^ (63 - L) * 2 ^ (-1 - lpZ p - S).toNat * 2 ^ D = 2 ^ 2 * 2 ^ 149 * 2 ^ (1 + lpZ p + S).toNat := by
    rw [← Nat.pow_add, ← Nat.pow_add, ← Nat.pow_add, ← Nat.pow_add]; congr 1; omega
  rw [show (4 : Nat) = 2 ^ 2 by decide]
  generalize (2 : Nat) ^ 149 = T at *
  generalize (2 : Nat) ^ 2 = F at *
  generalize (2 : Nat) ^ (63 - L) = a at *
  generalize (2 : Nat) ^ (-1 - lpZ p - S).toNat = b at *
  generalize (2 : Nat) ^ D = c at *
  generalize (2 : Nat) ^ (1 + lpZ p + S).toNat = f at *
  generalize 10 ^ p.toNat = U
  generalize 10 ^ (-p).toNat = V
  calc d * a * b * U * (V * c) = d * U * V * (a * b * c) := by ac_rfl
    _ = d * U * V * (F * T * f) := by rw [e]
    _ = F * (d * U * T) * (f * V) := by ac_rfl
/-- far below the least: it is 0 -/
theorem z_nought (A B m K : Nat) (hB : 0 < B) (hl : LowB A B m) (h2 : 200 * A * 2 ^ 400 < 199 * (B * 2 ^ K)) (hK : K ≤ 249) : nearB A B m = 0 := by
  have h3 : 4 * (A * 2 ^ 149) < B := by
    have h4 : 199 * (B * 2 ^ K) ≤ 199 * (B * 2 ^ 249) := Nat.mul_le_mul_left _ (Nat.mul_le_mul_left _ (pow_le_two hK))
    have h5 := Nat.lt_of_lt_of_le h2 h4
    have e : (2 : Nat) ^ 400 = 2 ^ 2 * 2 ^ 149 * 2 ^ 249 := pow_13 400 2 149 249 (by decide)
    rw [e] at h5
    rw [show (4 : Nat) = 2 ^ 2 by decide]
    clear h4 e h2
    generalize (2 : Nat) ^ 249 = T at *
    generalize (2 : Nat) ^ 149 = y at *
    have hT : 200 * (2 ^ 2 * (A * y)) * T < 199 * B * T := by
      have e1 : 200 * (2 ^ 2 * (A * y)) * T = 200 * A * (2 ^ 2 * y * T) := by ac_rfl
      rw [e1, Nat.mul_assoc 199]
      exact h5
    have := Nat.lt_of_mul_lt_mul_right hT
    omega
  have hu : uN (4 * (A * 2 ^ 149)) (B * 2 ^ 0) ≤ 1 := by
    have := (uN_between (4 * (A * 2 ^ 149)) (B * 2 ^ 0)).2
    rw [Nat.pow_zero, Nat.mul_one] at this ⊢
    rw [Nat.div_eq_of_lt h3] at this
    exact this
  have hn : A * 2 ^ 149 / (B * 2 ^ 0) = 0 := by
    rw [Nat.pow_zero, Nat.mul_one]
    refine Nat.div_eq_of_lt (Nat.lt_of_le_of_lt ?_ h3)
    generalize A * 2 ^ 149 = z
    omega
  have := near_cut A B 0 m hB hl (Or.inr rfl) (by rw [hn]; decide) (by rw [hn]; decide)
  rw [this]
  have hc : uN (4 * (A * 2 ^ 149)) (B * 2 ^ 0) = 0 ∨ uN (4 * (A * 2 ^ 149)) (B * 2 ^ 0) = 1 := by
    generalize uN (4 * (A * 2 ^ 149)) (B * 2 ^ 0) = z at *
    clear this hn h3 h2 hl
    omega
  rcases hc with e | e
  · rw [e]; decide
  · rw [e]; decide
end Go.Proofs.YtnljpbpphdhnpaaGreatDoor
