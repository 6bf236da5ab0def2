/- The library's scaling for float32: the powers of ten from -31 to 45 as they are laid, and that the scaling is exact wherever nothing comes too near. -/
import Derived.Test.YtfpcpociejefaaaGreatDoorUzM
import Derived.LaidMore
import Derived.Lay

namespace Go.Proofs.YtfpcpociejefaaaGreatDoor
open Go.RowKit Go.PlainAid
/-- the table's row of ten to the power j - 31 -/
def hiR (j : Nat) : Nat := (Go.Pinned.pow10Rows.getD (317 + j) (0, 0)).1
def loR (j : Nat) : Nat := (Go.Pinned.pow10Rows.getD (317 + j) (0, 0)).2
/-- the places of that power, less one -/
def lpR (j : Nat) : Int := ((j : Int) - 31) * 108853 / 32768
theorem row_facts : ∀ j, j < 77 → hiR j < 18446744073709551616 ∧ loR j < 18446744073709551616 ∧ loR j ≤ hiR j * 18446744073709551616 ∧ -103 ≤ lpR j ∧ lpR j ≤ 149 ∧
  (hiR j * 18446744073709551616 - loR j) * (4194304 * 10 ^ (31 - j)) ≤ 10 ^ (j - 31) * 2 ^ (149 - lpR j).toNat + 4194304 * 10 ^ (31 - j) ∧ 10 ^ (j - 31) * 2 ^ (149 - lpR j).toNat ≤ (hiR j * 18446744073709551616 - loR j) * (4194304 * 10 ^ (31 - j)) + 4194304 * 10 ^ (31 - j) ∧ lpR j - (j - 31 : Nat) ≤ 104 ∧ (j ≤ 74 → lpR j - (j - 31 : Nat) ≤ 99) := by
 decide +kernel
theorem reord (A P u c k : Nat) : A * P * (u * c) * k = A * u * (P * (k * c)) := by ac_rfl
theorem reord2 (A u c k : Nat) : A * u * (k * c) = A * (u * c) * k := by ac_rfl
theorem reord3 (X v q d k : Nat) : X * v * q * d * k = X * q * (v * (d * k)) := by ac_rfl
theorem reord4 (X q t u l : Nat) : X * q * (t * u * l) = X * t * u * (q * l) := by ac_rfl
theorem usc_f32 (E : Int) (j X t s : Nat) (hj : j < 77) (hx : X * 2 ^ t + 4 ≤ 18446744073709551616) (hs : (s : Int) = (t : Int) - 1 - E - lpR j)
  (hg : (X * 2 ^ E.toNat * 10 ^ (j - 31)) % (2 ^ (-E).toNat * 10 ^ (31 - j)) = 0 ∨
   (3 * 18446744073709551616 * (2 ^ (-E).toNat * 10 ^ (31 - j)) ≤ (X * 2 ^ E.toNat * 10 ^ (j - 31)) % (2 ^ (-E).toNat * 10 ^ (31 - j)) * 2 ^ (128 + s) ∧
    3 * 18446744073709551616 * (2 ^ (-E).toNat * 10 ^ (31 - j)) ≤ (2 ^ (-E).toNat * 10 ^ (31 - j) - (X * 2 ^ E.toNat * 10 ^ (j - 31)) % (2 ^ (-E).toNat * 10 ^ (31 - j))) * 2 ^ (128 + s))) :
  uscN (X * 2 ^ t) (hiR j) (loR j) s = uN (X * 2 ^ E.toNat * 10 ^ (j - 31)) (2 ^ (-E).toNat * 10 ^ (31 - j)) := by
 obtain ⟨a1, a2, a3, a4, a5, a6, a7, _, _⟩ := row_facts j hj
 have hden : 0 < 2 ^ (-E).toNat * 10 ^ (31 - j) := Nat.mul_pos (Nat.two_pow_pos _) (Nat.pow_pos (by decide))
 have hle : X * 2 ^ t * loR j ≤ X * 2 ^ t * hiR j * 18446744073709551616 := by
  rw [Nat.mul_assoc (X * 2 ^ t)]
  exact Nat.mul_le_mul_left _ a3
 have hN : X * 2 ^ t * hiR j * 18446744073709551616 - X * 2 ^ t * loR j = X * 2 ^ t * (hiR j * 18446744073709551616 - loR j) := by
  rw [Nat.mul_assoc (X * 2 ^ t), Nat.mul_sub]
 have e1 : X * 2 ^ E.toNat * 10 ^ (j - 31) * 2 ^ (128 + s) * 4194304 = X * 2 ^ t * 2 ^ (-E).toNat * (10 ^ (j - 31) * 2 ^ (149 - lpR j).toNat) := by
  have e2 : (2 : Nat) ^ E.toNat * (2 ^ (128 + s) * 4194304) = 2 ^ t * 2 ^ (-E).toNat * 2 ^ (149 - lpR j).toNat := by
   rw [show (4194304 : Nat) = 2 ^ 22 by decide, ← Nat.pow_add, ← Nat.pow_add, ← Nat.pow_add, ← Nat.pow_add]
   congr 1
   omega
  rw [reord3, e2, reord4]
 have e3 : X * 2 ^ t * (hiR j * 18446744073709551616 - loR j) * (2 ^ (-E).toNat * 10 ^ (31 - j)) * 4194304 = X * 2 ^ t * 2 ^ (-E).toNat * ((hiR j * 18446744073709551616 - loR j) * (4194304 * 10 ^ (31 - j))) := reord _ _ _ _ _
 have e4 : X * 2 ^ t * 2 ^ (-E).toNat * (4194304 * 10 ^ (31 - j)) = X * 2 ^ t * (2 ^ (-E).toNat * 10 ^ (31 - j)) * 4194304 := reord2 _ _ _ _
 have e5 : X * 2 ^ t * (2 ^ (-E).toNat * 10 ^ (31 - j)) * 4194304 < 2 ^ (-E).toNat * 10 ^ (31 - j) * 18446744073709551616 * 4194304 := by
  refine Nat.mul_lt_mul_of_pos_right ?_ (by decide)
  rw [Nat.mul_comm]
  exact Nat.mul_lt_mul_of_pos_left (by omega) hden
 have m6 := Nat.mul_le_mul_left (X * 2 ^ t * 2 ^ (-E).toNat) a6
 have m7 := Nat.mul_le_mul_left (X * 2 ^ t * 2 ^ (-E).toNat) a7
 rw [Nat.mul_add, e4, ← e1, ← e3] at m6 m7
 refine usc_core _ _ _ _ _ _ hx a2 hle hden ?_ ?_ hg
 ·rw [hN]
  generalize X * 2 ^ t * (hiR j * 18446744073709551616 - loR j) * (2 ^ (-E).toNat * 10 ^ (31 - j)) = z1 at *
  generalize X * 2 ^ E.toNat * 10 ^ (j - 31) * 2 ^ (128 + s) = z2 at *
  generalize X * 2 ^ t * (2 ^ (-E).toNat * 10 ^ (31 - j)) = z3 at *
  generalize 2 ^ (-E).toNat * 10 ^ (31 - j) = z4 at *
  omega
 ·rw [hN]
  generalize X * 2 ^ t * (hiR j * 18446744073709551616 - loR j) * (2 ^ (-E).toNat * 10 ^ (31 - j)) = z1 at *
  generalize X * 2 ^ E.toNat * 10 ^ (j - 31) * 2 ^ (128 + s) = z2 at *
  generalize X * 2 ^ t * (2 ^ (-E).toNat * 10 ^ (31 - j)) = z3 at *
  generalize 2 ^ (-E).toNat * 10 ^ (31 - j) = z4 at *
  omega
end Go.Proofs.YtfpcpociejefaaaGreatDoor

/- The library's scaling for float32: nothing comes too near, whatever the float; so it is exact. -/
namespace Go.Proofs.YtfpcpociejefaaaGreatDoor
open Go.RowKit Go.PlainAid
/-- the row of the power that brings one place of 2 to the power E to 1 or more, less than 10 (jS: three quarters of it) -/
def jN (E : Int) : Nat := (31 - E * 78913 / 262144).toNat
def jS (E : Int) : Nat := (31 - (E * 631305 - 261663) / 2097152).toNat
def rowOk (E : Int) (j : Nat) : Prop := j < 77 ∧ (j < 31 → (31 : Int) - j ≤ E) ∧ 34 ≤ 37 - E - lpR j ∧ (75 ≤ j → j = 75 ∧ 99 ≤ -E - 44 ∧ -E - 44 ≤ 102 ∨ j = 76 ∧ 101 ≤ -E - 45 ∧ -E - 45 ≤ 104)
instance (E : Int) (j : Nat) : Decidable (rowOk E j) := by unfold rowOk; infer_instance
theorem rows_ok : ∀ n : Nat, n < 254 → rowOk ((n : Int) - 149) (jN ((n : Int) - 149)) ∧ (1 ≤ n → rowOk ((n : Int) - 149) (jS ((n : Int) - 149))) := by
 decide +kernel
def inv5 (p : Nat) : Nat := if p = 45 then 11652860451967362934349200961085 else 2487675849794721005891063768881
def missOk (p K : Nat) : Prop := 5 ^ p * inv5 p % 2 ^ K = 1 ∧ ∀ c, c < 24 → c ≠ 0 → 67108867 ≤ c * inv5 p % 2 ^ K ∧ 67108867 ≤ (2 ^ K - c) * inv5 p % 2 ^ K
instance (p K : Nat) : Decidable (missOk p K) := by unfold missOk; infer_instance
theorem miss_ok : missOk 45 104 ∧ missOk 45 103 ∧ missOk 45 102 ∧ missOk 45 101 ∧ missOk 44 102 ∧ missOk 44 101 ∧ missOk 44 100 ∧ missOk 44 99 := by
 decide +kernel
theorem miss (p K X : Nat) (h : missOk p K) (hK : 27 ≤ K) (hX : X < 67108867) (h0 : X * 5 ^ p % 2 ^ K ≠ 0) : 24 ≤ X * 5 ^ p % 2 ^ K ∧ X * 5 ^ p % 2 ^ K + 24 ≤ 2 ^ K := by
 obtain ⟨h1, h2⟩ := h
 have hP : 0 < 2 ^ K := Nat.two_pow_pos K
 have hbig : 2 ^ 27 ≤ 2 ^ K := Nat.pow_le_pow_right (by decide) hK
 have hlt := Nat.mod_lt (X * 5 ^ p) hP
 have hinv : X * 5 ^ p % 2 ^ K * inv5 p % 2 ^ K = X := by
  rw [Nat.mod_mul_mod, Nat.mul_assoc, Nat.mul_mod, h1, Nat.mul_one, Nat.mod_mod]
  exact Nat.mod_eq_of_lt (by omega)
 generalize X * 5 ^ p % 2 ^ K = c at *
 generalize 2 ^ K = P at *
 refine ⟨?_, ?_⟩
 ·rcases Nat.lt_or_ge c 24 with h | h
  ·have := (h2 c h h0).1
   omega
  ·exact h
 ·rcases Nat.lt_or_ge P (c + 24) with h | h
  ·have := (h2 (P - c) (by omega) (by omega)).2
   rw [show P - (P - c) = c by omega] at this
   omega
  ·exact h
theorem two_mul_pow (a b c d : Nat) (h : a + b = c + d) : (2 : Nat) ^ a * 2 ^ b = 2 ^ c * 2 ^ d := by rw [← Nat.pow_add, ← Nat.pow_add, h]
theorem ten_split (n : Nat) : 10 ^ n = 2 ^ n * 5 ^ n := by rw [← Nat.mul_pow]
theorem five_le {q : Nat} (h : q ≤ 31) : 5 ^ q ≤ 2 ^ 72 := Nat.le_trans (Nat.pow_le_pow_right (by decide) h) (by decide +kernel)
/-- what the scaling asks: nothing that isn't whole stands nearer than three last places -/
def Gap (E : Int) (j X s : Nat) : Prop := (X * 2 ^ E.toNat * 10 ^ (j - 31)) % (2 ^ (-E).toNat * 10 ^ (31 - j)) = 0 ∨
   (3 * 18446744073709551616 * (2 ^ (-E).toNat * 10 ^ (31 - j)) ≤ (X * 2 ^ E.toNat * 10 ^ (j - 31)) % (2 ^ (-E).toNat * 10 ^ (31 - j)) * 2 ^ (128 + s) ∧
    3 * 18446744073709551616 * (2 ^ (-E).toNat * 10 ^ (31 - j)) ≤ (2 ^ (-E).toNat * 10 ^ (31 - j) - (X * 2 ^ E.toNat * 10 ^ (j - 31)) % (2 ^ (-E).toNat * 10 ^ (31 - j))) * 2 ^ (128 + s))
/-- the same, of a number with the factor a taken out: what is left of it, and how near it may come -/
theorem gap_of (num den a Y B m D : Nat) (hn : num = a * Y) (hd : den = a * B) (hr : Y % B ≠ 0 → m ≤ Y % B ∧ Y % B + m ≤ B) (hD : 3 * 18446744073709551616 * B ≤ m * D) :
  num % den = 0 ∨ (3 * 18446744073709551616 * den ≤ num % den * D ∧ 3 * 18446744073709551616 * den ≤ (den - num % den) * D) := by
 subst hn hd
 rw [Nat.mul_mod_mul_left]
 by_cases h : Y % B = 0
 ·exact .inl (by rw [h, Nat.mul_zero])
 ·obtain ⟨h1, h2⟩ := hr h
  refine .inr ⟨?_, ?_⟩
  ·calc 3 * 18446744073709551616 * (a * B) = a * (3 * 18446744073709551616 * B) := by rw [Nat.mul_left_comm]
    _ ≤ a * (m * D) := Nat.mul_le_mul_left _ hD
    _ ≤ a * (Y % B * D) := Nat.mul_le_mul_left _ (Nat.mul_le_mul_right _ h1)
    _ = a * (Y % B) * D := by rw [Nat.mul_assoc]
  ·calc 3 * 18446744073709551616 * (a * B) = a * (3 * 18446744073709551616 * B) := by rw [Nat.mul_left_comm]
    _ ≤ a * (m * D) := Nat.mul_le_mul_left _ hD
    _ ≤ a * ((B - Y % B) * D) := Nat.mul_le_mul_left _ (Nat.mul_le_mul_right _ (by omega))
    _ = (a * B - a * (Y % B)) * D := by rw [← Nat.mul_assoc, Nat.mul_sub]
set_option maxRecDepth 100000 in
theorem gap_any (E : Int) (j X s t : Nat) (hX : X < 67108867) (ht : 38 ≤ t) (hs : (s : Int) = (t : Int) - 1 - E - lpR j) (hr : rowOk E j) : Gap E j X s := by
 obtain ⟨r1, r2, r3, r4⟩ := hr
 obtain ⟨_, _, _, l1, l2, _, _, l3, l4⟩ := row_facts j r1
 have h34 : 34 ≤ s := by omega
 unfold Gap
 by_cases hj : j < 31
 ·have hE := r2 hj
  have hz : (-E).toNat = 0 := by omega
  rw [hz, show j - 31 = 0 by omega]
  simp only [Nat.pow_zero, Nat.one_mul, Nat.mul_one]
  refine gap_of _ _ (2 ^ (31 - j)) (X * 2 ^ (E.toNat - (31 - j))) (5 ^ (31 - j)) 1 _ ?_ (ten_split _) (fun h => ⟨by omega, ?_⟩) ?_
  ·have e := two_mul_pow (31 - j) (E.toNat - (31 - j)) E.toNat 0 (by omega)
   rw [Nat.pow_zero, Nat.mul_one] at e
   rw [← e, Nat.mul_left_comm]
  ·have := Nat.mod_lt (X * 2 ^ (E.toNat - (31 - j))) (show 0 < 5 ^ (31 - j) from Nat.pow_pos (by decide))
   omega
  ·have h5 := five_le (show 31 - j ≤ 31 by omega)
   have h2 : (2 : Nat) ^ 162 ≤ 2 ^ (128 + s) := Nat.pow_le_pow_right (by decide) (by omega)
   have h3 : 3 * 18446744073709551616 * 2 ^ 72 ≤ 2 ^ 162 := by decide +kernel
   rw [Nat.one_mul]
   exact Nat.le_trans (Nat.mul_le_mul_left _ h5) (Nat.le_trans h3 h2)
 ·rw [show 31 - j = 0 by omega, Nat.pow_zero, Nat.mul_one]
  by_cases he : (-E).toNat ≤ j - 31
  ·refine .inl (Nat.mod_eq_zero_of_dvd ?_)
   rw [ten_split]
   exact Nat.dvd_trans (Nat.pow_dvd_pow 2 he) (Nat.dvd_trans (Nat.dvd_mul_right _ _) (Nat.dvd_mul_left _ _))
  ·rw [show E.toNat = 0 by omega, Nat.pow_zero, Nat.mul_one]
   have hnum : X * 10 ^ (j - 31) = 2 ^ (j - 31) * (X * 5 ^ (j - 31)) := by rw [ten_split, Nat.mul_left_comm]
   have hden : 2 ^ (-E).toNat = 2 ^ (j - 31) * 2 ^ ((-E).toNat - (j - 31)) := by rw [← Nat.pow_add]; congr 1; omega
   by_cases h7 : j ≤ 74
   ·refine gap_of _ _ _ _ _ 1 _ hnum hden (fun h => ⟨by omega, ?_⟩) ?_
    ·have := Nat.mod_lt (X * 5 ^ (j - 31)) (Nat.two_pow_pos ((-E).toNat - (j - 31)))
     omega
    ·have h2 : (2 : Nat) ^ (66 + ((-E).toNat - (j - 31))) ≤ 2 ^ (128 + s) := Nat.pow_le_pow_right (by decide) (by have := l4 h7; omega)
     rw [Nat.pow_add] at h2
     rw [Nat.one_mul]
     have h3 : 3 * 18446744073709551616 ≤ 2 ^ 66 := by decide +kernel
     exact Nat.le_trans (Nat.mul_le_mul_right _ h3) h2
   ·have hm : missOk (j - 31) ((-E).toNat - (j - 31)) := by
     obtain ⟨m1, m2, m3, m4, m5, m6, m7, m8⟩ := miss_ok
     rcases r4 (by omega) with ⟨rfl, h1, h2⟩ | ⟨rfl, h1, h2⟩
     ·rcases (show E = -143 ∨ E = -144 ∨ E = -145 ∨ E = -146 by omega) with rfl | rfl | rfl | rfl
      ·exact m8
      ·exact m7
      ·exact m6
      ·exact m5
     ·rcases (show E = -146 ∨ E = -147 ∨ E = -148 ∨ E = -149 by omega) with rfl | rfl | rfl | rfl
      ·exact m4
      ·exact m3
      ·exact m2
      ·exact m1
    refine gap_of _ _ _ _ _ 24 _ hnum hden (fun h => miss _ _ X hm ?_ hX h) ?_
    ·clear hnum hden hm h
     rcases r4 (by omega) with ⟨h0, h1, h2⟩ | ⟨h0, h1, h2⟩ <;> omega
    ·have h2 : (2 : Nat) ^ (64 + ((-E).toNat - (j - 31))) ≤ 2 ^ (3 + (128 + s)) := Nat.pow_le_pow_right (by decide) (by omega)
     rw [Nat.pow_add, Nat.pow_add 2 3] at h2
     have h3 := Nat.mul_le_mul_left 3 h2
     have h4 : (2 : Nat) ^ 64 = 18446744073709551616 := by decide +kernel
     rw [h4] at h3
     have h6 : (2 : Nat) ^ 3 = 8 := by decide
     rw [h6] at h3
     generalize 2 ^ ((-E).toNat - (j - 31)) = z at *
     generalize 2 ^ (128 + s) = y at *
     omega
/-- the library's scaling of a float32's halves and quarters, exact -/
theorem usc_any (E : Int) (j X s t : Nat) (hX : X < 67108867) (ht : 38 ≤ t) (hx : X * 2 ^ t + 4 ≤ 18446744073709551616) (hs : (s : Int) = (t : Int) - 1 - E - lpR j) (hr : rowOk E j) :
  uscN (X * 2 ^ t) (hiR j) (loR j) s = uN (X * 2 ^ E.toNat * 10 ^ (j - 31)) (2 ^ (-E).toNat * 10 ^ (31 - j)) :=
 usc_f32 E j X t s hr.1 hx hs (gap_any E j X s t hX ht hs hr)
end Go.Proofs.YtfpcpociejefaaaGreatDoor
