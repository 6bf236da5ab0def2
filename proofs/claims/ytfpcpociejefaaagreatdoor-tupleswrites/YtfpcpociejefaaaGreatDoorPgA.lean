/- Texts and lists of texts: their order, byte by byte and text by text. -/
import Derived.Test.YtfpcpociejefaaaGreatDoorPsC
import Derived.Lib.Bytealg
import Derived.Deep.QuietTactic
import Derived.BigQuiet

namespace Go.Proofs.YtfpcpociejefaaaGreatDoor
open Go.RowKit Go.PlainAid Go.Lib
def cmpT (a b : List UInt8) : Int := Lib.compareBytes a b
structure Ord3 {α : Type} (f : α → α → Int) : Prop where
 range : ∀ a b, f a b = -1 ∨ f a b = 0 ∨ f a b = 1
 anti : ∀ a b, f b a = - f a b
 same : ∀ a b, f a b = 0 ↔ a = b
 trans : ∀ a b c, f a b = -1 → f b c = -1 → f a c = -1
theorem cmpT_cons (x y : UInt8) (a b : List UInt8) : cmpT (x :: a) (y :: b) = if x < y then -1 else if y < x then 1 else cmpT a b := by unfold cmpT; rw [Lib.compareBytes]
theorem ord_cmpT : Ord3 cmpT := by
 refine ⟨?_, ?_, ?_, ?_⟩
 ·intro a
  induction a with
  | nil => intro b; cases b <;> simp [cmpT, Lib.compareBytes]
  | cons x a ih =>
   intro b
   cases b with
   | nil => simp [cmpT, Lib.compareBytes]
   | cons y b =>
    rw [cmpT_cons]
    split
    ·exact .inl rfl
    ·split
     ·exact .inr (.inr rfl)
     ·exact ih b
 ·intro a
  induction a with
  | nil => intro b; cases b <;> simp [cmpT, Lib.compareBytes]
  | cons x a ih =>
   intro b
   cases b with
   | nil => simp [cmpT, Lib.compareBytes]
   | cons y b =>
    rw [cmpT_cons, cmpT_cons, ih b]
    have h1 : ¬ (x < y ∧ y < x) := by rw [UInt8.lt_iff_toNat_lt, UInt8.lt_iff_toNat_lt]; omega
    by_cases p : x < y <;> by_cases q : y < x <;> simp [p, q]
    exact absurd ⟨p, q⟩ h1
 ·intro a
  induction a with
  | nil => intro b; cases b <;> simp [cmpT, Lib.compareBytes]
  | cons x a ih =>
   intro b
   cases b with
   | nil => simp [cmpT, Lib.compareBytes]
   | cons y b =>
    rw [cmpT_cons]
    by_cases p : x < y
    ·have : x ≠ y := fun e => by subst e; exact absurd p (UInt8.lt_irrefl x)
     simp [p, this]
    ·by_cases q : y < x
     ·have : x ≠ y := fun e => by subst e; exact absurd q (UInt8.lt_irrefl x)
      simp [p, q, this]
     ·have : x = y := by
       rw [UInt8.lt_iff_toNat_lt] at p q
       exact UInt8.toNat_inj.1 (by omega)
      simp [this, ih b]
 ·intro a
  induction a with
  | nil =>
   intro b c h1 h2
   cases c with
   | nil =>
    cases b with
    | nil => exact h2
    | cons y b => simp [cmpT, Lib.compareBytes] at h2
   | cons z c => simp [cmpT, Lib.compareBytes]
  | cons x a ih =>
   intro b c h1 h2
   cases b with
   | nil => simp [cmpT, Lib.compareBytes] at h1
   | cons y b =>
    cases c with
    | nil => simp [cmpT, Lib.compareBytes] at h2
    | cons z c =>
     rw [cmpT_cons] at h1 h2 ⊢
     simp only [UInt8.lt_iff_toNat_lt] at *
     by_cases p : x.toNat < y.toNat
     ·by_cases q : y.toNat < z.toNat
      ·rw [if_pos (by omega)]
      ·rw [if_neg q] at h2
       by_cases r : z.toNat < y.toNat
       ·rw [if_pos r] at h2; exact absurd h2 (by decide)
       ·rw [if_pos (by omega)]
     ·rw [if_neg p] at h1
      by_cases r : y.toNat < x.toNat
      ·rw [if_pos r] at h1; exact absurd h1 (by decide)
      ·rw [if_neg r] at h1
       by_cases q : y.toNat < z.toNat
       ·rw [if_pos (by omega)]
       ·rw [if_neg q] at h2
        by_cases u : z.toNat < y.toNat
        ·rw [if_pos u] at h2; exact absurd h2 (by decide)
        ·rw [if_neg u] at h2
         rw [if_neg (by omega), if_neg (by omega)]
         exact ih b c h1 h2
theorem less_cmp (a : List UInt8) : ∀ b, Op.bytesLess a b = decide (cmpT a b = -1) := by
 induction a with
 | nil => intro b; cases b <;> simp [Op.bytesLess, cmpT, Lib.compareBytes]
 | cons x a ih =>
  intro b
  cases b with
  | nil => simp [Op.bytesLess, cmpT, Lib.compareBytes]
  | cons y b =>
   rw [cmpT_cons, Op.bytesLess]
   by_cases p : x < y
   ·simp [p]
   ·by_cases q : y < x
    ·have hne : (x == y) = false := by
      rw [beq_eq_false_iff_ne]
      intro e
      subst e
      exact absurd q (UInt8.lt_irrefl x)
     simp [p, q, hne]
    ·have he : x = y := by
      rw [UInt8.lt_iff_toNat_lt] at p q
      exact UInt8.toNat_inj.1 (by omega)
     subst he
     simp [p, ih b]
end Go.Proofs.YtfpcpociejefaaaGreatDoor

/- A worth cut with two places more, rounded by them: the rung nearest to it. -/
namespace Go.Proofs.YtfpcpociejefaaaGreatDoor
open Go.RowKit Go.PlainAid
/-- to the nearest, of two more places -/
def rndU (u : Nat) : Nat := (u + 1 + u / 4 % 2) / 4
end Go.Proofs.YtfpcpociejefaaaGreatDoor

/- The library's scaling where the power of ten is told exactly: what is cut, and its last place. -/
namespace Go.Proofs.YtfpcpociejefaaaGreatDoor
open Go.RowKit Go.PlainAid
theorem lor_one (v : Nat) : v ||| 1 = 2 * (v / 2) + 1 := by
 have h1 := Nat.two_pow_add_eq_or_of_lt (i := 1) (b := 1) (by decide) (v / 2)
 rw [Nat.pow_one] at h1
 rw [h1]
 by_cases h : v % 2 = 0
 ·rw [show 2 * (v / 2) = v by omega]
 ·have h2 : v = 2 * (v / 2) + 1 := by omega
  conv => lhs; rw [h2, h1]
  rw [Nat.or_assoc, Nat.or_self]
theorem or_one (v : Nat) (h : v < 18446744073709551616) : bits .or .u64 (v : Int) 1 = ((2 * (v / 2) + 1 : Nat) : Int) := by
 have := u64_or_nat v 1 h (by decide)
 rw [lor_one] at this
 exact this
theorem or_zero (v : Nat) (h : v < 18446744073709551616) : bits .or .u64 (v : Int) 0 = (v : Int) := by
 have := u64_or_nat v 0 h (by decide)
 rw [Nat.or_zero] at this
 exact this
theorem and_one (v : Nat) (h : v < 18446744073709551616) : bits .and .u64 (v : Int) 1 = ((v % 2 : Nat) : Int) := by
 have := u64_and_nat v 1 h (by decide)
 rw [Nat.and_one_is_mod] at this
 exact this
end Go.Proofs.YtfpcpociejefaaaGreatDoor

/- The library's parseFloat32 for numbers times a power of ten that is told exactly: its parts. -/
namespace Go.Proofs.YtfpcpociejefaaaGreatDoor
open Go.RowKit Go.PlainAid
theorem bitLen_log (d : Nat) (h0 : 0 < d) (h : d < 2 ^ 64) : Lib.bitLen d = d.log2 + 1 := by
 induction d using Nat.strongRecOn with
 | _ d ih =>
  rw [Lib.bitLen_half d (by omega) h, Nat.log2_def]
  by_cases h1 : 2 ≤ d
  ·rw [if_pos h1, ih (d / 2) (by omega) (by omega) (by omega)]; omega
  ·rw [if_neg h1, show d / 2 = 0 by omega]; rfl
set_option maxRecDepth 1000000 in
set_option maxHeartbeats 400000 in
theorem round_any (u q r : Int) (h : 0 ≤ u ∧ u < 1073741824) (e1 : bits .and .u64 (u / 4) 1 = q) (hq : 0 ≤ q ∧ q ≤ 1) (e2 : (u + 1 + q) / 4 = r) (w : World) : Calls Tryz.prog 208 #[.int .u64 u] w fun e w' => e = .returned (.int .u64 r) ∧ w' = w := by
 obtain ⟨h0, h1⟩ := h
 obtain ⟨q0, q1⟩ := hq
 have E2 : Hid ((u + 1 + q) / 4 = r) := e2
 clear e2
 go_enter Tryz.func208, Tryz.ntmps208
 go_wp2
 go_ret
 exact ⟨by simp [← E2.out], rfl⟩
end Go.Proofs.YtfpcpociejefaaaGreatDoor
