/- The rounding of a decimal's digits is the rounding of the number that it stands for. -/
import Derived.Test.YtnljpbpphdhnpaaGreatDoorDecI
import Derived.ScopeJumps

namespace Go.Proofs.YtnljpbpphdhnpaaGreatDoor
open Go.RowKit Go.PlainAid

/-- whether a number, told by what is whole of 2^m times it and whether more is left, is rounded up to a whole one -/
def upFs (F m : Nat) (st : Bool) : Bool :=
  decide ((2 * (F / 2 ^ m) + 1) * 2 ^ (m - 1) < F) || (decide (F = (2 * (F / 2 ^ m) + 1) * 2 ^ (m - 1)) && (st || decide (F / 2 ^ m % 2 = 1)))
theorem upFs_more (F m : Nat) (st : Bool) (h : (2 * (F / 2 ^ m) + 1) * 2 ^ (m - 1) < F ∨ (F = (2 * (F / 2 ^ m) + 1) * 2 ^ (m - 1) ∧ st = true)) : upFs F m st = true := by
  unfold upFs
  rcases h with h | ⟨h, rfl⟩
  · rw [decide_eq_true h]; rfl
  · rw [decide_eq_true h]; simp
theorem upFs_half (F m : Nat) (st : Bool) (h : F = (2 * (F / 2 ^ m) + 1) * 2 ^ (m - 1)) : upFs F m st = (st || decide (F / 2 ^ m % 2 = 1)) := by
  unfold upFs
  rw [decide_eq_true h, decide_eq_false (by omega)]
  simp
theorem upFs_less (F m : Nat) (st : Bool) (h : F < (2 * (F / 2 ^ m) + 1) * 2 ^ (m - 1)) : upFs F m st = false := by
  unfold upFs
  rw [decide_eq_false (by omega), decide_eq_false (by omega)]
  rfl
theorem two_split (m : Nat) (hm : 1 ≤ m) : 2 ^ m = 2 * 2 ^ (m - 1) := by
  obtain ⟨x, rfl⟩ : ∃ x, m = x + 1 := ⟨m - 1, by omega⟩
  rw [Nat.pow_succ, show x + 1 - 1 = x by omega, Nat.mul_comm]
/-- the part behind the point against one half -/
theorem half_cases (Z g r h tU : Nat) (e : Z * g + r = tU) (hr : r < Z) :
    (h * Z < tU → h < g ∨ (g = h ∧ r ≠ 0)) ∧ (tU = h * Z → g = h ∧ r = 0) ∧ (tU < h * Z → g < h) := by
  refine ⟨fun h1 => ?_, fun h1 => ?_, fun h1 => ?_⟩
  · rcases Nat.lt_trichotomy g h with h2 | h2 | h2
    · have : (g + 1) * Z ≤ h * Z := Nat.mul_le_mul_right _ h2
      rw [Nat.add_mul, Nat.one_mul, Nat.mul_comm g Z] at this
      omega
    · subst h2
      rw [Nat.mul_comm g Z] at h1
      exact .inr ⟨rfl, by omega⟩
    · exact .inl h2
  · rcases Nat.lt_trichotomy g h with h2 | h2 | h2
    · have : (g + 1) * Z ≤ h * Z := Nat.mul_le_mul_right _ h2
      rw [Nat.add_mul, Nat.one_mul, Nat.mul_comm g Z] at this
      omega
    · subst h2
      rw [Nat.mul_comm g Z] at h1
      exact ⟨rfl, by omega⟩
    · have : (h + 1) * Z ≤ g * Z := Nat.mul_le_mul_right _ h2
      rw [Nat.add_mul, Nat.one_mul, Nat.mul_comm g Z] at this
      omega
  · rcases Nat.lt_or_ge g h with h2 | h2
    · exact h2
    · have : h * Z ≤ g * Z := Nat.mul_le_mul_right _ h2
      rw [Nat.mul_comm g Z] at this
      omega
theorem odd_digit (D : Nat → Int) (nd p : Nat) (dg : DgD D nd) (h : p + 1 ≤ nd) : decide (0 < p ∧ (D (p - 1) - 48) % 2 = 1) = decide (pD (eD D nd) p % 2 = 1) := by
  rcases Nat.eq_zero_or_pos p with hp | hp
  · subst hp; simp [pD]
  · obtain ⟨q, rfl⟩ : ∃ q, p = q + 1 := ⟨p - 1, by omega⟩
    have h2 := eD_val dg q (by omega)
    rw [pD_succ, show q + 1 - 1 = q by omega]
    by_cases h3 : (D q - 48) % 2 = 1
    · rw [decide_eq_true ⟨hp, h3⟩, decide_eq_true (by omega)]
    · rw [decide_eq_false (fun h => h3 h.2), decide_eq_false (by omega)]
theorem dec_rounds (B F : Nat) (st : Bool) (m : Nat) (D : Nat → Int) (nd p : Nat) (tr : Bool) (hm : 1 ≤ m) (dg : DgD D nd) (hl : tr = false → D (nd - 1) ≠ 48) (n0 : 0 < nd) (n8 : nd ≤ 800) (hB : 2000 ≤ B)
    (se : Sees B F st m (pD (eD D nd) nd) nd (p : Nat) tr) : pD (eD D nd) p = F / 2 ^ m ∧ upDec D nd p tr = upFs F m st := by
  have he := fun j => eD_lt dg j
  have hW : 10 ^ B * 2 ^ m = 2 * 2 ^ (m - 1) * 10 ^ B := by
    rw [Nat.mul_comm, two_split m hm]
  have hwh := se.wh
  have hsk := se.sk
  by_cases hp : nd ≤ p
  · have hz : pD (eD D nd) p = pD (eD D nd) nd * 10 ^ (p - nd) := by
      have := pD_zeros (eD D nd) nd (p - nd) fun j hj => eD_out D nd j hj
      rwa [show nd + (p - nd) = p by omega] at this
    have hX : xD B m (pD (eD D nd) nd) nd (p : Nat) = pD (eD D nd) p * 2 ^ m * 10 ^ B := by
      unfold xD
      rw [show (((p : Nat) : Int) - nd + (B : Int)).toNat = (p - nd) + B by omega, Nat.pow_add, hz]
      simp only [Nat.mul_assoc, Nat.mul_left_comm, Nat.mul_comm]
    rw [hX, Nat.mul_div_cancel _ (ten_pos B)] at hwh
    have hq : pD (eD D nd) p = F / 2 ^ m := by rw [← hwh, Nat.mul_div_cancel _ (Nat.two_pow_pos m)]
    refine ⟨hq, ?_⟩
    unfold upDec
    rw [if_pos hp]
    refine (upFs_less F m st ?_).symm
    rw [← hq]
    have h2 : pD (eD D nd) p * 2 ^ m = 2 * pD (eD D nd) p * 2 ^ (m - 1) := by
      rw [two_split m hm, ← Nat.mul_assoc, Nat.mul_comm _ 2]
    rw [← hwh, h2, Nat.add_mul, Nat.one_mul]
    have : 0 < 2 ^ (m - 1) := Nat.two_pow_pos _
    omega
  · obtain ⟨t, ht⟩ : ∃ t, nd = p + (t + 1) := ⟨nd - p - 1, by omega⟩
    have hsp := pD_split (eD D nd) p (t + 1)
    rw [← ht] at hsp
    have htl := pD_lt (fun j => eD D nd (p + j)) (t + 1) fun j _ => he _
    have htail := pD_split (fun j => eD D nd (p + j)) 1 t
    rw [Nat.add_comm 1 t] at htail
    have h1 : pD (fun j => eD D nd (p + j)) 1 = eD D nd p := by simp [pD]
    rw [h1] at htail
    have ht2 := pD_lt (fun j => eD D nd (p + (1 + j))) t fun j _ => he _
    have hlast : tr = false → t ≠ 0 → pD (fun j => eD D nd (p + (1 + j))) t ≠ 0 := by
      intro htr h0
      have hl := hl htr
      obtain ⟨y, rfl⟩ : ∃ y, t = y + 1 := ⟨t - 1, by omega⟩
      rw [pD_succ]
      have h3 := eD_val dg (nd - 1) (by omega)
      rw [show p + (1 + y) = nd - 1 by omega]
      omega
    have hpv := eD_val dg p (by omega)
    have hpr := dg p (by omega)
    generalize htt : pD (fun j => eD D nd (p + j)) (t + 1) = tail at *
    generalize htz : pD (fun j => eD D nd (p + (1 + j))) t = tail2 at *
    have hodd := odd_digit D nd p dg (by omega)
    obtain ⟨U, hU⟩ : ∃ U, 10 ^ (((p : Nat) : Int) - nd + (B : Int)).toNat * 2 ^ m = U := ⟨_, rfl⟩
    have hU2 : 10 ^ (t + 1) * U = 2 * 2 ^ (m - 1) * 10 ^ B := by
      rw [← hW, ← hU, ← Nat.mul_assoc, ← Nat.pow_add, show t + 1 + (((p : Nat) : Int) - nd + (B : Int)).toNat = B by omega]
    have hU0 : 0 < U := by rw [← hU]; exact Nat.mul_pos (ten_pos _) (Nat.two_pow_pos m)
    have hX : xD B m (pD (eD D nd) nd) nd (p : Nat) = tail * U + 10 ^ B * (pD (eD D nd) p * 2 ^ m) := by
      unfold xD
      rw [Nat.mul_assoc, hU, hsp, Nat.add_mul, Nat.mul_assoc, hU2, ← hW]
      have e9 : pD (eD D nd) p * (10 ^ B * 2 ^ m) = 10 ^ B * (pD (eD D nd) p * 2 ^ m) := Nat.mul_left_comm _ _ _
      rw [e9]; omega
    rw [hX, Nat.add_mul_div_left _ _ (ten_pos B)] at hwh
    rw [hX, Nat.add_mul_mod_self_left] at hsk
    have hdm := Nat.div_add_mod (tail * U) (10 ^ B)
    have hrm := Nat.mod_lt (tail * U) (ten_pos B)
    have hc := half_cases (10 ^ B) (tail * U / 10 ^ B) (tail * U % 10 ^ B) (2 ^ (m - 1)) (tail * U) hdm hrm
    have hg : tail * U / 10 ^ B < 2 ^ m := by
      rw [Nat.div_lt_iff_lt_mul (ten_pos B)]
      have h3 : tail * U < 10 ^ (t + 1) * U := Nat.mul_lt_mul_of_pos_right htl hU0
      rw [hU2, ← hW, Nat.mul_comm (10 ^ B)] at h3
      exact h3
    generalize tail * U / 10 ^ B = g at *
    generalize tail * U % 10 ^ B = r at *
    have hq : pD (eD D nd) p = F / 2 ^ m := by
      rw [← hwh, Nat.add_mul_div_right _ _ (Nat.two_pow_pos m), Nat.div_eq_of_lt hg, Nat.zero_add]
    refine ⟨hq, ?_⟩
    have hT : (2 * (F / 2 ^ m) + 1) * 2 ^ (m - 1) = 2 ^ (m - 1) + pD (eD D nd) p * 2 ^ m := by
      rw [← hq, Nat.add_mul, Nat.one_mul]
      rw [two_split m hm, ← Nat.mul_assoc, Nat.mul_comm _ 2]
      omega
    -- 2 * tail against ten to t + 1
    have hcmp : ∀ a : Nat, (a = 10 ^ (t + 1) → (2 * tail < a → tail * U < 2 ^ (m - 1) * 10 ^ B) ∧ (2 * tail = a → tail * U = 2 ^ (m - 1) * 10 ^ B) ∧ (a < 2 * tail → 2 ^ (m - 1) * 10 ^ B < tail * U)) := by
      intro a ha
      have e5 : a * U = 2 * (2 ^ (m - 1) * 10 ^ B) := by rw [ha, hU2, Nat.mul_assoc]
      have e6 : 2 * tail * U = 2 * (tail * U) := Nat.mul_assoc _ _ _
      refine ⟨fun h => ?_, fun h => ?_, fun h => ?_⟩
      · have : 2 * tail * U < a * U := Nat.mul_lt_mul_of_pos_right h hU0
        omega
      · rw [h] at e6; omega
      · have : a * U < 2 * tail * U := Nat.mul_lt_mul_of_pos_right h hU0
        omega
    obtain ⟨k1, k2, k3⟩ := hcmp _ rfl
    rw [Nat.pow_succ] at k1 k2 k3
    unfold upDec
    rw [if_neg hp]
    by_cases h5 : D p = 53 ∧ p + 1 = nd
    · rw [if_pos h5]
      obtain rfl : t = 0 := by omega
      have e5 : eD D nd p = 5 := by omega
      have ez : tail2 = 0 := by simpa using ht2
      have h2t : 2 * tail = 10 ^ 0 * 10 := by rw [htail, e5, ez]
      obtain ⟨g1, g2⟩ := hc.2.1 (k2 h2t)
      have hF : F = (2 * (F / 2 ^ m) + 1) * 2 ^ (m - 1) := by rw [hT, ← hwh, g1]
      rw [upFs_half F m st hF, hodd, hq]
      cases tr with
      | true =>
        have : st = true := by
          cases st with
          | true => rfl
          | false => exact absurd (hsk.1 rfl).2 (by simp)
        rw [this]; simp
      | false =>
        have : st = false := hsk.2 ⟨g2, rfl⟩
        rw [this]; simp
    · rw [if_neg h5]
      by_cases h6 : 53 ≤ D p
      · rw [decide_eq_true h6]
        have h8 : 5 ≤ eD D nd p := by omega
        by_cases h9 : 6 ≤ eD D nd p ∨ tail2 ≠ 0
        · have h7 : 10 ^ t * 10 < 2 * tail := by
            rcases h9 with h9 | h9
            · have : 6 * 10 ^ t ≤ eD D nd p * 10 ^ t := Nat.mul_le_mul_right _ h9
              have := ten_pos t
              omega
            · have : 5 * 10 ^ t ≤ eD D nd p * 10 ^ t := Nat.mul_le_mul_right _ h8
              omega
          refine (upFs_more F m st ?_).symm
          rcases hc.1 (k3 h7) with g1 | ⟨g1, g2⟩
          · left; rw [hT, ← hwh]; omega
          · right
            refine ⟨by rw [hT, ← hwh, g1], ?_⟩
            cases st with
            | true => rfl
            | false => exact absurd (hsk.1 rfl).1 g2
        · have e5 : eD D nd p = 5 := by omega
          have ez : tail2 = 0 := by omega
          have ht0 : t ≠ 0 := by
            intro h0
            exact h5 ⟨by omega, by omega⟩
          have htr : tr = true := by
            cases tr with
            | true => rfl
            | false => exact absurd ez (hlast rfl ht0)
          have h2t : 2 * tail = 10 ^ t * 10 := by rw [htail, e5, ez]; omega
          obtain ⟨g1, g2⟩ := hc.2.1 (k2 h2t)
          have hF : F = (2 * (F / 2 ^ m) + 1) * 2 ^ (m - 1) := by rw [hT, ← hwh, g1]
          have hst : st = true := by
            cases st with
            | true => rfl
            | false => exact absurd (hsk.1 rfl).2 (by rw [htr]; simp)
          rw [upFs_half F m st hF, hst]; simp
      · rw [decide_eq_false h6]
        have h7 : 2 * tail < 10 ^ t * 10 := by
          have h8 : eD D nd p ≤ 4 := by omega
          have : eD D nd p * 10 ^ t ≤ 4 * 10 ^ t := Nat.mul_le_mul_right _ h8
          omega
        have g1 := hc.2.2 (k1 h7)
        refine (upFs_less F m st ?_).symm
        rw [hT, ← hwh]; omega
end Go.Proofs.YtnljpbpphdhnpaaGreatDoor

/- The library's tables that the slow decimal reads; a scope left by one goto. -/
namespace Go.Proofs.YtnljpbpphdhnpaaGreatDoor
open Go.RowKit Go.PlainAid

def lcS (k : Nat) : ByteArray := ⟨(Lib.decDigits (5 ^ k)).toArray⟩
def lcN (k : Nat) : Nat := k + 1 - (lcS k).size
def kS : List Nat := [1, 3, 6, 9, 13, 16, 19, 23, 24, 26, 27]
def lfB (k : Nat) : Bool :=
  decide ((lcS k).size ≤ 100) && ((List.range (lcS k).size).all fun j => decide (48 ≤ bt (lcS k) j ∧ bt (lcS k) j ≤ 57)) && decide (0 < (lcS k).size) && decide (bt (lcS k) ((lcS k).size - 1) ≠ 48) && decide (pD (cD (lcS k)) (lcS k).size = 5 ^ k) &&
  decide (lcN k + (lcS k).size = k + 1) && decide (1 ≤ lcN k) && decide (lcN k ≤ 20) && decide (2 ^ k ≤ 10 ^ lcN k) && decide (10 ^ (lcN k - 1) ≤ 2 ^ k)
theorem lf_of (k : Nat) (h : lfB k = true) : LFact k (lcN k) (lcS k) := by
  unfold lfB at h
  simp only [Bool.and_eq_true, decide_eq_true_eq, List.all_eq_true, List.mem_range] at h
  obtain ⟨⟨⟨⟨⟨⟨⟨⟨⟨a1, a2⟩, a3⟩, a4⟩, a5⟩, a6⟩, a7⟩, a8⟩, a9⟩, a10⟩ := h
  exact ⟨a1, a2, a3, a4, a5, a6, a7, a8, a9, a10⟩
theorem lf_all (k : Nat) (h : k ∈ kS) : LFact k (lcN k) (lcS k) := by
  refine lf_of k ?_
  have : kS.all lfB = true := by decide +kernel
  exact List.all_eq_true.1 this k h
def powT (j : Nat) : Nat := [1, 3, 6, 9, 13, 16, 19, 23, 26].getD j 0
structure TabD (w : World) (b : Nat) : Prop where
  ne : 8 ≠ b ∧ 11 ≠ b ∧ 16 ≠ b
  mb : w.cell? ⟨8, 0, none⟩ = some (.int .u64 23)
  eb : w.cell? ⟨8, 1, none⟩ = some (.int .u64 8)
  bi : w.cell? ⟨8, 2, none⟩ = some (.int .i64 (-127))
  pt : ∃ pb po pc, pb ≠ b ∧ w.cell? ⟨11, 0, none⟩ = some (.slice (some ⟨pb, po, none⟩) 9 pc) ∧ ∀ j, j < 9 → w.cell? ⟨pb, po + j, none⟩ = some (.int .i64 (powT j : Nat))
  lc : ∃ bb bo bc, bb ≠ b ∧ w.cell? ⟨16, 0, none⟩ = some (.slice (some ⟨bb, bo, none⟩) 61 bc) ∧ ∀ k, k ∈ kS → w.cell? ⟨bb, bo + k * 2, none⟩ = some (.int .i64 (lcN k : Nat)) ∧ w.cell? ⟨bb, bo + k * 2 + 1, none⟩ = some (.string (lcS k))
theorem TabD.keep {w w' : World} {b : Nat} (h : TabD w b) (k : Keep [b] w w') : TabD w' b := by
  obtain ⟨⟨n1, n2, n3⟩, h1, h2, h3, ⟨pb, po, pc, p1, p2, p3⟩, ⟨bb, bo, bc, q1, q2, q3⟩⟩ := h
  have hn : ∀ x, x ≠ b → x ∉ [b] := fun x hx hm => hx (by simpa using hm)
  exact ⟨⟨n1, n2, n3⟩, k.cell' h1 (hn 8 n1), k.cell' h2 (hn 8 n1), k.cell' h3 (hn 8 n1), ⟨pb, po, pc, p1, k.cell' p2 (hn 11 n2), fun j hj => k.cell' (p3 j hj) (hn pb p1)⟩,
    ⟨bb, bo, bc, q1, k.cell' q2 (hn 16 n3), fun x hx => ⟨k.cell' (q3 x hx).1 (hn bb q1), k.cell' (q3 x hx).2 (hn bb q1)⟩⟩⟩
theorem TabD.row {w : World} {b : Nat} (h : TabD w b) (k : Nat) (hk : k ∈ kS) : LRow w k (lcN k) (lcS k) := by
  obtain ⟨bb, bo, bc, _, q2, q3⟩ := h.lc
  exact ⟨bb, bo, bc, q2, (q3 k hk).1, (q3 k hk).2⟩
theorem powT_kS (j : Nat) (h : j < 9) : powT j ∈ kS := by
  have : ∀ j, j < 9 → powT j ∈ kS := by decide
  exact this j h
theorem powT_b (j : Nat) (h : j < 9) : 1 ≤ powT j ∧ powT j ≤ 26 ∧ 2 ^ powT j ≤ 10 ^ j * 2 := by
  have : ∀ j, j < 9 → 1 ≤ powT j ∧ powT j ≤ 26 ∧ 2 ^ powT j ≤ 10 ^ j * 2 := by decide
  exact this j h
theorem powT_c (j : Nat) (h : j < 9) (h1 : 1 ≤ j) : 2 ^ powT j ≤ 10 ^ j := by
  have : ∀ j, j < 9 → 1 ≤ j → 2 ^ powT j ≤ 10 ^ j := by decide
  exact this j h h1
/-- a scope that is left, or jumps once, to label l, and then is left -/
theorem wp_scope_to {P : Program} {a : Act} {w : World} {Q : Exit → Act → World → Prop} {c rest : Code} (l : Nat) (hf : findLabel c l = some rest)
    (h : c.wp P (Exit.jump l (fun a w => rest.wp P (Exit.noGoto Q) a w) Q) a w) : (Code.scope c).wp P Q a w := by
  refine wp_scope_jumps l _ (fun _ _ => 0) hf h ?_
  intro a w hJ
  refine Code.wp_mono (fun e a w hq => ?_) hJ
  cases e <;> first | exact hq | exact hq.elim
end Go.Proofs.YtnljpbpphdhnpaaGreatDoor

/- Where a number stands, by what its decimal tells. -/
namespace Go.Proofs.YtnljpbpphdhnpaaGreatDoor
open Go.RowKit Go.PlainAid

variable {w : World} {b B F : Nat} {st : Bool} {m : Nat} {D : Nat → Int} {nd : Nat} {dp : Int} {tr : Bool}
theorem GD.n_lt (g : GD w b B F st m D nd dp tr) : pD (eD D nd) nd < 10 ^ nd := pD_lt _ _ fun j _ => eD_lt g.dg j
theorem GD.n_ge (g : GD w b B F st m D nd dp tr) : 10 ^ (nd - 1) ≤ pD (eD D nd) nd := by
  have h := pD_ge (eD D nd) g.e0 (nd - 1)
  have h0 := g.n0
  rwa [show nd - 1 + 1 = nd by omega] at h
/-- at least ten to dp - 1 -/
theorem GD.at_least (g : GD w b B F st m D nd dp tr) (p : Nat) (hp : (p : Int) < dp) (hB : 2000 ≤ B) : 10 ^ p * 2 ^ m ≤ F := by
  have hge := g.n_ge
  have h0 := g.n0
  have h8 := g.n8
  rw [← g.se.wh, Nat.le_div_iff_mul_le (ten_pos B)]
  unfold xD
  have h1 : 10 ^ (nd - 1) * 10 ^ (dp - nd + (B : Int)).toNat ≤ pD (eD D nd) nd * 10 ^ (dp - nd + (B : Int)).toNat := Nat.mul_le_mul_right _ hge
  rw [← Nat.pow_add] at h1
  have h2 : 10 ^ (p + B) ≤ 10 ^ (nd - 1 + (dp - nd + (B : Int)).toNat) := Nat.pow_le_pow_right (by decide) (by omega)
  have h3 : 10 ^ (p + B) ≤ pD (eD D nd) nd * 10 ^ (dp - nd + (B : Int)).toNat := Nat.le_trans h2 h1
  rw [Nat.mul_assoc, Nat.mul_comm (2 ^ m), ← Nat.mul_assoc, ← Nat.pow_add]
  exact Nat.mul_le_mul_right _ h3
/-- less than ten to dp -/
theorem GD.less (g : GD w b B F st m D nd dp tr) (j : Nat) (hp : dp ≤ -(j : Int)) (hB : 2000 ≤ B) (hlo : -1000 ≤ dp) : F * 10 ^ j < 2 ^ m := by
  have hlt := g.n_lt
  have h8 := g.n8
  have h1 : xD B m (pD (eD D nd) nd) nd dp * 10 ^ j < 2 ^ m * 10 ^ B := by
    unfold xD
    have h2 : pD (eD D nd) nd * 10 ^ (dp - nd + (B : Int)).toNat < 10 ^ nd * 10 ^ (dp - nd + (B : Int)).toNat := Nat.mul_lt_mul_of_pos_right hlt (ten_pos _)
    rw [← Nat.pow_add] at h2
    have h3 : pD (eD D nd) nd * 10 ^ (dp - nd + (B : Int)).toNat * 10 ^ j < 10 ^ (nd + (dp - nd + (B : Int)).toNat) * 10 ^ j := Nat.mul_lt_mul_of_pos_right h2 (ten_pos _)
    rw [← Nat.pow_add] at h3
    have h4 : 10 ^ (nd + (dp - nd + (B : Int)).toNat + j) ≤ 10 ^ B := Nat.pow_le_pow_right (by decide) (by omega)
    have h5 : pD (eD D nd) nd * 10 ^ (dp - nd + (B : Int)).toNat * 10 ^ j < 10 ^ B := Nat.lt_of_lt_of_le h3 h4
    rw [Nat.mul_assoc, Nat.mul_comm (2 ^ m), ← Nat.mul_assoc, Nat.mul_comm (2 ^ m)]
    exact Nat.mul_lt_mul_of_pos_right h5 (Nat.two_pow_pos m)
  have h6 : F * 10 ^ B ≤ xD B m (pD (eD D nd) nd) nd dp := by
    rw [← g.se.wh]; exact Nat.div_mul_le_self _ _
  have h7 : F * 10 ^ j * 10 ^ B < 2 ^ m * 10 ^ B := by
    have : F * 10 ^ B * 10 ^ j ≤ xD B m (pD (eD D nd) nd) nd dp * 10 ^ j := Nat.mul_le_mul_right _ h6
    rw [Nat.mul_assoc, Nat.mul_comm (10 ^ j), ← Nat.mul_assoc]
    omega
  exact Nat.lt_of_mul_lt_mul_right h7
/-- a point at the front, and a first digit below 5: less than a half; from 5 on: at least a half -/
theorem GD.half (g : GD w b B F st m D nd 0 tr) (hB : 2000 ≤ B) (hm : 1 ≤ m) : (D 0 < 53 → 2 * F < 2 ^ m) ∧ (53 ≤ D 0 → 2 ^ m ≤ 2 * F) := by
  have h0 := g.n0
  have h8 := g.n8
  have hsp := pD_split (eD D nd) 1 (nd - 1)
  rw [show 1 + (nd - 1) = nd by omega] at hsp
  have h1 : pD (eD D nd) 1 = eD D nd 0 := by simp [pD]
  rw [h1] at hsp
  have ht := pD_lt (fun j => eD D nd (1 + j)) (nd - 1) fun j _ => eD_lt g.dg _
  have hv := eD_val g.dg 0 h0
  obtain ⟨U, hU⟩ : ∃ U, 10 ^ ((0 : Int) - nd + (B : Int)).toNat * 2 ^ m = U := ⟨_, rfl⟩
  have hU2 : 10 ^ (nd - 1) * 10 * U = 10 ^ B * 2 ^ m := by
    rw [← hU, ← Nat.pow_succ, ← Nat.mul_assoc, ← Nat.pow_add, show nd - 1 + 1 + ((0 : Int) - nd + (B : Int)).toNat = B by omega]
  have hU0 : 0 < U := by rw [← hU]; exact Nat.mul_pos (ten_pos _) (Nat.two_pow_pos m)
  have hX : xD B m (pD (eD D nd) nd) nd 0 = pD (eD D nd) nd * U := by unfold xD; rw [Nat.mul_assoc, hU]
  have hdm := Nat.div_add_mod (xD B m (pD (eD D nd) nd) nd 0) (10 ^ B)
  have hrm := Nat.mod_lt (xD B m (pD (eD D nd) nd) nd 0) (ten_pos B)
  rw [g.se.wh] at hdm
  generalize xD B m (pD (eD D nd) nd) nd 0 % 10 ^ B = r at *
  rw [hX] at hdm
  generalize pD (eD D nd) nd = V at *
  generalize pD (fun j => eD D nd (1 + j)) (nd - 1) = tl at *
  generalize 10 ^ (nd - 1) = z at *
  refine ⟨fun h => ?_, fun h => ?_⟩
  · have h2 : eD D nd 0 * z ≤ 4 * z := Nat.mul_le_mul_right _ (by omega)
    have h3 : 2 * V < z * 10 := by omega
    have h4 : 2 * V * U < z * 10 * U := Nat.mul_lt_mul_of_pos_right h3 hU0
    rw [hU2, Nat.mul_assoc] at h4
    have h5 : 10 ^ B * (2 * F) < 10 ^ B * 2 ^ m := by
      rw [Nat.mul_left_comm]; omega
    exact Nat.lt_of_mul_lt_mul_left h5
  · have h2 : 5 * z ≤ eD D nd 0 * z := Nat.mul_le_mul_right _ (by omega)
    have h3 : z * 10 ≤ 2 * V := by omega
    have h4 : z * 10 * U ≤ 2 * V * U := Nat.mul_le_mul_right _ h3
    rw [hU2, Nat.mul_assoc] at h4
    rcases Nat.lt_or_ge (2 * F) (2 ^ m) with h5 | h5
    · have h6 : 10 ^ B * (2 * F + 1) ≤ 10 ^ B * 2 ^ m := Nat.mul_le_mul_left _ h5
      rw [Nat.mul_add, Nat.mul_one, Nat.mul_left_comm] at h6
      have h7 : 10 ^ B * 2 ^ m ≤ 2 * (10 ^ B * F) + 2 * r := by omega
      rw [two_split m hm] at h5 h7
      have h8 : 10 ^ B * (F + 1) ≤ 10 ^ B * 2 ^ (m - 1) := Nat.mul_le_mul_left _ (by omega)
      rw [Nat.mul_left_comm] at h7
      rw [Nat.mul_add, Nat.mul_one] at h8
      omega
    · exact h5
end Go.Proofs.YtnljpbpphdhnpaaGreatDoor

/- Room for a doubling; the place of a number is one. -/
namespace Go.Proofs.YtnljpbpphdhnpaaGreatDoor
open Go.RowKit Go.PlainAid

theorem up_room (F m k j : Nat) (hF : 140737488355328 ≤ F) (h : F * 10 ^ j < 2 ^ m) (hk : 2 ^ k ≤ 10 ^ j) : ∃ m', m = m' + k ∧ F < 2 ^ m' := by
  have h1 : F * 2 ^ k < 2 ^ m := Nat.lt_of_le_of_lt (Nat.mul_le_mul_left _ hk) h
  have h2 : k < m := by
    have h3 : 2 ^ k ≤ F * 2 ^ k := Nat.le_mul_of_pos_left _ (by omega)
    exact (Nat.pow_lt_pow_iff_right (by decide : 1 < 2)).1 (Nat.lt_of_le_of_lt h3 h1)
  obtain ⟨m', rfl⟩ : ∃ m', m = m' + k := ⟨m - k, by omega⟩
  refine ⟨m', rfl, ?_⟩
  rw [Nat.pow_add] at h1
  exact Nat.lt_of_mul_lt_mul_right h1
theorem room_pos (F m : Nat) (hF : 140737488355328 ≤ F) (h : F < 2 ^ m) : 1 ≤ m := by
  rcases Nat.eq_zero_or_pos m with h0 | h0
  · subst h0; simp at h; omega
  · exact h0
theorem same_place (F m M : Nat) (hm : 1 ≤ m) (hM : 1 ≤ M) (a1 : 2 ^ m ≤ 2 * F) (a2 : F < 2 ^ m) (b1 : 2 ^ M ≤ 2 * F) (b2 : F < 2 ^ M) : m = M := by
  rw [two_split m hm] at a1
  rw [two_split M hM] at b1
  have h1 : m - 1 < M := (Nat.pow_lt_pow_iff_right (by decide : 1 < 2)).1 (show 2 ^ (m - 1) < 2 ^ M by omega)
  have h2 : M - 1 < m := (Nat.pow_lt_pow_iff_right (by decide : 1 < 2)).1 (show 2 ^ (M - 1) < 2 ^ m by omega)
  omega
theorem GD.nonpos {w : World} {b F : Nat} {st : Bool} {m : Nat} {D : Nat → Int} {nd : Nat} {dp : Int} {tr : Bool} (g : GD w b 2000 F st m D nd dp tr) (h : F < 2 ^ m) : dp ≤ 0 := by
  rcases Int.lt_or_le 0 dp with h1 | h1
  · have := g.at_least 0 (by omega) (by decide)
    rw [Nat.pow_zero, Nat.one_mul] at this
    omega
  · exact h1
theorem and_top (m : Nat) (h : 8388608 ≤ m) (h2 : m < 16777216) : bits .and .u64 (m : Int) 8388608 = 8388608 := by
  have h1 := u64_and_nat m 8388608 (by omega) (by decide)
  rw [show ((8388608 : Nat) : Int) = 8388608 from rfl] at h1
  rw [h1]
  have h3 := Nat.two_pow_add_eq_or_of_lt (i := 23) (b := m - 8388608) (by omega) 1
  have h4 : m = 2 ^ 23 * 1 ||| (m - 8388608) := by rw [← h3]; omega
  have h5 : m &&& 8388608 = 8388608 := by
    apply Nat.eq_of_testBit_eq
    intro i
    rw [Nat.testBit_and, show (8388608 : Nat) = 2 ^ 23 by decide, Nat.testBit_two_pow]
    by_cases hi : 23 = i
    · subst hi
      rw [h4, Nat.testBit_or, show 2 ^ 23 * 1 = 2 ^ 23 by decide, Nat.testBit_two_pow]
      simp
    · simp [hi]
  rw [h5]; rfl
theorem and_low (m : Nat) (h : m < 8388608) : bits .and .u64 (m : Int) 8388608 = 0 := by
  have h1 := u64_and_nat m 8388608 (by omega) (by decide)
  rw [show ((8388608 : Nat) : Int) = 8388608 from rfl] at h1
  rw [h1]
  have h5 : m &&& 8388608 = 0 := by
    apply Nat.eq_of_testBit_eq
    intro i
    rw [Nat.testBit_and, show (8388608 : Nat) = 2 ^ 23 by decide, Nat.testBit_two_pow, Nat.zero_testBit]
    by_cases hi : 23 = i
    · subst hi
      rw [Nat.testBit_lt_two_pow h]; rfl
    · simp [hi]
  rw [h5]; rfl
theorem and_rest (m : Nat) (h : m < 18446744073709551616) : bits .and .u64 (m : Int) 8388607 = ((m % 8388608 : Nat) : Int) := by
  have h1 := u64_and_nat m 8388607 h (by decide)
  rw [show ((8388607 : Nat) : Int) = 8388607 from rfl] at h1
  rw [h1, show (8388607 : Nat) = 2 ^ 23 - 1 by decide, Nat.and_two_pow_sub_one_eq_mod]
theorem or_up (f k : Nat) (h : f < 8388608) (hk : k < 512) : bits .or .u64 (f : Int) ((k * 8388608 : Nat) : Int) = ((f + k * 8388608 : Nat) : Int) := by
  have h1 := u64_or_nat f (k * 8388608) (by omega) (by omega)
  rw [h1]
  have h2 := Nat.two_pow_add_eq_or_of_lt (i := 23) (b := f) (by omega) k
  rw [Nat.or_comm, show k * 8388608 = 2 ^ 23 * k by omega, ← h2]
  congr 1
  omega
theorem and_255 (v : Nat) (h : v < 256) : bits .and .i64 (v : Int) 255 = (v : Int) := by
  have : ∀ v, v < 256 → bits .and .i64 ((v : Nat) : Int) 255 = ((v : Nat) : Int) := by decide +kernel
  exact this v h
set_option maxRecDepth 1000000 in
theorem should_neg (w : World) (b : Nat) (p : Int) (hp : p < 0) : Calls Tryz.prog 183 #[.pointer (some ⟨b, 0, none⟩), .int .i64 p] w fun e w' => e = .returned (.bool false) ∧ w' = w := by
  go_enter Tryz.func183, Tryz.ntmps183
  go_wp2
  go_ret
  exact ⟨rfl, rfl⟩
set_option maxRecDepth 1000000 in
theorem rounded_neg (w : World) (b : Nat) (D : Nat → Int) (nd : Nat) (p : Int) (tr : Bool) (h : DecC w b D nd p tr) (hp : p < 0) :
    Calls Tryz.prog 191 #[.pointer (some ⟨b, 0, none⟩)] w fun e w' => e = .returned (.int .u64 ((0 : Nat) : Int)) ∧ w' = w := by
  have hS := should_neg w b p hp
  have c801 := h.dp
  clear h
  go_enter Tryz.func191, Tryz.ntmps191
  go_wp2
  refine wp_loop_rounds 1 ?_
  rw [rounds_succ]
  go_wp2
  refine wp_loop_rounds 1 ?_
  rw [rounds_succ]
  go_wp2_with fail
  refine hS.mono ?_
  rintro e9 w9 ⟨rfl, hw9⟩
  obtain rfl := hw9.symm
  clear hw9
  go_wp2
  go_ret
  exact ⟨rfl, rfl⟩
end Go.Proofs.YtnljpbpphdhnpaaGreatDoor
