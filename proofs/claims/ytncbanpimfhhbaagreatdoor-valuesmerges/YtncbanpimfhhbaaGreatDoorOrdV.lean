/- Comparing is an order where it can be asked. -/
import Derived.Test.YtncbanpimfhhbaaGreatDoorSameV
namespace Go.Proofs.YtncbanpimfhhbaaGreatDoor
open Go.RowKit Go.PlainAid Go.Lib

theorem ord_cmpI : Ord3 cmpI := by
  refine ⟨fun a b => ?_, fun a b => ?_, fun a b => ?_, fun a b c => ?_⟩ <;> unfold cmpI
  · split
    · exact .inl rfl
    · split
      · exact .inr (.inr rfl)
      · exact .inr (.inl rfl)
  · rcases Int.lt_trichotomy a b with h | h | h
    · rw [if_neg (by omega), if_pos h, if_pos h]; rfl
    · subst h; simp
    · rw [if_pos h, if_neg (by omega), if_pos h]
  · split
    · constructor
      · intro h; simp at h
      · intro h; omega
    · split
      · constructor
        · intro h; simp at h
        · intro h; omega
      · constructor
        · intro _; omega
        · intro _; rfl
  · intro h1 h2
    split at h1
    · split at h2
      · rw [if_pos (by omega)]
      · split at h2 <;> simp at h2
    · split at h1 <;> simp at h1

theorem Ord3.le3 {α : Type} {f : α → α → Int} (h : Ord3 f) (a b c : α) (h1 : f a b ≤ 0) (h2 : f b c ≤ 0) : f a c ≤ 0 ∧ ((f a b < 0 ∨ f b c < 0) → f a c < 0) := by
  rcases h.range a b with e1 | e1 | e1
  · rcases h.range b c with e2 | e2 | e2
    · have := h.trans a b c e1 e2; omega
    · rw [← (h.same b c).1 e2]; omega
    · omega
  · have := (h.same a b).1 e1
    subst this
    exact ⟨h2, fun h => by omega⟩
  · omega

theorem cmpI_scale (a b : Int) : cmpI (a * 2 ^ 149) (b * 2 ^ 149) = cmpI a b := by
  have hP : (0 : Int) < 2 ^ 149 := by decide
  unfold cmpI
  rcases Int.lt_trichotomy a b with h | h | h
  · rw [if_pos h, if_pos (Int.mul_lt_mul_of_pos_right h hP)]
  · subst h; simp
  · have := Int.mul_lt_mul_of_pos_right h hP
    rw [if_neg (by omega), if_pos this, if_neg (by omega), if_pos h]

theorem may_kind (p : VD) (h : p.mayB = true) : 1 ≤ p.kind ∧ p.kind ≤ 5 := by
  unfold VD.mayB at h
  simp at h
  exact h.1.1
theorem zero_nan (x : Nat) (h : zeroB x = true) : nanB x = false := by
  unfold zeroB at h
  simp at h
  rcases h with rfl | rfl <;> decide
theorem clear_real (p : VD) (hk : p.kind ≠ 3) : p.clear.real = p.real := by
  unfold VD.clear
  split
  · rfl
  · split
    · rfl
    · split <;> rfl
theorem may_nan (p : VD) (h : p.mayB = true) (hk : p.kind ≠ 3) : nanB p.real = false := by
  apply zero_nan
  unfold VD.mayB at h
  simp only [Bool.and_eq_true] at h
  have h2 := h.1.2
  unfold VD.emptyB at h2
  simp only [Bool.and_eq_true] at h2
  rw [clear_real p hk] at h2
  exact h2.1.1.2

/-- a number's worth -/
def keyZ (p : VD) : Int := if p.kind = 2 then p.int * 2 ^ 149 else svalZ p.real
def numB (p : VD) : Bool := p.kind == 2 || p.kind == 3

theorem cmp_num (a b : VD) (ha : a.mayB = true) (hb : b.mayB = true) (na : numB a = true) (nb : numB b = true) (xa : nanB a.real = false) (xb : nanB b.real = false) : cmpV a b = (cmpI (keyZ a) (keyZ b), true) := by
  unfold cmpV keyZ
  rw [ha, hb, if_neg (by decide)]
  unfold numB at na nb
  simp at na nb
  rcases na with na | na <;> rcases nb with nb | nb
  · rw [if_pos (na.trans nb.symm), if_pos na, if_pos nb]
    rw [cmpI_scale]
    simp [likeV, na]
  · rw [if_neg (by omega), if_neg (by omega), if_pos ⟨na, nb⟩, if_pos na, if_neg (by omega)]
    simp only [cmpXN, xb]
    have := ord_cmpI.anti (svalZ b.real) (a.int * 2 ^ 149)
    rw [this]
    simp
  · rw [if_neg (by omega), if_pos ⟨na, nb⟩, if_neg (by omega), if_pos nb]
    simp [cmpXN, xa]
  · rw [if_pos (na.trans nb.symm), if_neg (by omega), if_neg (by omega)]
    simp [likeV, na, cmpR, xa, xb]

/-- two of one kind that is no number -/
theorem cmp_like (a b : VD) (ha : a.mayB = true) (hb : b.mayB = true) (na : numB a = false) (hk : a.kind = b.kind) :
    cmpV a b = (if a.kind = 1 then cmpI (b2i a.bool) (b2i b.bool) else if a.kind = 4 then cmpT a.text.toList b.text.toList else cmpL a.texts b.texts, true) := by
  unfold cmpV
  rw [ha, hb, if_neg (by decide), if_pos hk]
  unfold numB at na
  simp at na
  unfold likeV
  by_cases h1 : a.kind = 1
  · simp [h1]
  · by_cases h4 : a.kind = 4
    · simp [h4]
    · simp [h1, h4, na.1, na.2]

/-- can they be compared? -/
def canB (a b : VD) : Bool := a.mayB && b.mayB && !(nanB a.real || nanB b.real) && (a.kind == b.kind || numB a && numB b)

theorem cmp_none (a b : VD) (h : canB a b = false) : cmpV a b = (0, false) := by
  unfold cmpV
  cases ha : a.mayB
  · simp
  cases hb : b.mayB
  · simp
  rw [if_neg (by decide)]
  unfold canB at h
  rw [ha, hb] at h
  simp only [Bool.true_and, Bool.and_eq_false_iff, Bool.not_eq_false', Bool.or_eq_true, Bool.or_eq_false_iff] at h
  by_cases hk : a.kind = b.kind
  · rw [if_pos hk]
    have hk' : (a.kind == b.kind) = true := by simpa using hk
    have hn : nanB a.real = true ∨ nanB b.real = true := by
      rcases h with h | h
      · exact h
      · rw [hk'] at h; simp at h
    have h3 : a.kind = 3 := by
      apply Classical.byContradiction
      intro h3
      rcases hn with h | h
      · rw [may_nan a ha h3] at h; cases h
      · rw [may_nan b hb (by omega)] at h; cases h
    have hc : cmpR a.real b.real = (0, false) := by
      unfold cmpR
      rcases hn with h | h <;> simp [h]
    simp [likeV, h3, hc]
  · rw [if_neg hk]
    by_cases h32 : a.kind = 3 ∧ b.kind = 2
    · rw [if_pos h32]
      have hn : nanB a.real = true := by
        rcases h with (h | h) | h
        · exact h
        · rw [may_nan b hb (by omega)] at h; cases h
        · have h2 := h.2
          rcases h2 with h2 | h2 <;> simp [numB, h32.1, h32.2] at h2
      simp [cmpXN, hn]
    · rw [if_neg h32]
      by_cases h23 : a.kind = 2 ∧ b.kind = 3
      · rw [if_pos h23]
        have hn : nanB b.real = true := by
          rcases h with (h | h) | h
          · rw [may_nan a ha (by omega)] at h; cases h
          · exact h
          · have h2 := h.2
            rcases h2 with h2 | h2 <;> simp [numB, h23.1, h23.2] at h2
        simp [cmpXN, hn]
      · rw [if_neg h23]

/-- what is asked of comparing -/
theorem can_parts {a b : VD} (h : canB a b = true) : a.mayB = true ∧ b.mayB = true ∧ nanB a.real = false ∧ nanB b.real = false ∧ ((numB a = true ∧ numB b = true) ∨ (numB a = false ∧ a.kind = b.kind)) := by
  unfold canB at h
  simp only [Bool.and_eq_true, Bool.not_eq_true', Bool.or_eq_false_iff, Bool.or_eq_true, beq_iff_eq] at h
  obtain ⟨⟨⟨h1, h2⟩, h3, h4⟩, h5⟩ := h
  refine ⟨h1, h2, h3, h4, ?_⟩
  rcases h5 with h5 | h5
  · cases hn : numB a
    · exact .inr ⟨rfl, h5⟩
    · refine .inl ⟨rfl, ?_⟩
      unfold numB at hn ⊢
      rw [← h5]; exact hn
  · exact .inl h5
theorem cmp_can (a b : VD) : (cmpV a b).2 = canB a b := by
  cases h : canB a b
  · rw [cmp_none a b h]
  · obtain ⟨h1, h2, h3, h4, h5 | h5⟩ := can_parts h
    · rw [cmp_num a b h1 h2 h5.1 h5.2 h3 h4]
    · rw [cmp_like a b h1 h2 h5.1 h5.2]
theorem cmp_zero (a b : VD) (h : (cmpV a b).2 = false) : (cmpV a b).1 = 0 := by
  rw [cmp_can] at h
  rw [cmp_none a b h]
theorem can_comm (a b : VD) : canB b a = canB a b := by
  unfold canB
  rw [show (b.kind == a.kind) = (a.kind == b.kind) by rw [Bool.eq_iff_iff, beq_iff_eq, beq_iff_eq]; exact eq_comm, Bool.and_comm b.mayB, Bool.or_comm (nanB b.real), Bool.and_comm (numB b)]

theorem ord_texts : Ord3 (lexL cmpT) := ord_lexL ord_cmpT

theorem cmp_range (a b : VD) : (cmpV a b).1 = -1 ∨ (cmpV a b).1 = 0 ∨ (cmpV a b).1 = 1 := by
  cases h : canB a b
  · rw [cmp_none a b h]; exact .inr (.inl rfl)
  · obtain ⟨h1, h2, h3, h4, h5 | h5⟩ := can_parts h
    · rw [cmp_num a b h1 h2 h5.1 h5.2 h3 h4]; exact ord_cmpI.range _ _
    · rw [cmp_like a b h1 h2 h5.1 h5.2]
      simp only []
      split
      · exact ord_cmpI.range _ _
      · split
        · exact ord_cmpT.range _ _
        · exact ord_texts.range _ _
theorem cmp_anti (a b : VD) : (cmpV b a).1 = -(cmpV a b).1 := by
  cases h : canB a b
  · rw [cmp_none a b h, cmp_none b a (by rw [can_comm]; exact h)]; rfl
  · obtain ⟨h1, h2, h3, h4, h5 | h5⟩ := can_parts h
    · rw [cmp_num a b h1 h2 h5.1 h5.2 h3 h4, cmp_num b a h2 h1 h5.2 h5.1 h4 h3]; exact ord_cmpI.anti _ _
    · have h6 : numB b = false := by unfold numB at h5 ⊢; rw [← h5.2]; exact h5.1
      rw [cmp_like a b h1 h2 h5.1 h5.2, cmp_like b a h2 h1 h6 h5.2.symm, ← h5.2]
      simp only []
      split
      · exact ord_cmpI.anti _ _
      · split
        · exact ord_cmpT.anti _ _
        · exact ord_texts.anti _ _
theorem cmp_trans (a b c : VD) (h1 : (cmpV a b).2 = true) (h2 : (cmpV b c).2 = true) : (cmpV a c).2 = true ∧ ((cmpV a b).1 ≤ 0 → (cmpV b c).1 ≤ 0 → (cmpV a c).1 ≤ 0 ∧ (((cmpV a b).1 < 0 ∨ (cmpV b c).1 < 0) → (cmpV a c).1 < 0)) := by
  rw [cmp_can] at h1 h2
  obtain ⟨a1, b1, a2, b2, h5⟩ := can_parts h1
  obtain ⟨_, c1, _, c2, h6⟩ := can_parts h2
  rcases h5 with h5 | h5
  · have hc : numB c = true := by
      rcases h6 with h6 | h6
      · exact h6.2
      · rw [h5.2] at h6; cases h6.1
    rw [cmp_num a b a1 b1 h5.1 h5.2 a2 b2, cmp_num b c b1 c1 h5.2 hc b2 c2, cmp_num a c a1 c1 h5.1 hc a2 c2]
    exact ⟨rfl, fun x y => ord_cmpI.le3 _ _ _ x y⟩
  · have hb : numB b = false := by unfold numB at h5 ⊢; rw [← h5.2]; exact h5.1
    have hk : b.kind = c.kind := by
      rcases h6 with h6 | h6
      · rw [hb] at h6; cases h6.1
      · exact h6.2
    rw [cmp_like a b a1 b1 h5.1 h5.2, cmp_like b c b1 c1 hb hk, cmp_like a c a1 c1 h5.1 (h5.2.trans hk), ← h5.2]
    refine ⟨rfl, ?_⟩
    simp only []
    split
    · exact fun x y => ord_cmpI.le3 _ _ _ x y
    · split
      · exact fun x y => ord_cmpT.le3 _ _ _ x y
      · exact fun x y => ord_texts.le3 _ _ _ x y

theorem same_zero (a b : VD) (h : sameV a b = true) (hn : nanB a.real = false) (hn' : nanB b.real = false) : (cmpV a b).1 = 0 := by
  unfold sameV at h
  simp only [Bool.and_eq_true, decide_eq_true_eq] at h
  obtain ⟨⟨hk, ha, hb⟩, h⟩ := h
  cases hnum : numB a
  · rw [cmp_like a b ha hb hnum hk]
    have h3 : a.kind ≠ 3 := by unfold numB at hnum; simp at hnum; exact hnum.2
    rw [if_neg h3] at h
    simp only [Bool.and_eq_true, beq_iff_eq] at h
    obtain ⟨⟨⟨e1, e2⟩, e3⟩, e4⟩ := h
    simp only []
    split
    · rw [e1]; exact (ord_cmpI.same _ _).2 rfl
    · split
      · rw [e3]; exact (ord_cmpT.same _ _).2 rfl
      · unfold cmpL
        unfold eqL at e4
        rw [beq_iff_eq] at e4
        exact (ord_texts.same _ _).2 e4
  · have hnb : numB b = true := by unfold numB at hnum ⊢; rw [← hk]; exact hnum
    rw [cmp_num a b ha hb hnum hnb hn hn']
    refine (ord_cmpI.same _ _).2 ?_
    unfold keyZ
    rw [← hk]
    by_cases h3 : a.kind = 3
    · rw [if_pos h3] at h
      rw [if_neg (by omega), if_neg (by omega)]
      unfold sameR eqB at h
      simp [hn, hn'] at h
      exact h.1
    · rw [if_neg h3] at h
      simp only [Bool.and_eq_true, beq_iff_eq] at h
      have h2 : a.kind = 2 := by unfold numB at hnum; simp at hnum; omega
      rw [if_pos h2, if_pos h2, h.1.1.2]

end Go.Proofs.YtncbanpimfhhbaaGreatDoor

