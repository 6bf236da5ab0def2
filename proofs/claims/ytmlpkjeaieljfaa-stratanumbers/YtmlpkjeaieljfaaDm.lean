/- The document's own way to the parts' numbers: mathematics. -/
import Derived.Test.YtmlpkjeaieljfaaPa
namespace Go.Proofs.Ytmlpkjeaieljfaa

/-- the part of z may come: its arcs lead to it, or to what has a number -/
def Rdy (E : Nat → Nat → Prop) (o : Nat → Int) (z : Nat) : Prop := ∀ u v, Mut E u z → E u v → 0 ≤ o v ∨ Mut E v z

/-- numbers below k are given -/
structure Nb (E : Nat → Nat → Prop) (n : Nat) (o : Nat → Int) (k : Nat) : Prop where
  rng : ∀ x, x < n → o x = -1 ∨ (0 ≤ o x ∧ o x < k)
  same : ∀ x y, x < n → y < n → Mut E x y → o x = o y
  part : ∀ x y, x < n → y < n → 0 ≤ o x → o x = o y → Mut E x y
  full : ∀ j : Nat, j < k → ∃ y, y < n ∧ o y = j
  down : ∀ x y, E x y → 0 ≤ o x → 0 ≤ o y ∧ o y ≤ o x
  least : ∀ x z, x < n → z < n → 0 ≤ o x → (o z = -1 ∨ o x ≤ o z) → (∀ u v, Mut E u z → E u v → (0 ≤ o v ∧ o v < o x) ∨ Mut E v z) → ∃ y, y < n ∧ o y = o x ∧ y ≤ z

theorem Nb.start (E : Nat → Nat → Prop) (n : Nat) (o : Nat → Int) (h : ∀ x, x < n → o x = -1) (hE : ∀ x y, E x y → x < n ∧ y < n) : Nb E n o 0 where
  rng x hx := .inl (h x hx)
  same x y hx hy _ := by rw [h x hx, h y hy]
  part x y hx hy h0 _ := by rw [h x hx] at h0; omega
  full j hj := by omega
  down x y hxy h0 := by rw [h x (hE x y hxy).1] at h0; omega
  least x z hx hz h0 := by rw [h x hx] at h0; omega

theorem Nb.step {E : Nat → Nat → Prop} {n k i : Nat} {o o' : Nat → Int} (h : Nb E n o k) (hE : ∀ x y, E x y → x < n ∧ y < n) (hi : i < n) (hoi : o i = -1) (hr : Rdy E o i) (hf : ∀ j, j < i → o j = -1 → ¬ Rdy E o j)
    (h1 : ∀ x, x < n → Mut E x i → o' x = k) (h2 : ∀ x, x < n → ¬ Mut E x i → o' x = o x) : Nb E n o' (k + 1) := by
  have hno : ∀ x, x < n → 0 ≤ o x → ¬ Mut E x i := fun x hx h0 hm => by
    have := h.same x i hx hi hm
    omega
  have hlt : ∀ x, x < n → o x < k := fun x hx => by rcases h.rng x hx with e | e <;> omega
  refine ⟨fun x hx => ?_, fun x y hx hy hm => ?_, fun x y hx hy h0 he => ?_, fun j hj => ?_, fun x y hxy h0 => ?_, fun x z hx hz h0 hxz hrd => ?_⟩
  · by_cases hm : Mut E x i
    · rw [h1 x hx hm]; exact .inr ⟨by omega, by omega⟩
    · rw [h2 x hx hm]
      rcases h.rng x hx with e | e
      · exact .inl e
      · exact .inr ⟨e.1, by omega⟩
  · by_cases hx1 : Mut E x i
    · rw [h1 x hx hx1, h1 y hy (hm.symm.trans hx1)]
    · rw [h2 x hx hx1, h2 y hy (fun hy1 => hx1 (hm.trans hy1))]
      exact h.same x y hx hy hm
  · by_cases hx1 : Mut E x i
    · by_cases hy1 : Mut E y i
      · exact hx1.trans hy1.symm
      · rw [h1 x hx hx1, h2 y hy hy1] at he
        have := hlt y hy
        omega
    · by_cases hy1 : Mut E y i
      · rw [h2 x hx hx1, h1 y hy hy1] at he
        have := hlt x hx
        omega
      · rw [h2 x hx hx1, h2 y hy hy1] at he
        rw [h2 x hx hx1] at h0
        exact h.part x y hx hy h0 he
  · by_cases e : j = k
    · exact ⟨i, hi, by rw [h1 i hi (Mut.refl i), e]⟩
    · obtain ⟨y, hy, e2⟩ := h.full j (by omega)
      exact ⟨y, hy, by rw [h2 y hy (hno y hy (by omega))]; exact e2⟩
  · obtain ⟨hx, hy⟩ := hE x y hxy
    by_cases hx1 : Mut E x i
    · rw [h1 x hx hx1]
      by_cases hy1 : Mut E y i
      · rw [h1 y hy hy1]; omega
      · rw [h2 y hy hy1]
        rcases hr x y hx1 hxy with e | e
        · have := hlt y hy
          omega
        · exact absurd e hy1
    · rw [h2 x hx hx1] at h0 ⊢
      have h3 := h.down x y hxy h0
      rw [h2 y hy (hno y hy h3.1)]
      exact h3
  · by_cases hx1 : Mut E x i
    · rw [h1 x hx hx1] at hxz hrd ⊢
      by_cases hz1 : Mut E z i
      · exact ⟨z, hz, h1 z hz hz1, Nat.le_refl _⟩
      · rw [h2 z hz hz1] at hxz
        have hlz := hlt z hz
        have hz2 : o z = -1 := by rcases hxz with e | e; exact e; omega
        refine ⟨i, hi, h1 i hi (Mut.refl i), Nat.le_of_not_lt fun hzi => hf z hzi hz2 (fun u v hu huv => ?_)⟩
        rcases hrd u v hu huv with e | e
        · have hv := (hE u v huv).2
          by_cases hv1 : Mut E v i
          · rw [h1 v hv hv1] at e; omega
          · rw [h2 v hv hv1] at e; exact .inl e.1
        · exact .inr e
    · rw [h2 x hx hx1] at hxz hrd h0 ⊢
      have hz2 : o z = -1 ∨ o x ≤ o z := by
        by_cases hz1 : Mut E z i
        · exact .inl ((h.same z i hz hi hz1).trans hoi)
        · rwa [h2 z hz hz1] at hxz
      obtain ⟨y, hy, e1, e2⟩ := h.least x z hx hz h0 hz2 (fun u v hu huv => by
        rcases hrd u v hu huv with e | e
        · have hv := (hE u v huv).2
          have hlx := hlt x hx
          by_cases hv1 : Mut E v i
          · rw [h1 v hv hv1] at e; omega
          · rw [h2 v hv hv1] at e; exact .inl e
        · exact .inr e)
      exact ⟨y, hy, by rw [h2 y hy (hno y hy (by omega))]; exact e1, e2⟩

open Classical in
/-- where none may come, all have a number -/
theorem Nb.all {E : Nat → Nat → Prop} {n k : Nat} {o : Nat → Int} (h : Nb E n o k) (hE : ∀ x y, E x y → x < n ∧ y < n) (hno : ∀ j, j < n → o j = -1 → ¬ Rdy E o j) : ∀ x, x < n → 0 ≤ o x := by
  have key : ∀ c x, x < n → o x = -1 → (List.range n).countP (fun y => decide (Rch E x y)) ≤ c → False := by
    intro c
    induction c with
    | zero =>
      intro x hx _ hc
      exact Nat.not_lt.2 hc (List.countP_pos_iff.2 ⟨x, List.mem_range.2 hx, by simpa using Rch.refl⟩)
    | succ c ih =>
      intro x hx hox hc
      have hr := hno x hx hox
      obtain ⟨u, v, hu, huv, h0, hm⟩ : ∃ u v, Mut E u x ∧ E u v ∧ ¬ 0 ≤ o v ∧ ¬ Mut E v x := Classical.byContradiction fun hh => hr (fun u v hu huv => Classical.byContradiction fun h3 => hh ⟨u, v, hu, huv, fun e => h3 (.inl e), fun e => h3 (.inr e)⟩)
      have hv := (hE u v huv).2
      have hov : o v = -1 := by rcases h.rng v hv with e | e; exact e; exact absurd e.1 h0
      have hxv : Rch E x v := hu.2.tail huv
      refine ih v hv hov (Nat.le_of_lt_succ (Nat.lt_of_lt_of_le ?_ hc))
      refine countP_less _ (fun y _ hy => ?_) x (List.mem_range.2 hx) (by simpa using Rch.refl) ?_
      · simp only [decide_eq_true_iff] at hy ⊢
        exact hxv.trans hy
      · simp only [decide_eq_false_iff_not]
        exact fun hvx => hm ⟨hvx, hxv⟩
  exact fun x hx => Classical.byContradiction fun h0 => by
    have : o x = -1 := by rcases h.rng x hx with e | e; exact e; exact absurd e.1 h0
    exact key _ x hx this (Nat.le_refl _)

theorem Nb.numbered {E : Nat → Nat → Prop} {n k : Nat} {o : Nat → Int} (h : Nb E n o k) (hE : ∀ x y, E x y → x < n ∧ y < n) (hall : ∀ x, x < n → 0 ≤ o x) : Numbered E n (fun x => (o x).toNat) where
  same x y hx hy := by
    have h1 := hall x hx
    have h2 := hall y hy
    constructor
    · intro e
      exact h.part x y hx hy h1 (by omega)
    · intro e
      simp only [h.same x y hx hy e]
  full x hx j hj := by
    have h1 := hall x hx
    obtain ⟨y, hy, e⟩ := h.full j (by rcases h.rng x hx with e | e <;> omega)
    exact ⟨y, hy, by simp only [e]; omega⟩
  down x y hxy := by
    have h1 := h.down x y hxy (hall x (hE x y hxy).1)
    omega
  least x z hx hz hxz hrd := by
    have h1 := hall x hx
    have h2 := hall z hz
    obtain ⟨y, hy, e1, e2⟩ := h.least x z hx hz h1 (.inr (by omega)) (fun u v hu huv => by
      have hv := hall v (hE u v huv).2
      rcases hrd u v hu huv with e | e
      · exact .inl ⟨hv, by omega⟩
      · exact .inr e)
    exact ⟨y, hy, by simp only [e1], e2⟩
end Go.Proofs.Ytmlpkjeaieljfaa
