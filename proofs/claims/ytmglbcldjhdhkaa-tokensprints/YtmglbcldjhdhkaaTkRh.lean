/- The document's number. -/
import Derived.Test.YtmglbcldjhdhkaaTkRg
namespace Go.Proofs.Ytmglbcldjhdhkaa
open Go.RowKit Go.PlainAid

abbrev dg (c : UInt8) : Bool := digitB (c.toNat : Int)
def dl (l : List UInt8) : Nat := (l.takeWhile dg).length
theorem dl_le (l : List UInt8) : dl l ≤ l.length := List.Sublist.length_le (List.takeWhile_sublist _)
theorem dl_cons {c : UInt8} {t : List UInt8} (h : dg c = true) : dl (c :: t) = dl t + 1 := by simp [dl, h]
theorem dl_zero {c : UInt8} {t : List UInt8} (h : dg c = false) : dl (c :: t) = 0 := by simp [dl, h]
theorem dl_rest : ∀ (l : List UInt8) (c : UInt8) (t : List UInt8), l.drop (dl l) = c :: t → dg c = false
  | [], c, t, h => by simp [dl] at h
  | d :: l, c, t, h => by
    cases hd : dg d
    · rw [dl_zero hd] at h
      simp only [List.drop_zero, List.cons.injEq] at h
      rw [← h.1]; exact hd
    · rw [dl_cons hd, List.drop_succ_cons] at h
      exact dl_rest l c t h
theorem num_digits (st : Int) (hs : st = 1 ∨ st = 3 ∨ st = 6) : ∀ l, numGo st l = (dl l + (numGo st (l.drop (dl l))).1, (numGo st (l.drop (dl l))).2)
  | [] => by simp [dl, numGo]
  | c :: t => by
    cases hd : dg c
    · rw [dl_zero hd]; simp
    · have hst : stepI st (c.toNat : Int) = st := by
        unfold stepI
        rw [if_pos hd]
        rcases hs with rfl | rfl | rfl <;> simp
      rw [dl_cons hd, List.drop_succ_cons, numGo, if_neg (by rw [hst]; omega), hst, num_digits st hs t]
      simp; omega
theorem num_first (st st' : Int) (hst : ∀ c : UInt8, dg c = true → stepI st (c.toNat : Int) = st') (hs : st' = 3 ∨ st' = 6) (l : List UInt8) (h : 1 ≤ dl l) : numGo st l = (dl l + (numGo st' (l.drop (dl l))).1, (numGo st' (l.drop (dl l))).2) := by
  cases l with
  | nil => simp [dl] at h
  | cons c t =>
    cases hd : dg c
    · rw [dl_zero hd] at h; omega
    · rw [dl_cons hd, List.drop_succ_cons, numGo, if_neg (by rw [hst c hd]; omega), hst c hd, num_digits st' (by omega) t]
      simp; omega
/-- the end state is one of a whole number -/
def okN (q : Nat × Int × Bool) : Prop := q.2.2 = false ∧ (q.2.1 = 1 ∨ q.2.1 = 3 ∨ q.2.1 = 6)
theorem num_some (st : Int) (l : List UInt8) (h : okN (numGo st l)) (hst : ∀ c : UInt8, dg c = false → c ≠ 45 → stepI st (c.toNat : Int) = 0) (hf : ¬ (st = 1 ∨ st = 3 ∨ st = 6)) (h45 : ∀ t, l = 45 :: t → False) : 1 ≤ dl l := by
  cases l with
  | nil => exact absurd h.2 (by simpa [numGo] using hf)
  | cons c t =>
    cases hd : dg c
    · exfalso
      have hc : c ≠ 45 := fun e => h45 t (by rw [e])
      rw [numGo, if_pos (hst c hd hc)] at h
      exact hf h.2
    · rw [dl_cons hd]; omega
theorem not46 {c : UInt8} (h : c ≠ 46) : ¬ ((c.toNat : Int) = 46) := fun e => h (by apply UInt8.toNat_inj.1; show c.toNat = 46; omega)
theorem not101 {c : UInt8} (h : c ≠ 101) : ¬ ((c.toNat : Int) = 101) := fun e => h (by apply UInt8.toNat_inj.1; show c.toNat = 101; omega)
theorem not45 {c : UInt8} (h : c ≠ 45) : ¬ ((c.toNat : Int) = 45) := fun e => h (by apply UInt8.toNat_inj.1; show c.toNat = 45; omega)
/-- the four forms of a number -/
theorem num_forms (l : List UInt8) (h : okN (numGo 1 l)) :
    ((∀ t, l.drop (dl l) ≠ 46 :: t) ∧ numGo 1 l = (dl l, 1, false)) ∨
    ∃ t, l.drop (dl l) = 46 :: t ∧ 1 ≤ dl t ∧
      (((∀ u, t.drop (dl t) ≠ 101 :: u) ∧ numGo 1 l = (dl l + 1 + dl t, 3, false)) ∨
      ∃ u, t.drop (dl t) = 101 :: u ∧
        ((∃ v, u = 45 :: v ∧ 1 ≤ dl v ∧ numGo 1 l = (dl l + 1 + dl t + 1 + 1 + dl v, 6, false)) ∨
        ((∀ v, u ≠ 45 :: v) ∧ 1 ≤ dl u ∧ numGo 1 l = (dl l + 1 + dl t + 1 + dl u, 6, false)))) := by
  have e1 := num_digits 1 (.inl rfl) l
  have six : ∀ r : List UInt8, numGo 6 (r.drop (dl r)) = (0, 6, (numGo 6 (r.drop (dl r))).2.2) := fun r => by
    cases hr : r.drop (dl r) with
    | nil => rfl
    | cons c t =>
      have hd := dl_rest r c t hr
      have : stepI 6 (c.toNat : Int) = 0 := by unfold stepI; rw [if_neg (by simp [hd])]; simp
      rw [numGo, if_pos this]
  cases hr : l.drop (dl l) with
  | nil =>
    left
    rw [hr] at e1
    exact ⟨by simp, by rw [e1]; simp [numGo]⟩
  | cons c t =>
    have hd := dl_rest l c t hr
    rw [hr] at e1
    by_cases h46 : c = 46
    · right
      subst h46
      have hs2 : stepI 1 ((46 : UInt8).toNat : Int) = 2 := by decide
      have e2 : numGo 1 (46 :: t) = ((numGo 2 t).1 + 1, (numGo 2 t).2) := by rw [numGo, hs2]; simp
      rw [e2] at e1
      simp only at e1
      have h2 : okN (numGo 2 t) := by rw [e1] at h; exact h
      have hd2 : 1 ≤ dl t := num_some 2 t h2 (fun c hc _ => by unfold stepI; rw [if_neg (by simp [hc])]; simp) (by omega) (fun u e => by
        subst e
        rw [numGo, if_pos (by decide)] at h2
        have := h2.2
        simp at this)
      have e3 := num_first 2 3 (fun c hc => by unfold stepI; rw [if_pos hc]; simp) (.inl rfl) t hd2
      rw [e3] at e1 h2
      refine ⟨t, rfl, hd2, ?_⟩
      cases hr3 : t.drop (dl t) with
      | nil =>
        left
        rw [hr3] at e1
        exact ⟨by simp, by rw [e1]; simp [numGo]; omega⟩
      | cons c3 u =>
        have hd3 := dl_rest t c3 u hr3
        rw [hr3] at e1 h2
        by_cases h101 : c3 = 101
        · right
          subst h101
          have hs4 : stepI 3 ((101 : UInt8).toNat : Int) = 4 := by decide
          have e4 : numGo 3 (101 :: u) = ((numGo 4 u).1 + 1, (numGo 4 u).2) := by rw [numGo, hs4]; simp
          rw [e4] at e1 h2
          simp only at e1
          have h4 : okN (numGo 4 u) := h2
          refine ⟨u, rfl, ?_⟩
          by_cases h45 : ∃ v, u = 45 :: v
          · obtain ⟨v, rfl⟩ := h45
            left
            have hs5 : stepI 4 ((45 : UInt8).toNat : Int) = 5 := by decide
            have e5 : numGo 4 (45 :: v) = ((numGo 5 v).1 + 1, (numGo 5 v).2) := by rw [numGo, hs5]; simp
            rw [e5] at e1 h4
            simp only at e1
            have h5 : okN (numGo 5 v) := h4
            have hd5 : 1 ≤ dl v := num_some 5 v h5 (fun c hc _ => by unfold stepI; rw [if_neg (by simp [hc])]; simp) (by omega) (fun u e => by
              subst e
              rw [numGo, if_pos (by decide)] at h5
              have := h5.2
              simp at this)
            have e6 := num_first 5 6 (fun c hc => by unfold stepI; rw [if_pos hc]; simp) (.inr rfl) v hd5
            rw [e6] at e1 h5
            have hb : (numGo 6 (v.drop (dl v))).2.2 = false := h5.1
            rw [six v, hb] at e1
            exact ⟨v, rfl, hd5, by rw [e1]; simp; omega⟩
          · right
            have h45' : ∀ v, u ≠ 45 :: v := fun v e => h45 ⟨v, e⟩
            have hd4 : 1 ≤ dl u := num_some 4 u h4 (fun c hc hn => by unfold stepI; rw [if_neg (by simp [hc])]; simp [not45 hn]) (by omega) (fun v e => h45' v e)
            have e6 := num_first 4 6 (fun c hc => by unfold stepI; rw [if_pos hc]; simp) (.inr rfl) u hd4
            rw [e6] at e1 h4
            have hb : (numGo 6 (u.drop (dl u))).2.2 = false := h4.1
            rw [six u, hb] at e1
            exact ⟨h45', hd4, by rw [e1]; simp; omega⟩
        · left
          have hs3 : stepI 3 (c3.toNat : Int) = 0 := by unfold stepI; rw [if_neg (by simp [hd3])]; simp [not101 h101]
          rw [numGo, if_pos hs3] at e1 h2
          have hb : nm c3 = false := h2.1
          rw [hb] at e1
          refine ⟨fun u' e => h101 (by simp only [List.cons.injEq] at e; exact e.1), by rw [e1]; simp; omega⟩
    · left
      have hs1 : stepI 1 (c.toNat : Int) = 0 := by unfold stepI; rw [if_neg (by simp [hd])]; simp [not46 h46]
      rw [numGo, if_pos hs1] at e1
      have hb : nm c = false := by rw [e1] at h; exact h.1
      rw [hb] at e1
      exact ⟨fun u e => h46 (by simp only [List.cons.injEq] at e; exact e.1), by rw [e1]; simp⟩
end Go.Proofs.Ytmglbcldjhdhkaa
