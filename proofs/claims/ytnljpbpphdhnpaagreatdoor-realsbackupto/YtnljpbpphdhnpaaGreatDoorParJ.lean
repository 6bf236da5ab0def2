/- A text of a real as digits, a point, digits, an e, a minus, digits. -/
import Derived.Test.YtnljpbpphdhnpaaGreatDoorParD
namespace Go.Proofs.YtnljpbpphdhnpaaGreatDoor
open Go.RowKit Go.PlainAid

theorem bt_left (A r : List UInt8) (hA : Dig A) (j : Nat) (h : j < A.length) : 48 ≤ bt (bl (A ++ r)) j ∧ bt (bl (A ++ r)) j ≤ 57 := by
  rw [bl_bt _ j (by rw [List.length_append]; omega), List.getElem_append_left h]
  have := hA _ (List.getElem_mem h)
  omega
theorem bt_right (A r : List UInt8) (j : Nat) : bt (bl (A ++ r)) (A.length + j) = bt (bl r) j := by
  by_cases h : j < r.length
  · rw [bl_bt _ _ (by rw [List.length_append]; omega), bl_bt _ _ h, List.getElem_append_right (by omega)]
    congr 3
    omega
  · unfold bt
    rw [dif_neg (by rw [bl_size, List.length_append]; omega), dif_neg (by rw [bl_size]; omega)]
theorem bt_head (c : UInt8) (r : List UInt8) : bt (bl (c :: r)) 0 = (c.toNat : Int) := by rw [bl_bt _ 0 (by simp)]; rfl
theorem bt_at (A : List UInt8) (c : UInt8) (r : List UInt8) : bt (bl (A ++ c :: r)) A.length = (c.toNat : Int) := by
  have := bt_right A (c :: r) 0
  rw [Nat.add_zero] at this
  rw [this, bt_head]
theorem bt_mid (A P r : List UInt8) (hP : Dig P) (j : Nat) (h1 : A.length ≤ j) (h2 : j < A.length + P.length) : 48 ≤ bt (bl (A ++ (P ++ r))) j ∧ bt (bl (A ++ (P ++ r))) j ≤ 57 := by
  obtain ⟨i, rfl⟩ : ∃ i, j = A.length + i := ⟨j - A.length, by omega⟩
  rw [bt_right]
  exact bt_left P r hP i (by omega)
theorem bt_in (A P r : List UInt8) (i : Nat) (h : i < P.length) : bt (bl (A ++ (P ++ r))) (A.length + i) = ((P[i]).toNat : Int) := by
  rw [bt_right, bl_bt _ i (by rw [List.length_append]; omega), List.getElem_append_left h]
theorem ext_mid (A P r : List UInt8) : (bl (A ++ (P ++ r))).extract A.length (A.length + P.length) = bl P := by
  apply ByteArray.ext
  unfold bl
  simp
theorem shape (W P r : List UInt8) : W ++ 46 :: (P ++ r) = (W ++ [46]) ++ (P ++ r) := by simp
theorem shape_len (W : List UInt8) : (W ++ [(46 : UInt8)]).length = W.length + 1 := by simp
/-- what every text with a point has -/
theorem sh (W P r : List UInt8) (hW : Dig W) (hP : Dig P) : (∀ j, j < W.length → 48 ≤ bt (bl (W ++ 46 :: (P ++ r))) j ∧ bt (bl (W ++ 46 :: (P ++ r))) j ≤ 57) ∧ bt (bl (W ++ 46 :: (P ++ r))) W.length = 46 ∧ (∀ j, W.length + 1 ≤ j → j < W.length + 1 + P.length → 48 ≤ bt (bl (W ++ 46 :: (P ++ r))) j ∧ bt (bl (W ++ 46 :: (P ++ r))) j ≤ 57) ∧ (bl (W ++ 46 :: (P ++ r))).extract 0 W.length ++ (bl (W ++ 46 :: (P ++ r))).extract (W.length + 1) (W.length + 1 + P.length) = bl (W ++ P) := by
  refine ⟨fun j hj => bt_left W _ hW j hj, bt_at W 46 _, fun j h1 h2 => ?_, ?_⟩
  · rw [shape]
    exact bt_mid (W ++ [46]) P r hP j (by rw [shape_len]; exact h1) (by rw [shape_len]; exact h2)
  · rw [(bl_extract W _).1]
    have := ext_mid (W ++ [46]) P r
    rw [shape_len, ← shape] at this
    rw [this, bl_app]
/-- digits ahead -/
theorem spanD (l : List UInt8) : ∃ A r, l = A ++ r ∧ Dig A ∧ (r = [] ∨ ∃ c r', r = c :: r' ∧ ¬ (48 ≤ c.toNat ∧ c.toNat ≤ 57)) := by
  induction l with
  | nil => exact ⟨[], [], rfl, (fun x hx => by cases hx), .inl rfl⟩
  | cons x l ih =>
    by_cases hx : 48 ≤ x.toNat ∧ x.toNat ≤ 57
    · obtain ⟨A, r, e, hA, hr⟩ := ih
      refine ⟨x :: A, r, by rw [e]; rfl, fun y hy => ?_, hr⟩
      rcases List.mem_cons.1 hy with rfl | hy
      · exact hx
      · exact hA y hy
    · exact ⟨[], x :: l, rfl, (fun y hy => by cases hy), .inr ⟨x, l, rfl, hx⟩⟩
theorem hd_app (A r : List UInt8) (c : UInt8) (h : ∀ x ∈ A, x ≠ c) : hdL (A ++ c :: r) c = A ∧ tlL (A ++ c :: r) c = r := by
  unfold hdL tlL
  induction A with
  | nil => simp
  | cons y A ih =>
    have hy := h y (List.mem_cons_self ..)
    obtain ⟨i1, i2⟩ := ih fun x hx => h x (List.mem_cons_of_mem _ hx)
    rw [List.cons_append, List.takeWhile_cons_of_pos (by simpa using hy), List.dropWhile_cons_of_pos (by simpa using hy), i1]
    exact ⟨rfl, i2⟩
theorem no_e (W P : List UInt8) (hW : Dig W) (hP : Dig P) : ∀ x ∈ W ++ 46 :: P, x ≠ 101 := by
  intro x hx
  rcases List.mem_append.1 hx with hx | hx
  · exact dig_not W hW 101 (.inr (by decide)) x hx
  · rcases List.mem_cons.1 hx with rfl | hx
    · decide
    · exact dig_not P hP 101 (.inr (by decide)) x hx
theorem digB_of (l : List UInt8) (h : Dig l) (hn : l ≠ []) : digB l = true := (digB_yes l).2 ⟨h, hn⟩
theorem ok_0 (W P : List UInt8) (hW : Dig W) (hW0 : W ≠ []) (hP : Dig P) (hP0 : P ≠ []) : okL (W ++ 46 :: P) = true := by
  have h1 := no_e W P hW hP
  have hn : (101 : UInt8) ∉ W ++ 46 :: P := fun h => h1 101 h rfl
  obtain ⟨e1, e2⟩ := hd_none _ _ hn
  obtain ⟨e3, e4⟩ := hd_app W P 46 (dig_not W hW 46 (.inl (by decide)))
  unfold okL WL PL
  rw [e1, e3, e4, digB_of W hW hW0, digB_of P hP hP0, decide_eq_false hn]
  simp
theorem e_parts (W P t : List UInt8) (hW : Dig W) (hP : Dig P) : hdL (W ++ 46 :: (P ++ 101 :: t)) 101 = W ++ 46 :: P ∧ tlL (W ++ 46 :: (P ++ 101 :: t)) 101 = t := by
  have e : W ++ 46 :: (P ++ 101 :: t) = (W ++ 46 :: P) ++ 101 :: t := by simp
  rw [e]
  exact hd_app _ t 101 (no_e W P hW hP)
theorem ok_e (W P t : List UInt8) (hW : Dig W) (hW0 : W ≠ []) (hP : Dig P) (hP0 : P ≠ []) (ht : Dig (offL t)) (ht0 : offL t ≠ []) : okL (W ++ 46 :: (P ++ 101 :: t)) = true := by
  obtain ⟨e1, e2⟩ := e_parts W P t hW hP
  obtain ⟨e3, e4⟩ := hd_app W P 46 (dig_not W hW 46 (.inl (by decide)))
  unfold okL WL PL XL
  rw [e1, e2, e3, e4, digB_of W hW hW0, digB_of P hP hP0, digB_of _ ht ht0]
  simp
theorem off_dig (X : List UInt8) (h : Dig X) : minL X = false ∧ offL X = X := by
  have e : minL X = false := by
    unfold minL
    cases X with
    | nil => rfl
    | cons x X =>
      have := h x (List.mem_cons_self ..)
      have hx : x ≠ 45 := fun e => by rw [e] at this; exact absurd this.1 (by decide)
      simpa using hx
  refine ⟨e, ?_⟩
  unfold offL
  rw [e]
  simp
theorem off_min (X : List UInt8) : minL (45 :: X) = true ∧ offL (45 :: X) = X := by
  have e : minL (45 :: X) = true := rfl
  refine ⟨e, ?_⟩
  unfold offL
  rw [if_pos e]
  rfl
theorem min_form (t : List UInt8) (h : minL t = true) : t = 45 :: offL t := by
  unfold offL
  rw [if_pos h]
  unfold minL at h
  cases t with
  | nil => cases h
  | cons x t =>
    have : x = 45 := by simpa using h
    rw [this]; rfl
theorem okL_form (l : List UInt8) (h : okL l = true) : Dig (WL l) ∧ WL l ≠ [] ∧ Dig (PL l) ∧ PL l ≠ [] ∧ ((101 ∉ l ∧ l = WL l ++ 46 :: PL l) ∨ (101 ∈ l ∧ Dig (XL l) ∧ XL l ≠ [] ∧ (minL (tlL l 101) = false ∧ l = WL l ++ 46 :: (PL l ++ 101 :: XL l) ∨ minL (tlL l 101) = true ∧ l = WL l ++ 46 :: (PL l ++ 101 :: 45 :: XL l)))) := by
  unfold okL at h
  simp only [Bool.and_eq_true, Bool.or_eq_true, Bool.not_eq_true', decide_eq_false_iff_not, decide_eq_true_eq] at h
  obtain ⟨⟨⟨o1, o2⟩, o3⟩, o4⟩ := h
  obtain ⟨w1, w2⟩ := (digB_yes _).1 o2
  obtain ⟨p1, p2⟩ := (digB_yes _).1 o3
  refine ⟨w1, w2, p1, p2, ?_⟩
  have e1 : hdL l 101 = WL l ++ 46 :: PL l := (hd_tl (hdL l 101) 46 o1).1
  by_cases h101 : (101 : UInt8) ∈ l
  · right
    rcases o4 with o4 | o4
    · exact absurd h101 o4
    obtain ⟨x1, x2⟩ := (digB_yes _).1 o4
    have e2 := (hd_tl l 101 h101).1
    refine ⟨h101, x1, x2, ?_⟩
    cases hm : minL (tlL l 101) with
    | false =>
      left
      have e3 : tlL l 101 = XL l := by unfold XL offL; rw [hm]; simp
      refine ⟨rfl, ?_⟩
      rw [e1, e3] at e2
      simpa using e2
    | true =>
      right
      have e3 : tlL l 101 = 45 :: XL l := min_form _ hm
      refine ⟨rfl, ?_⟩
      rw [e1, e3] at e2
      simpa using e2
  · left
    rw [(hd_none l 101 h101).1] at e1
    exact ⟨h101, e1⟩
/-- the digits of a power, no more than 2^40 -/
def satL (l : List UInt8) : Int := l.foldl (fun n c => min (10 * n + ((c.toNat : Int) - 48)) 1099511627776) 0
theorem sat_snoc (l : List UInt8) (c : UInt8) : satL (l ++ [c]) = min (10 * satL l + ((c.toNat : Int) - 48)) 1099511627776 := by
  unfold satL; rw [List.foldl_append]; rfl
theorem sat_take (l : List UInt8) (h : Dig l) : ∀ k, k ≤ l.length → satL (l.take k) = min (dvL (l.take k) : Int) 1099511627776 := by
  intro k
  induction k with
  | zero => intro _; simp [satL, dvL]; omega
  | succ k ih =>
    intro hk
    have ih := ih (by omega)
    have ht : l.take (k + 1) = l.take k ++ [l[k]'(by omega)] := List.take_succ_eq_append_getElem (by omega)
    have hd := h (l[k]'(by omega)) (List.getElem_mem _)
    rw [ht, sat_snoc, dv_snoc, ih]
    generalize l[k]'(by omega) = c at *
    generalize dvL (l.take k) = d at *
    omega
theorem sat_dv (l : List UInt8) (h : Dig l) : satL l = min (dvL l : Int) 1099511627776 := by
  have := sat_take l h l.length (Nat.le_refl _)
  rwa [List.take_length] at this
theorem sat_bound (l : List UInt8) (h : Dig l) (k : Nat) : 0 ≤ satL (l.take k) ∧ satL (l.take k) ≤ 1099511627776 := by
  rw [sat_dv _ fun x hx => h x ((List.take_sublist k l).subset hx)]
  omega
theorem sat_step (A X r : List UInt8) (k : Nat) (j : Nat) (hk : A.length = k) (h1 : k ≤ j) (h2 : j < k + X.length) : satL (X.take (j + 1 - k)) = min (10 * satL (X.take (j - k)) + (bt (bl (A ++ (X ++ r))) j - 48)) 1099511627776 := by
  subst hk
  obtain ⟨i, rfl⟩ : ∃ i, j = A.length + i := ⟨j - A.length, by omega⟩
  rw [bt_in A X r i (by omega), show A.length + i + 1 - A.length = i + 1 by omega, show A.length + i - A.length = i by omega, List.take_succ_eq_append_getElem (by omega), sat_snoc]
/-- the power that the document's parts tell -/
def eL (l : List UInt8) : Int := (if minL (tlL l 101) = true then -satL (XL l) else satL (XL l)) - ((PL l).length : Int)
end Go.Proofs.YtnljpbpphdhnpaaGreatDoor
