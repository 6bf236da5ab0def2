/- A text of a real as digits, a point, digits, an e, a minus, digits. -/
import Derived.Test.YtnljpbpphdhnpaaGreatDoorParD
import Derived.Test.YtnljpbpphdhnpaaGreatDoorBigH
import Derived.Deep.QuietTactic
import Derived.BigQuiet

namespace Go.Proofs.YtnljpbpphdhnpaaGreatDoor
open Go.RowKit Go.PlainAid

theorem bt_left (A r : List UInt8) (hA : Dig A) (j : Nat) (h : j < A.length) : 48 ≤ bt (bl (A ++ r)) j ∧ bt (bl (A ++ r)) j ≤ 57 := by
  rw [bl_bt _ j (by rw [List.length_append]; omega), List.getElem_append_left h]
  have := hA _ (List.getElem_mem h)
  omega
theorem bt_right (A r : List UInt8) (j : Nat) : bt (bl (A ++ r)) (A.length + j) = bt (bl r) j := by
  by_cases h : j < r.length
  · rw [bl_bt _ _ (by rw [List.length_append]; omega), bl_bt _ _ h, List.getElem_append_right (by omega)]
    congr 3
    omega
  · unfold bt
    rw [dif_neg (by rw [bl_size, List.length_append]; omega), dif_neg (by rw [bl_size]; omega)]
theorem bt_head (c : UInt8) (r : List UInt8) : bt (bl (c :: r)) 0 = (c.toNat : Int) := by rw [bl_bt _ 0 (by simp)]; rfl
theorem bt_at (A : List UInt8) (c : UInt8) (r : List UInt8) : bt (bl (A ++ c :: r)) A.length = (c.toNat : Int) := by
  have := bt_right A (c :: r) 0
  rw [Nat.add_zero] at this
  rw [this, bt_head]
theorem bt_mid (A P r : List UInt8) (hP : Dig P) (j : Nat) (h1 : A.length ≤ j) (h2 : j < A.length + P.length) : 48 ≤ bt (bl (A ++ (P ++ r))) j ∧ bt (bl (A ++ (P ++ r))) j ≤ 57 := by
  obtain ⟨i, rfl⟩ : ∃ i, j = A.length + i := ⟨j - A.length, by omega⟩
  rw [bt_right]
  exact bt_left P r hP i (by omega)
theorem bt_in (A P r : List UInt8) (i : Nat) (h : i < P.length) : bt (bl (A ++ (P ++ r))) (A.length + i) = ((P[i]).toNat : Int) := by
  rw [bt_right, bl_bt _ i (by rw [List.length_append]; omega), List.getElem_append_left h]
theorem ext_mid (A P r : List UInt8) : (bl (A ++ (P ++ r))).extract A.length (A.length + P.length) = bl P := by
  apply ByteArray.ext
  unfold bl
  simp
theorem shape (W P r : List UInt8) : W ++ 46 :: (P ++ r) = (W ++ [46]) ++ (P ++ r) := by simp
theorem shape_len (W : List UInt8) : (W ++ [(46 : UInt8)]).length = W.length + 1 := by simp
/-- what every text with a point has -/
theorem sh (W P r : List UInt8) (hW : Dig W) (hP : Dig P) : (∀ j, j < W.length → 48 ≤ bt (bl (W ++ 46 :: (P ++ r))) j ∧ bt (bl (W ++ 46 :: (P ++ r))) j ≤ 57) ∧ bt (bl (W ++ 46 :: (P ++ r))) W.length = 46 ∧ (∀ j, W.length + 1 ≤ j → j < W.length + 1 + P.length → 48 ≤ bt (bl (W ++ 46 :: (P ++ r))) j ∧ bt (bl (W ++ 46 :: (P ++ r))) j ≤ 57) ∧ (bl (W ++ 46 :: (P ++ r))).extract 0 W.length ++ (bl (W ++ 46 :: (P ++ r))).extract (W.length + 1) (W.length + 1 + P.length) = bl (W ++ P) := by
  refine ⟨fun j hj => bt_left W _ hW j hj, bt_at W 46 _, fun j h1 h2 => ?_, ?_⟩
  · rw [shape]
    exact bt_mid (W ++ [46]) P r hP j (by rw [shape_len]; exact h1) (by rw [shape_len]; exact h2)
  · rw [(bl_extract W _).1]
    have := ext_mid (W ++ [46]) P r
    rw [shape_len, ← shape] at this
    rw [this, bl_app]
/-- digits ahead -/
theorem spanD (l : List UInt8) : ∃ A r, l = A ++ r ∧ Dig A ∧ (r = [] ∨ ∃ c r', r = c :: r' ∧ ¬ (48 ≤ c.toNat ∧ c.toNat ≤ 57)) := by
  induction l with
  | nil => exact ⟨[], [], rfl, (fun x hx => by cases hx), .inl rfl⟩
  | cons x l ih =>
    by_cases hx : 48 ≤ x.toNat ∧ x.toNat ≤ 57
    · obtain ⟨A, r, e, hA, hr⟩ := ih
      refine ⟨x :: A, r, by rw [e]; rfl, fun y hy => ?_, hr⟩
      rcases List.mem_cons.1 hy with rfl | hy
      · exact hx
      · exact hA y hy
    · exact ⟨[], x :: l, rfl, (fun y hy => by cases hy), .inr ⟨x, l, rfl, hx⟩⟩
theorem hd_app (A r : List UInt8) (c : UInt8) (h : ∀ x ∈ A, x ≠ c) : hdL (A ++ c :: r) c = A ∧ tlL (A ++ c :: r) c = r := by
  unfold hdL tlL
  induction A with
  | nil => simp
  | cons y A ih =>
    have hy := h y (List.mem_cons_self ..)
    obtain ⟨i1, i2⟩ := ih fun x hx => h x (List.mem_cons_of_mem _ hx)
    rw [List.cons_append, List.takeWhile_cons_of_pos (by simpa using hy), List.dropWhile_cons_of_pos (by simpa using hy), i1]
    exact ⟨rfl, i2⟩
theorem no_e (W P : List UInt8) (hW : Dig W) (hP : Dig P) : ∀ x ∈ W ++ 46 :: P, x ≠ 101 := by
  intro x hx
  rcases List.mem_append.1 hx with hx | hx
  · exact dig_not W hW 101 (.inr (by decide)) x hx
  · rcases List.mem_cons.1 hx with rfl | hx
    · decide
    · exact dig_not P hP 101 (.inr (by decide)) x hx
theorem digB_of (l : List UInt8) (h : Dig l) (hn : l ≠ []) : digB l = true := (digB_yes l).2 ⟨h, hn⟩
theorem ok_0 (W P : List UInt8) (hW : Dig W) (hW0 : W ≠ []) (hP : Dig P) (hP0 : P ≠ []) : okL (W ++ 46 :: P) = true := by
  have h1 := no_e W P hW hP
  have hn : (101 : UInt8) ∉ W ++ 46 :: P := fun h => h1 101 h rfl
  obtain ⟨e1, e2⟩ := hd_none _ _ hn
  obtain ⟨e3, e4⟩ := hd_app W P 46 (dig_not W hW 46 (.inl (by decide)))
  unfold okL WL PL
  rw [e1, e3, e4, digB_of W hW hW0, digB_of P hP hP0, decide_eq_false hn]
  simp
theorem e_parts (W P t : List UInt8) (hW : Dig W) (hP : Dig P) : hdL (W ++ 46 :: (P ++ 101 :: t)) 101 = W ++ 46 :: P ∧ tlL (W ++ 46 :: (P ++ 101 :: t)) 101 = t := by
  have e : W ++ 46 :: (P ++ 101 :: t) = (W ++ 46 :: P) ++ 101 :: t := by simp
  rw [e]
  exact hd_app _ t 101 (no_e W P hW hP)
theorem ok_e (W P t : List UInt8) (hW : Dig W) (hW0 : W ≠ []) (hP : Dig P) (hP0 : P ≠ []) (ht : Dig (offL t)) (ht0 : offL t ≠ []) : okL (W ++ 46 :: (P ++ 101 :: t)) = true := by
  obtain ⟨e1, e2⟩ := e_parts W P t hW hP
  obtain ⟨e3, e4⟩ := hd_app W P 46 (dig_not W hW 46 (.inl (by decide)))
  unfold okL WL PL XL
  rw [e1, e2, e3, e4, digB_of W hW hW0, digB_of P hP hP0, digB_of _ ht ht0]
  simp
theorem off_dig (X : List UInt8) (h : Dig X) : minL X = false ∧ offL X = X := by
  have e : minL X = false := by
    unfold minL
    cases X with
    | nil => rfl
    | cons x X =>
      have := h x (List.mem_cons_self ..)
      have hx : x ≠ 45 := fun e => by rw [e] at this; exact absurd this.1 (by decide)
      simpa using hx
  refine ⟨e, ?_⟩
  unfold offL
  rw [e]
  simp
theorem off_min (X : List UInt8) : minL (45 :: X) = true ∧ offL (45 :: X) = X := by
  have e : minL (45 :: X) = true := rfl
  refine ⟨e, ?_⟩
  unfold offL
  rw [if_pos e]
  rfl
theorem min_form (t : List UInt8) (h : minL t = true) : t = 45 :: offL t := by
  unfold offL
  rw [if_pos h]
  unfold minL at h
  cases t with
  | nil => cases h
  | cons x t =>
    have : x = 45 := by simpa using h
    rw [this]; rfl
theorem okL_form (l : List UInt8) (h : okL l = true) : Dig (WL l) ∧ WL l ≠ [] ∧ Dig (PL l) ∧ PL l ≠ [] ∧ ((101 ∉ l ∧ l = WL l ++ 46 :: PL l) ∨ (101 ∈ l ∧ Dig (XL l) ∧ XL l ≠ [] ∧ (minL (tlL l 101) = false ∧ l = WL l ++ 46 :: (PL l ++ 101 :: XL l) ∨ minL (tlL l 101) = true ∧ l = WL l ++ 46 :: (PL l ++ 101 :: 45 :: XL l)))) := by
  unfold okL at h
  simp only [Bool.and_eq_true, Bool.or_eq_true, Bool.not_eq_true', decide_eq_false_iff_not, decide_eq_true_eq] at h
  obtain ⟨⟨⟨o1, o2⟩, o3⟩, o4⟩ := h
  obtain ⟨w1, w2⟩ := (digB_yes _).1 o2
  obtain ⟨p1, p2⟩ := (digB_yes _).1 o3
  refine ⟨w1, w2, p1, p2, ?_⟩
  have e1 : hdL l 101 = WL l ++ 46 :: PL l := (hd_tl (hdL l 101) 46 o1).1
  by_cases h101 : (101 : UInt8) ∈ l
  · right
    rcases o4 with o4 | o4
    · exact absurd h101 o4
    obtain ⟨x1, x2⟩ := (digB_yes _).1 o4
    have e2 := (hd_tl l 101 h101).1
    refine ⟨h101, x1, x2, ?_⟩
    cases hm : minL (tlL l 101) with
    | false =>
      left
      have e3 : tlL l 101 = XL l := by unfold XL offL; rw [hm]; simp
      refine ⟨rfl, ?_⟩
      rw [e1, e3] at e2
      simpa using e2
    | true =>
      right
      have e3 : tlL l 101 = 45 :: XL l := min_form _ hm
      refine ⟨rfl, ?_⟩
      rw [e1, e3] at e2
      simpa using e2
  · left
    rw [(hd_none l 101 h101).1] at e1
    exact ⟨h101, e1⟩
/-- the digits of a power, no more than 2^40 -/
def satL (l : List UInt8) : Int := l.foldl (fun n c => min (10 * n + ((c.toNat : Int) - 48)) 1099511627776) 0
theorem sat_snoc (l : List UInt8) (c : UInt8) : satL (l ++ [c]) = min (10 * satL l + ((c.toNat : Int) - 48)) 1099511627776 := by
  unfold satL; rw [List.foldl_append]; rfl
theorem sat_take (l : List UInt8) (h : Dig l) : ∀ k, k ≤ l.length → satL (l.take k) = min (dvL (l.take k) : Int) 1099511627776 := by
  intro k
  induction k with
  | zero => intro _; simp [satL, dvL]; omega
  | succ k ih =>
    intro hk
    have ih := ih (by omega)
    have ht : l.take (k + 1) = l.take k ++ [l[k]'(by omega)] := List.take_succ_eq_append_getElem (by omega)
    have hd := h (l[k]'(by omega)) (List.getElem_mem _)
    rw [ht, sat_snoc, dv_snoc, ih]
    generalize l[k]'(by omega) = c at *
    generalize dvL (l.take k) = d at *
    omega
theorem sat_dv (l : List UInt8) (h : Dig l) : satL l = min (dvL l : Int) 1099511627776 := by
  have := sat_take l h l.length (Nat.le_refl _)
  rwa [List.take_length] at this
theorem sat_bound (l : List UInt8) (h : Dig l) (k : Nat) : 0 ≤ satL (l.take k) ∧ satL (l.take k) ≤ 1099511627776 := by
  rw [sat_dv _ fun x hx => h x ((List.take_sublist k l).subset hx)]
  omega
theorem sat_step (A X r : List UInt8) (k : Nat) (j : Nat) (hk : A.length = k) (h1 : k ≤ j) (h2 : j < k + X.length) : satL (X.take (j + 1 - k)) = min (10 * satL (X.take (j - k)) + (bt (bl (A ++ (X ++ r))) j - 48)) 1099511627776 := by
  subst hk
  obtain ⟨i, rfl⟩ : ∃ i, j = A.length + i := ⟨j - A.length, by omega⟩
  rw [bt_in A X r i (by omega), show A.length + i + 1 - A.length = i + 1 by omega, show A.length + i - A.length = i by omega, List.take_succ_eq_append_getElem (by omega), sat_snoc]
/-- the power that the document's parts tell -/
def eL (l : List UInt8) : Int := (if minL (tlL l 101) = true then -satL (XL l) else satL (XL l)) - ((PL l).length : Int)
end Go.Proofs.YtnljpbpphdhnpaaGreatDoor

/- The document's digits: a text of digits as a whole number. -/
namespace Go.Proofs.YtnljpbpphdhnpaaGreatDoor
open Go.RowKit Go.PlainAid

theorem dv_from (b : List UInt8) : ∀ a, b.foldl (fun a c => a * 10 + (c.toNat - 48)) a = a * 10 ^ b.length + dvL b := by
  unfold dvL
  induction b with
  | nil => intro a; simp
  | cons x b ih =>
    intro a
    rw [List.foldl_cons, List.foldl_cons, ih, ih (0 * 10 + (x.toNat - 48)), List.length_cons, Nat.pow_succ, Nat.add_mul, Nat.zero_mul, Nat.zero_add, Nat.mul_assoc, Nat.mul_comm 10]
    omega
theorem dv_app (a b : List UInt8) : dvL (a ++ b) = dvL a * 10 ^ b.length + dvL b := by
  have := dv_from b (dvL a)
  rw [← this]
  unfold dvL
  rw [List.foldl_append]
/-- the digits from m on, up to j -/
def dvM (T : List UInt8) (m j : Nat) : Nat := dvL ((T.take j).drop m)
theorem dvM_self (T : List UInt8) (m : Nat) : dvM T m m = 0 := by
  unfold dvM
  rw [List.drop_eq_nil_of_le (by rw [List.length_take]; omega)]
  rfl
theorem dvM_next (T : List UInt8) (m j : Nat) (h1 : m ≤ j) (h2 : j < T.length) : dvM T m (j + 1) = dvM T m j * 10 + ((T[j]).toNat - 48) := by
  unfold dvM
  rw [List.take_succ_eq_append_getElem h2, List.drop_append_of_le_length (by rw [List.length_take]; omega), dv_snoc]
theorem dvM_lt (T : List UInt8) (hT : Dig T) (m j n : Nat) (h : j ≤ m + n) : dvM T m j < 10 ^ n := by
  unfold dvM
  refine Nat.lt_of_lt_of_le (dv_lt _ fun c hc => hT c (List.mem_of_mem_take (List.mem_of_mem_drop hc))) (Nat.pow_le_pow_right (by decide) ?_)
  rw [List.length_drop, List.length_take]
  omega
theorem dv_split (T : List UInt8) (m n : Nat) (h : m ≤ n) (hn : n ≤ T.length) : dvL (T.take n) = dvL (T.take m) * 10 ^ (n - m) + dvM T m n := by
  have e : T.take n = T.take m ++ (T.take n).drop m := by
    have := List.take_append_drop m (T.take n)
    rw [List.take_take, Nat.min_eq_left h] at this
    exact this.symm
  unfold dvM
  conv => lhs; rw [e]
  rw [dv_app, List.length_drop, List.length_take, Nat.min_eq_left hn]
structure DigI (w wr : World) (ov : Value) (T : List UInt8) (l : List Nat) (n : Int) : Prop where
  row : Rw wr ov l
  fresh : Fresh w wr ov
  keep : Keep [] w wr
  lim : Lim l
  val : dvL T = bigV l + 1000000000 ^ l.length * dvL (T.take n.toNat)
  len : n = (T.length : Int) - 9 * (l.length : Int)
  low : -9 < n
theorem DigI.next {w wr w1 : World} {ov v' : Value} {T : List UInt8} {l : List Nat} {n : Int} {m k : Nat} (h : DigI w wr ov T l n) (hT : Dig T) (hn : 0 < n) (hk : (k : Int) = n) (hm : (m : Int) = max (n - 9) 0) (g1 : Rw w1 v' (l ++ [dvM T m k])) (hk2 : Keep [] w w1) (hf : Fresh w w1 v') : DigI w w1 v' T (l ++ [dvM T m k]) (n - 9) := by
  have hlen := h.len
  have hx : dvM T m k < 1000000000 := dvM_lt T hT m k 9 (by omega)
  refine ⟨g1, hf, hk2, h.lim.snoc hx, ?_, by simp; omega, by omega⟩
  rw [h.val, bigV_snoc, List.length_append, List.length_singleton, Nat.pow_succ, show n.toNat = k by omega, show (n - 9).toNat = m by omega, dv_split T m k (by omega) (by omega), Nat.mul_add]
  have h3 : 1000000000 ^ l.length * (dvL (T.take m) * 10 ^ (k - m)) = 1000000000 ^ l.length * 1000000000 * dvL (T.take m) := by
    by_cases h9 : 9 ≤ n
    · rw [show k - m = 9 by omega, show (10 : Nat) ^ 9 = 1000000000 from rfl, Nat.mul_comm (dvL _), Nat.mul_assoc]
    · rw [show m = 0 by omega, List.take_zero, show dvL [] = 0 from rfl]
      simp
  rw [h3]
  omega
set_option maxRecDepth 1000000 in
set_option maxHeartbeats 3200000 in
theorem digits_any (T : List UInt8) (hT : Dig T) (hl : T.length ≤ 1000) (w : World) : Calls Tryz.prog 58 #[.string (bl T)] w fun e w' => ∃ v, e = .returned v ∧ (Big w' v (dvL T) T.length ∧ Fresh w w' v) ∧ Keep [] w w' := by
  obtain ⟨s, hs⟩ : ∃ s, s = bl T := ⟨_, rfl⟩
  rw [← hs]
  have hsz : s.size = T.length := by rw [hs, bl_size]
  have HG : Hid (∀ i (h : i < s.size), ((s[i]'h).toNat : Int) = bt s i) := get_bt s
  have HT : Hid (∀ j (h : j < T.length), bt s j = ((T[j]).toNat : Int)) := fun j h => by rw [hs, bl_bt T j h]
  have HD : Hid (Dig T) := hT
  have HS : Hid (s.size = T.length) := hsz
  have hsl : (s.size : Int) ≤ 1000 := by omega
  have HI0 : Hid (DigI w w (.slice none 0 0) T [] (s.size : Int)) := show DigI _ _ _ _ _ _ from
    ⟨Rw.nil w, Fresh.nil w w, Keep.refl _ w, Lim.nil, by rw [hsz]; simp [bigV], by rw [hsz]; simp, by omega⟩
  clear hs hsz hT hl
  go_enter Tryz.func58, Tryz.ntmps58
  go_wp2
  go_loopw [3, 4] (fun ov nv wr => ∃ (n : Int) (l : List Nat), nv = .int .i64 n ∧ n ≤ (s.size : Int) ∧ Hid (DigI w wr ov T l n)) (fun _ nv _ => (intOf nv).toNat)
  case atStart => exact ⟨(s.size : Int), [], rfl, Int.le_refl _, HI0⟩
  case round =>
    clear HI0
    obtain ⟨n, l, rfl, hns, HI⟩ := hrel
    have hlow : -9 < n := HI.out.low
    by_cases h0 : 0 < n
    · obtain ⟨k, hk⟩ : ∃ k : Nat, (k : Int) = n := ⟨n.toNat, by omega⟩
      obtain ⟨m, hm⟩ : ∃ m : Nat, (m : Int) = max (n - 9) 0 := ⟨(max (n - 9) 0).toNat, by omega⟩
      have HN : Hid (∀ {w1 v'}, Rw w1 v' (l ++ [dvM T m k]) → Keep [] w w1 → Fresh w w1 v' → DigI w w1 v' T (l ++ [dvM T m k]) (n - 9)) := fun a b c => HI.out.next HD.out h0 hk hm a b c
      have HX : Hid (∀ j, m ≤ j → j < k → dvM T m (j + 1) = dvM T m j * 10 + (bt s j - 48).toNat ∧ dvM T m j < 1000000000 ∧ (48 ≤ bt s j ∧ bt s j ≤ 57)) := show ∀ j, _ from fun j h1 h2 => by
        have hS := HS.out
        have hj : j < T.length := by omega
        have e := HT.out j hj
        refine ⟨?_, dvM_lt T HD.out m j 9 (by omega), ?_⟩
        · rw [dvM_next T m j h1 hj, e]
          omega
        · rw [e]
          have := HD.out _ (List.getElem_mem hj)
          omega
      have HX0 : Hid (dvM T m m = 0) := dvM_self T m
      have HXk : Hid (dvM T m k < 1000000000) := dvM_lt T HD.out m k 9 (by omega)
      have HLn : Hid (l.length ≤ 1000) := show l.length ≤ 1000 by have := HI.out.len; have := HS.out; omega
      generalize dvM T m = G at *
      go_wp2
      go_loop [5, 6] (fun xv iv => ∃ j : Nat, m ≤ j ∧ j ≤ k ∧ xv = .int .i64 (G j : Nat) ∧ iv = .int .i64 (j : Int)) (fun _ iv => k - (intOf iv).toNat)
      case atStart => exact ⟨m, Nat.le_refl _, by omega, by rw [HX0.out]; rfl, by go_num⟩
      case round =>
        obtain ⟨j, hj1, hj2, rfl, rfl⟩ := hrel
        by_cases hjk : j < k
        · have hjn : (j : Int) < n := by omega
          have hjs : j < s.size := by omega
          have hji : (j : Int) < (s.size : Int) := by omega
          have gj : ((s[j]'hjs).toNat : Int) = bt s j := HG.out j hjs
          obtain ⟨x1, x2, x3, x4⟩ := HX.out j hj1 hjk
          have H1 : Hid (G (j + 1) = G j * 10 + (bt s j - 48).toNat) := x1
          clear x1
          generalize bt s j = c at *
          generalize G j = x at *
          go_wp2
          go_round
          case rel => exact ⟨j + 1, by omega, by omega, by rw [H1.out]; go_num, by go_num⟩
          case measure => simp [intOf]; omega
        · obtain rfl : k = j := by omega
          have hjn : ¬ (k : Int) < n := by omega
          have hxk := HXk.out
          have hr := HI.out.row.keep (Keep.alloc1 wr (.cells #[.int .i64 ((G k : Nat) : Int)] TI)) (Off.nil _)
          have hs2 := (Is.one wr (G k)).src
          have HB : Hid (l.length + [G k].length ≤ 1000000000) := show l.length + [G k].length ≤ 1000000000 by have := HLn.out; simp; omega
          go_wp2_with (at_builtin; refine wp_appI rfl (.tmp 29) (.tmp 31) 55 55 rfl underN _ l rfl hr _ [G k] rfl hs2 HB.out ?_)
          intro v' w1 g1 g2 g3 g4
          have HA := app_fresh HI.out.keep HI.out.fresh g2 g3
          have HJ : Hid (DigI w w1 v' T (l ++ [G k]) (n - 9)) := HN.out g1 HA.1 HA.2
          clear g1 g2 g3 g4 HA hr hs2
          go_wp2
          go_roundw
          case rel => exact ⟨n - 9, _, by go_num, by omega, HJ⟩
          case measure => (simp [intOf]; try omega)
    · have hP := plain_any u3 l wr HI.out.row.bs
      have hT0 : Hid (bigV l = dvL T ∧ l.length ≤ T.length) := show bigV l = dvL T ∧ l.length ≤ T.length by
        have h1 := HI.out.val
        rw [show n.toNat = 0 by omega, List.take_zero, show dvL [] = 0 from rfl] at h1
        have h2 := HI.out.len
        exact ⟨by omega, by omega⟩
      go_wp2_with (go_at_call 83; refine hP.mono ?_; rintro e9 w9 ⟨v9, rfl, hc9, hw9⟩; obtain rfl := hw9.symm)
      go_ret
      exact ⟨_, rfl, cut_big hc9 HI.out.lim hT0.out.1 hT0.out.2 HI.out.fresh, HI.out.keep⟩
end Go.Proofs.YtnljpbpphdhnpaaGreatDoor

/- The document's said: the number that digits and a power of ten say (ParN). -/
namespace Go.Proofs.YtnljpbpphdhnpaaGreatDoor
open Go.RowKit Go.PlainAid

set_option maxRecDepth 1000000 in
set_option maxHeartbeats 3200000 in
theorem said_short (s f : ByteArray) (z : Nat) (e : Int) (w : World) (hs : s.size ≤ 2000000000) (he : -2000000000000 ≤ e ∧ e ≤ 2000000000000) (hze : z < s.size) (hA : ∀ j, j < z → bt s j = 48) (hzn : Hid (bt s z ≠ 48)) (hf : s.extract z s.size = f) (hfs : f.size = s.size - z) (D : Nat) (h58 : ∀ w, Calls Tryz.prog 58 #[.string f] w fun r w' => ∃ v, r = .returned v ∧ (Big w' v D 300 ∧ Fresh w w' v) ∧ Keep [] w w') (hn : f.toList.isEmpty = false) (hl : -100 ≤ (f.size : Int) + e) (hh : (f.size : Int) + e ≤ 100) (hk : (f.size : Int) ≤ 200) :
    Calls Tryz.prog 34 #[.string s, .int .i64 e] w fun r w' => ∃ va vb, r = .returned (.tuple #[.agg #[va, vb], .bool true]) ∧ (Big w' va (D * 10 ^ (e).toNat) 1000 ∧ Big w' vb (10 ^ (-e).toNat) 1000) ∧ Keep [] w w' := by
  have HG : Hid (∀ i (h : i < s.size), ((s[i]'h).toNat : Int) = bt s i) := get_bt s
  have HA : Hid (∀ j, j < z → bt s j = 48) := hA
  have HF : Hid (f.size = s.size - z) := hfs
  clear hA
  obtain ⟨e1, e2⟩ := he
  have hfl : (f.size : Int) ≤ 2000000000 := by omega
  clear hfs
  go_enter Tryz.func34, Tryz.ntmps34
  go_wp2
  go_loop [6] (fun i => ∃ j : Nat, j ≤ z ∧ i = .int .i64 j) (fun i => z - (intOf i).toNat)
  case atStart => exact ⟨0, Nat.zero_le _, rfl⟩
  case round =>
    obtain ⟨j, hj, rfl⟩ := hrel
    by_cases hja : j < z
    · have hjs : j < s.size := by omega
      have hji : (j : Int) < (s.size : Int) := by omega
      have gj : ((s[j]'hjs).toNat : Int) = 48 := (HG.out j hjs).trans (HA.out j hja)
      go_wp2
      go_round
      case rel => exact ⟨j + 1, by omega, by go_num⟩
      case measure => simp [intOf]; omega
    · obtain rfl : z = j := by omega
      clear hj hja
      have hz2 : (z : Int) ≤ (s.size : Int) := by omega
      have hzi : (z : Int) < (s.size : Int) := by omega
      have gz : ((s[z]'hze).toNat : Int) = bt s z := HG.out z hze
      have hzb : (bt s z == 48) = false := by rw [beq_eq_false_iff_ne]; exact hzn.out
      clear hzn
      generalize bt s z = cz at *
      go_wp2_with fail
      refine (h58 _).mono ?_
      rintro e9 w1 ⟨v1, rfl, ⟨hb1, hf1⟩, hk1⟩
      go_wp2_with fail
      refine (powers_int10 v1 D 300 e _ hb1 (by omega) (by omega)).mono ?_
      rintro e9 w2 ⟨va, rfl, ⟨hba, hoa⟩, hka⟩
      go_wp2_with fail
      refine (powers_int10 _ 1 1 (-e) _ (Big.one w2) (by omega) (by omega)).mono ?_
      rintro e9 w3 ⟨vb, rfl, ⟨hbb, hob⟩, hkb⟩
      have K1 : Keep [] (w.alloc (Obj.cells #[Value.slice none 0 0, Value.slice none 0 0] 57)) w2 := hk1.trans' hka
      have K2 : Keep [] (w.alloc (Obj.cells #[Value.slice none 0 0, Value.slice none 0 0] 57)) w3 := (K1.alloc _).trans' hkb
      have K3 : Keep [] w2 w3 := (Keep.alloc1 w2 _).trans' hkb
      have s1 := hk1.size
      have s2 := hka.size
      simp at s1
      have HA : Hid (Big w3 va (D * 10 ^ (e).toNat) 1000 ∧ Off va [w.heap.size]) := ⟨(hba.keep K3 (Off.nil _)).mono (by omega), by
        rcases hoa with rfl | h
        · exact hf1.off1
        · exact (h.earlier (w0 := w.alloc (Obj.cells #[Value.slice none 0 0, Value.slice none 0 0] 57)) (by simpa using s1)).off1⟩
      have HBb : Hid (Big w3 vb (10 ^ (-e).toNat) 1000 ∧ Off vb [w.heap.size]) := ⟨by rw [Nat.one_mul] at hbb; exact hbb.mono (by omega), by
        rcases hob with rfl | h
        · intro k hk hn
          simp [Value.ownBlock] at hk hn
          omega
        · intro k hk hn
          have := (h k hk).1
          simp at this hn
          omega⟩
      have HK : Hid (Keep [] w w3) := (show Keep [] w w3 from ((Keep.alloc1 w _).trans' K2))
      have hc0 : w3.cell? ⟨w.heap.size, 0, none⟩ = some (.slice none 0 0) := K2.cell' (by simp) (by simp)
      have hc1 : w3.cell? ⟨w.heap.size, 1, none⟩ = some (.slice none 0 0) := K2.cell' (by simp) (by simp)
      have hf0 : w3.frozen? ⟨w.heap.size, 0, none⟩ = false := (K2.frozen (by simp) (by simp)).trans (by simp)
      have hf9 : w3.frozen? ⟨w.heap.size, 1, none⟩ = false := (K2.frozen (by simp) (by simp)).trans (by simp)
      obtain ⟨ao, na, ca, rfl⟩ := hba.sl
      obtain ⟨bo, nb, cb, rfl⟩ := hbb.sl
      clear hb1 hf1 hk1 hba hoa hka hbb hob hkb K1 K2 K3 s1 s2
      have HGg : Hid (w.heap.size ≤ w.heap.size) := Nat.le_refl _
      generalize hgg : w.heap.size = g at *
      have HGg : Hid (w.heap.size ≤ g) := show w.heap.size ≤ g by omega
      clear hgg
      have hd1 : (w3.setCell ⟨g, 0, none⟩ (.slice ao na ca)).cell? ⟨g, 1, none⟩ = some (.slice none 0 0) := by rw [World.cell?_setCell_other _ _ _ _ (by simp)]; exact hc1
      have d1 : ((w3.setCell ⟨g, 0, none⟩ (.slice ao na ca)).setCell ⟨g, 1, none⟩ (.slice bo nb cb)).cell? ⟨g, 1, none⟩ = some (.slice bo nb cb) := World.cell?_setCell_same _ _ _ hd1
      have d0 : ((w3.setCell ⟨g, 0, none⟩ (.slice ao na ca)).setCell ⟨g, 1, none⟩ (.slice bo nb cb)).cell? ⟨g, 0, none⟩ = some (.slice ao na ca) := by
        rw [World.cell?_setCell_other _ _ _ _ (by simp)]; exact World.cell?_setCell_same _ _ _ hc0
      have KS : Keep [g] w3 ((w3.setCell ⟨g, 0, none⟩ (.slice ao na ca)).setCell ⟨g, 1, none⟩ (.slice bo nb cb)) := ((Keep.refl [g] w3).setCell (p := ⟨g, 0, none⟩) (.inl (by simp)) _).setCell (p := ⟨g, 1, none⟩) (.inl (by simp)) _
      have HR : Hid ((Big ((w3.setCell ⟨g, 0, none⟩ (.slice ao na ca)).setCell ⟨g, 1, none⟩ (.slice bo nb cb)) (.slice ao na ca) (D * 10 ^ (e).toNat) 1000 ∧ Big ((w3.setCell ⟨g, 0, none⟩ (.slice ao na ca)).setCell ⟨g, 1, none⟩ (.slice bo nb cb)) (.slice bo nb cb) (10 ^ (-e).toNat) 1000) ∧ Keep [] w ((w3.setCell ⟨g, 0, none⟩ (.slice ao na ca)).setCell ⟨g, 1, none⟩ (.slice bo nb cb))) :=
        ⟨⟨HA.out.1.keep KS HA.out.2, HBb.out.1.keep KS HBb.out.2⟩, HK.out.more KS (by intro x hx; simp at hx; subst hx; exact .inr HGg.out)⟩
      clear KS HA HBb HK hd1
      go_wp2
      generalize ((w3.setCell ⟨g, 0, none⟩ (.slice ao na ca)).setCell ⟨g, 1, none⟩ (.slice bo nb cb)) = W at d0 d1 HR ⊢
      refine bodyPost_ret (v := .tuple #[.agg #[.slice ao na ca, .slice bo nb cb], .bool true]) (by simp [results, Tryz.results34, go_sem, d0, d1]) rfl ?_
      exact ⟨_, _, rfl, HR.out⟩
end Go.Proofs.YtnljpbpphdhnpaaGreatDoor

/- The document's said: the number that digits and a power of ten say (ParM). -/
namespace Go.Proofs.YtnljpbpphdhnpaaGreatDoor
open Go.RowKit Go.PlainAid

theorem big_one2 (w : World) (o : Obj) : Big ((w.alloc o).alloc (.cells #[.int .i64 1] TI)) (.slice (some ⟨w.heap.size + 1, 0, none⟩) 1 1) 1 1000 := by
  have := (Big.one (w.alloc o)).mono (show 1 ≤ 1000 by decide)
  simpa using this
set_option maxRecDepth 1000000 in
set_option maxHeartbeats 3200000 in
theorem said_empty (s : ByteArray) (e : Int) (w : World) (hs : s.size ≤ 2000000000) (hA : ∀ j, j < s.size → bt s j = 48) :
    Calls Tryz.prog 34 #[.string s, .int .i64 e] w fun r w' => ∃ va vb, r = .returned (.tuple #[.agg #[va, vb], .bool true]) ∧ (Big w' va 0 1000 ∧ Big w' vb 1 1000) ∧ Keep [] w w' := by
  have HG : Hid (∀ i (h : i < s.size), ((s[i]'h).toNat : Int) = bt s i) := get_bt s
  have HA : Hid (∀ j, j < s.size → bt s j = 48) := hA
  clear hA
  go_enter Tryz.func34, Tryz.ntmps34
  go_wp2
  go_loop [6] (fun i => ∃ j : Nat, j ≤ s.size ∧ i = .int .i64 j) (fun i => s.size - (intOf i).toNat)
  case atStart => exact ⟨0, Nat.zero_le _, rfl⟩
  case round =>
    obtain ⟨j, hj, rfl⟩ := hrel
    by_cases hja : j < s.size
    · have hji : (j : Int) < (s.size : Int) := by omega
      have gj : ((s[j]'hja).toNat : Int) = 48 := (HG.out j hja).trans (HA.out j hja)
      go_wp2
      go_round
      case rel => exact ⟨j + 1, by omega, by go_num⟩
      case measure => simp [intOf]; omega
    · obtain rfl : j = s.size := by omega
      clear hj hja
      go_wp2
      refine bodyPost_ret (v := .tuple #[.agg #[.slice none 0 0, .slice (some ⟨w.heap.size + 1, 0, none⟩) 1 1], .bool true]) (by simp [results, Tryz.results34, go_sem]) rfl ⟨_, _, rfl, ⟨⟨[], (Rw.nil _).bs, Lim.nil, Nrm.nil, rfl, by simp⟩, big_one2 w _⟩, (Keep.alloc1 w _).alloc _⟩
set_option maxRecDepth 1000000 in
set_option maxHeartbeats 3200000 in
theorem said_low (s f : ByteArray) (z : Nat) (e : Int) (w : World) (hs : s.size ≤ 2000000000) (he : -2000000000000 ≤ e ∧ e ≤ 2000000000000) (hze : z < s.size) (hA : ∀ j, j < z → bt s j = 48) (hzn : Hid (bt s z ≠ 48)) (hf : s.extract z s.size = f) (hfs : f.size = s.size - z) (hn : f.toList.isEmpty = false) (ho : (f.size : Int) + e < -100) :
    Calls Tryz.prog 34 #[.string s, .int .i64 e] w fun r w' => ∃ va vb, r = .returned (.tuple #[.agg #[va, vb], .bool true]) ∧ (Big w' va 0 1000 ∧ Big w' vb 1 1000) ∧ Keep [] w w' := by
  have HG : Hid (∀ i (h : i < s.size), ((s[i]'h).toNat : Int) = bt s i) := get_bt s
  have HA : Hid (∀ j, j < z → bt s j = 48) := hA
  have HF : Hid (f.size = s.size - z) := hfs
  clear hA
  obtain ⟨e1, e2⟩ := he
  have hfl : (f.size : Int) ≤ 2000000000 := by omega
  clear hfs
  go_enter Tryz.func34, Tryz.ntmps34
  go_wp2
  go_loop [6] (fun i => ∃ j : Nat, j ≤ z ∧ i = .int .i64 j) (fun i => z - (intOf i).toNat)
  case atStart => exact ⟨0, Nat.zero_le _, rfl⟩
  case round =>
    obtain ⟨j, hj, rfl⟩ := hrel
    by_cases hja : j < z
    · have hjs : j < s.size := by omega
      have hji : (j : Int) < (s.size : Int) := by omega
      have gj : ((s[j]'hjs).toNat : Int) = 48 := (HG.out j hjs).trans (HA.out j hja)
      go_wp2
      go_round
      case rel => exact ⟨j + 1, by omega, by go_num⟩
      case measure => simp [intOf]; omega
    · obtain rfl : z = j := by omega
      clear hj hja
      have hz2 : (z : Int) ≤ (s.size : Int) := by omega
      have hzi : (z : Int) < (s.size : Int) := by omega
      have gz : ((s[z]'hze).toNat : Int) = bt s z := HG.out z hze
      have hzb : (bt s z == 48) = false := by rw [beq_eq_false_iff_ne]; exact hzn.out
      clear hzn
      generalize bt s z = cz at *
      go_wp2
      refine bodyPost_ret (v := .tuple #[.agg #[.slice none 0 0, .slice (some ⟨w.heap.size + 1, 0, none⟩) 1 1], .bool true]) (by simp [results, Tryz.results34, go_sem]) rfl ⟨_, _, rfl, ⟨⟨[], (Rw.nil _).bs, Lim.nil, Nrm.nil, rfl, by simp⟩, big_one2 w _⟩, (Keep.alloc1 w _).alloc _⟩
set_option maxRecDepth 1000000 in
set_option maxHeartbeats 3200000 in
theorem said_over (s f : ByteArray) (z : Nat) (e : Int) (w : World) (hs : s.size ≤ 2000000000) (he : -2000000000000 ≤ e ∧ e ≤ 2000000000000) (hze : z < s.size) (hA : ∀ j, j < z → bt s j = 48) (hzn : Hid (bt s z ≠ 48)) (hf : s.extract z s.size = f) (hfs : f.size = s.size - z) (hn : f.toList.isEmpty = false) (ho : 100 < (f.size : Int) + e) :
    Calls Tryz.prog 34 #[.string s, .int .i64 e] w fun r w' => r = .returned (.tuple #[.agg #[.slice none 0 0, .slice none 0 0], .bool false]) ∧ Keep [] w w' := by
  have HG : Hid (∀ i (h : i < s.size), ((s[i]'h).toNat : Int) = bt s i) := get_bt s
  have HA : Hid (∀ j, j < z → bt s j = 48) := hA
  have HF : Hid (f.size = s.size - z) := hfs
  clear hA
  obtain ⟨e1, e2⟩ := he
  have hfl : (f.size : Int) ≤ 2000000000 := by omega
  clear hfs
  go_enter Tryz.func34, Tryz.ntmps34
  go_wp2
  go_loop [6] (fun i => ∃ j : Nat, j ≤ z ∧ i = .int .i64 j) (fun i => z - (intOf i).toNat)
  case atStart => exact ⟨0, Nat.zero_le _, rfl⟩
  case round =>
    obtain ⟨j, hj, rfl⟩ := hrel
    by_cases hja : j < z
    · have hjs : j < s.size := by omega
      have hji : (j : Int) < (s.size : Int) := by omega
      have gj : ((s[j]'hjs).toNat : Int) = 48 := (HG.out j hjs).trans (HA.out j hja)
      go_wp2
      go_round
      case rel => exact ⟨j + 1, by omega, by go_num⟩
      case measure => simp [intOf]; omega
    · obtain rfl : z = j := by omega
      clear hj hja
      have hz2 : (z : Int) ≤ (s.size : Int) := by omega
      have hzi : (z : Int) < (s.size : Int) := by omega
      have gz : ((s[z]'hze).toNat : Int) = bt s z := HG.out z hze
      have hzb : (bt s z == 48) = false := by rw [beq_eq_false_iff_ne]; exact hzn.out
      clear hzn
      generalize bt s z = cz at *
      go_wp2
      refine bodyPost_ret (v := .tuple #[.agg #[.slice none 0 0, .slice none 0 0], .bool false]) (by simp [results, Tryz.results34, go_sem]) rfl ⟨rfl, Keep.alloc1 w _⟩
end Go.Proofs.YtnljpbpphdhnpaaGreatDoor
