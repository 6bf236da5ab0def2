/- The digits as bytes. -/
import Derived.Test.YtfpcpociejefaaaGreatDoorNearW
import Derived.Test.YtfpcpociejefaaaGreatDoorNgA
import Derived.Test.YtfpcpociejefaaaGreatDoorBigH
import Derived.Test.YtfpcpociejefaaaGreatDoorNgA
import Derived.Deep.RegionWith
import Derived.Handy

namespace Go.Proofs.YtfpcpociejefaaaGreatDoor
/-- the m digits of a number -/
def decL (q m : Nat) : List UInt8 := (List.range m).map fun j => Lib.dg q (m - 1 - j)
theorem decL_len (q m : Nat) : (decL q m).length = m := by simp [decL]
theorem dg_shift (q z i : Nat) : Lib.dg (q * 10 ^ z) (i + z) = Lib.dg q i := by
 unfold Lib.dg
 rw [Nat.pow_add, Nat.mul_div_mul_right _ _ (Nat.pow_pos (by decide))]
theorem dg_shift2 (q i : Nat) : Lib.dg q (i + 1) = Lib.dg (q / 10) i := by
 unfold Lib.dg
 rw [Nat.pow_succ, Nat.mul_comm, ← Nat.div_div_eq_div_mul]
theorem decL_succ (q m : Nat) : decL q (m + 1) = decL (q / 10) m ++ [UInt8.ofNat (48 + q % 10)] := by
 unfold decL
 rw [List.range_succ, List.map_append]
 congr 1
 ·apply List.map_congr_left
  intro j hj
  have hj := List.mem_range.1 hj
  rw [show m + 1 - 1 - j = m - 1 - j + 1 by omega]
  exact dg_shift2 q _
 ·simp [Lib.dg]
theorem decL_one (q : Nat) (h : q < 10) : decL q 1 = [UInt8.ofNat (48 + q)] := by
 simp [decL, Lib.dg]
 rw [Nat.mod_eq_of_lt h]
theorem isD_told (n q s P : Nat) (h1 : 1 ≤ n) (h2 : n < 2139095040) (h : IsD n q s P) : digs n = decL q s ∧ exF n = (P : Int) - 60 + s - 1 := by
 obtain ⟨hs, c1, c2, c3, z, c4, c5⟩ := h
 obtain ⟨d1, d2⟩ := dF_bounds n h1 h2
 obtain ⟨m1, m2, m3, m4⟩ := ndN_ok (dF n) d1 d2
 obtain ⟨t1, t2, t3, t4⟩ := tzN_ok (dF n) d1 d2
 have hl := digs_len n h1 h2
 have hg := fun j => digs_get n j h1 h2
 have h10 : 0 < 10 ^ z := Nat.pow_pos (by decide)
 have hnd : ndN (dF n) = s + z := by
  have b1 : 10 ^ (s - 1 + z) ≤ dF n := by rw [c4, Nat.pow_add]; exact Nat.mul_le_mul_right _ c1
  have b2 : dF n < 10 ^ (s + z) := by rw [c4, Nat.pow_add]; exact Nat.mul_lt_mul_of_pos_right c2 h10
  have b3 : 10 ^ (ndN (dF n) - 1) < 10 ^ (s + z) := by omega
  have b4 : 10 ^ (s - 1 + z) < 10 ^ ndN (dF n) := by omega
  have b5 := (Nat.pow_lt_pow_iff_right (show 1 < 10 by decide)).1 b3
  have b6 := (Nat.pow_lt_pow_iff_right (show 1 < 10 by decide)).1 b4
  omega
 have htz : tzN (dF n) = z := by
  rcases Nat.lt_trichotomy (tzN (dF n)) z with h | h | h
  ·exfalso
   refine t4 ?_
   clear t1 t2 t3 m3 m4 hnd hl hg
   generalize tzN (dF n) = T at *
   obtain ⟨i, rfl⟩ : ∃ i, z = T + 1 + i := ⟨z - T - 1, by omega⟩
   rw [c4, show q * 10 ^ (T + 1 + i) = q * 10 ^ i * 10 * 10 ^ T by rw [Nat.pow_add, Nat.pow_add, Nat.pow_one]; ac_rfl, Nat.mul_div_cancel _ (Nat.pow_pos (by decide))]
   exact Nat.mul_mod_left _ _
  ·exact h
  ·exfalso
   have := t3 z h
   rw [c4, Nat.mul_div_cancel _ h10] at this
   exact c3 this
 have hnF : ndF n = s := by unfold ndF; omega
 refine ⟨?_, by unfold exF; omega⟩
 apply List.ext_getElem?
 intro j
 rcases Nat.lt_or_ge j s with hj | hj
 ·rw [hg j (by omega), hnd]
  unfold decL
  rw [List.getElem?_map, List.getElem?_range hj]
  show some _ = some _
  rw [c4, show s + z - 1 - j = s - 1 - j + z by omega, dg_shift]
 ·rw [List.getElem?_eq_none (by omega), List.getElem?_eq_none (by rw [decL_len]; exact hj)]
end Go.Proofs.YtfpcpociejefaaaGreatDoor

/- The document's neighbours, in whole units. -/
namespace Go.Proofs.YtfpcpociejefaaaGreatDoor
theorem wN_lt {a b : Nat} : wN a < wN b ↔ a < b := by
 unfold wN
 rw [Nat.mul_lt_mul_right (show 0 < Q60 by unfold Q60; exact Nat.pow_pos (by decide)), valN_iff]
theorem Q60_pos : 0 < Q60 := by unfold Q60; exact Nat.pow_pos (by decide)
theorem l2_eq (n : Nat) : l2N n = wN (n - 1) + wN n := by unfold l2N wN; rw [Nat.add_mul]
theorem h2_eq (n : Nat) : h2N n = wN n + wN (n + 1) := by unfold h2N wN; rw [Nat.add_mul]
/-- what is nearest, in these units -/
theorem near_C (n m c : Nat) (h1 : 1 ≤ n) (h2 : n < 2139095040) (hm : m ≤ 2139095040) (lo : wN m ≤ c) (hi : m = 2139095040 ∨ c < wN (m + 1)) :
  (if m = 2139095040 then m else if h2N m < 2 * c ∨ 2 * c = h2N m ∧ m % 2 = 1 then m + 1 else m) = n ↔ LiesI (l2N n) (h2N n) (n % 2) c := by
 unfold LiesI
 rw [l2_eq, h2_eq n]
 have s1 : wN n < wN (n + 1) := wN_lt.2 (by omega)
 have s0 : wN (n - 1) < wN n := wN_lt.2 (by omega)
 by_cases ht : m = 2139095040
 ·rw [if_pos ht]
  subst ht
  have : wN (n + 1) ≤ wN 2139095040 := Nat.le_of_not_lt (fun g => by have := wN_lt.1 g; omega)
  constructor
  ·intro e; omega
  ·intro e; omega
 ·rw [if_neg ht]
  have hi := hi.resolve_left ht
  rw [h2_eq m]
  rcases Nat.lt_or_ge n m with g | g
  ·have g1 : wN (n + 1) ≤ wN m := Nat.le_of_not_lt (fun g => by have := wN_lt.1 g; omega)
   constructor
   ·intro e
    split at e <;> omega
   ·intro e
    omega
  ·rcases Nat.lt_or_ge (m + 1) n with g2 | g2
   ·have g1 : wN (m + 1) ≤ wN (n - 1) := Nat.le_of_not_lt (fun g => by have := wN_lt.1 g; omega)
    constructor
    ·intro e
     split at e <;> omega
    ·intro e
     omega
   ·rcases Nat.lt_or_ge m n with g3 | g3
    ·obtain rfl : n = m + 1 := by omega
     rw [Nat.add_sub_cancel] at *
     constructor
     ·intro e
      split at e
      ·omega
      ·omega
     ·intro e
      rw [if_pos (by omega)]
    ·obtain rfl : n = m := by omega
     constructor
     ·intro e
      split at e
      ·omega
      ·omega
     ·intro e
      rw [if_neg (by omega)]
theorem near_iff (n A B m q P : Nat) (hB : 0 < B) (h1 : 1 ≤ n) (h2 : n < 2139095040) (hAB : A * Q60 = q * 10 ^ P * B) (hl : LowB A B m) : nearB A B m = n ↔ LiesI (l2N n) (h2N n) (n % 2) (q * tP P) := by
 obtain ⟨l1, l2, l3⟩ := hl
 have hQ := Q60_pos
 have e0 : A * 2 ^ 149 * Q60 = q * tP P * B := by
  unfold tP
  rw [show A * 2 ^ 149 * Q60 = A * Q60 * 2 ^ 149 by ac_rfl, hAB]
  ac_rfl
 have ew : ∀ k, valN k * B * Q60 = wN k * B := fun k => by unfold wN; ac_rfl
 have lo : wN m ≤ q * tP P := by
  have := Nat.mul_le_mul_right Q60 l2
  rw [e0, ew] at this
  exact Nat.le_of_mul_le_mul_right this hB
 have hi : m = 2139095040 ∨ q * tP P < wN (m + 1) := by
  rcases l3 with h | h
  ·exact .inl h
  ·right
   have := Nat.mul_lt_mul_of_pos_right h hQ
   rw [e0, ew] at this
   exact Nat.lt_of_mul_lt_mul_right this
 rw [← near_C n m (q * tP P) h1 h2 l1 lo hi]
 unfold nearB upB
 have eS : (valN m + valN (m + 1)) * B * Q60 = h2N m * B := by unfold h2N; ac_rfl
 have eV : 2 * (A * 2 ^ 149) * Q60 = 2 * (q * tP P) * B := by rw [Nat.mul_assoc 2, e0]; ac_rfl
 have c1 : (valN m + valN (m + 1)) * B < 2 * (A * 2 ^ 149) ↔ h2N m < 2 * (q * tP P) := by
  rw [← Nat.mul_lt_mul_right hQ, eS, eV, Nat.mul_lt_mul_right hB]
 have c2 : 2 * (A * 2 ^ 149) = (valN m + valN (m + 1)) * B ↔ 2 * (q * tP P) = h2N m := by
  constructor
  ·intro h
   have : 2 * (A * 2 ^ 149) * Q60 = (valN m + valN (m + 1)) * B * Q60 := congrArg (· * Q60) h
   rw [eS, eV] at this
   exact Nat.eq_of_mul_eq_mul_right hB this
  ·intro h
   have : 2 * (q * tP P) * B = h2N m * B := congrArg (· * B) h
   rw [← eS, ← eV] at this
   exact Nat.eq_of_mul_eq_mul_right hQ this
 simp only [Bool.or_eq_true, Bool.and_eq_true, decide_eq_true_eq, c1, c2]
theorem ten_scale (q P : Nat) (k : Int) (hk : k = (P : Int) - 60) : q * 10 ^ k.toNat * Q60 = q * 10 ^ P * 10 ^ (-k).toNat := by
 unfold Q60
 rw [Nat.mul_assoc, Nat.mul_assoc, ← Nat.pow_add, ← Nat.pow_add]
 congr 2
 omega
/-- how a number of tens stands to so many of a float's steps -/
theorem against_ten (n m q P : Nat) (k : Int) (hk : k = (P : Int) - 60) : cmpI ((q * 10 ^ k.toNat * 2 ^ (-(atE n)).toNat : Nat) : Int) ((m * 2 ^ (atE n).toNat * 10 ^ (-k).toNat : Nat) : Int) = cmpI ((q * tP P : Nat) : Int) ((m * ulp n * Q60 : Nat) : Int) := by
 have hE := at_lo n
 have hs : 0 < 2 ^ (149 - (-(atE n)).toNat) * Q60 := Nat.mul_pos (Nat.two_pow_pos _) Q60_pos
 have hB : 0 < 10 ^ (-k).toNat := Nat.pow_pos (by decide)
 rw [← cmp_scale _ _ _ hs, ← cmp_scale (q * tP P) _ _ hB]
 have e1 : (2 : Nat) ^ 149 = 2 ^ (-(atE n)).toNat * 2 ^ (149 - (-(atE n)).toNat) := by
  rw [← Nat.pow_add]
  congr 1
  omega
 have e2 : ulp n = 2 ^ (atE n).toNat * 2 ^ (149 - (-(atE n)).toNat) := by
  unfold ulp
  rw [← Nat.pow_add]
  congr 1
  omega
 have e3 := ten_scale q P k hk
 congr 2
 ·unfold tP
  rw [e1, show q * 10 ^ k.toNat * 2 ^ (-(atE n)).toNat * (2 ^ (149 - (-(atE n)).toNat) * Q60) = q * 10 ^ k.toNat * Q60 * (2 ^ (-(atE n)).toNat * 2 ^ (149 - (-(atE n)).toNat)) by ac_rfl, e3]
  ac_rfl
 ·rw [e2]
  ac_rfl
theorem against_w (n q P : Nat) (k : Int) (hk : k = (P : Int) - 60) : cmpI ((q * 10 ^ k.toNat * 2 ^ (-(atE n)).toNat : Nat) : Int) ((atM n * 2 ^ (atE n).toNat * 10 ^ (-k).toNat : Nat) : Int) = cmpI ((q * tP P : Nat) : Int) ((wN n : Nat) : Int) := by
 rw [against_ten n (atM n) q P k hk]
 unfold wN
 rw [val_ulp n]
theorem against_2w (n q P : Nat) (k : Int) (hk : k = (P : Int) - 60) : cmpI ((q * 10 ^ k.toNat * 2 ^ (-(atE n)).toNat : Nat) : Int) ((2 * atM n * 2 ^ (atE n).toNat * 10 ^ (-k).toNat : Nat) : Int) = cmpI ((q * tP P : Nat) : Int) ((2 * wN n : Nat) : Int) := by
 rw [against_ten n (2 * atM n) q P k hk]
 unfold wN
 rw [val_ulp n, Nat.mul_assoc 2, Nat.mul_assoc 2]
/-- where the document stands: s digits, the last at ten to the power P - 60, the first at K - 60 -/
structure FewI (n s P K : Nat) : Prop where
 pos : P + s = K + 1
 one : 1 ≤ s
 lo : tP K ≤ wN n
 hi : wN n < tP (K + 1)
 no : s = 1 ∨ ∀ x, ¬ LiesI (l2N n) (h2N n) (n % 2) (x * (10 * tP P))
theorem FewI.next {n s P K : Nat} (h1 : 1 ≤ n) (h2 : n < 2139095040) (h : FewI n s P K) (ha : ¬ LiesI (l2N n) (h2N n) (n % 2) (wN n / tP P * tP P)) (hb : ¬ LiesI (l2N n) (h2N n) (n % 2) ((wN n / tP P + 1) * tP P)) : 91 - jF n < P ∧ FewI n (s + 1) (P - 1) K := by
 obtain ⟨sp, _, _, hj⟩ := sp_of n h1 h2
 have hno : ∀ x, ¬ LiesI (l2N n) (h2N n) (n % 2) (x * tP P) := fun x hx => by
  rcases near_in _ _ _ _ _ x (tP_pos P) sp.ho sp.lo sp.hi hx with h | h
  ·exact ha h
  ·exact hb h
 have hP : 91 - jF n < P := by
  rcases Nat.lt_or_ge (91 - jF n) P with g | g
  ·exact g
  ·obtain ⟨x, hx⟩ := some_in n P h1 h2 g
   exact absurd hx (hno x)
 refine ⟨hP, by have := h.pos; omega, by omega, h.lo, h.hi, .inr ?_⟩
 have e : 10 * tP (P - 1) = tP P := by
  obtain ⟨r, rfl⟩ : ∃ r, P = r + 1 := ⟨P - 1, by omega⟩
  rw [Nat.add_sub_cancel, tP_add, Nat.pow_one]
 rw [e]
 exact hno
theorem ulp_le (n : Nat) (h1 : 1 ≤ n) (h2 : n < 2139095040) : wN n ≤ 16777216 * (ulp n * Q60) ∧ ulp n * Q60 ≤ h2N n - l2N n := by
 have hv := val_ulp n
 have hu := val_up n
 have hM := atM_lt n
 constructor
 ·unfold wN
  rw [hv, Nat.mul_assoc]
  exact Nat.mul_le_mul_right _ (by omega)
 ·rw [l2_eq, h2_eq]
  have s0 : wN (n - 1) < wN n := wN_lt.2 (by omega)
  have : wN (n + 1) = wN n + ulp n * Q60 := by unfold wN; rw [hu, Nat.add_mul]
  omega
theorem tP_lt {a b : Nat} (h : tP a < tP b) : a < b := by
 rcases Nat.lt_or_ge a b with g | g
 ·exact g
 ·exfalso
  obtain ⟨i, rfl⟩ : ∃ i, a = b + i := ⟨a - b, by omega⟩
  rw [tP_add] at h
  have : 1 * tP b ≤ 10 ^ i * tP b := Nat.mul_le_mul_right _ (Nat.one_le_pow _ _ (by decide))
  omega
theorem FewI.small {n s P K : Nat} (h1 : 1 ≤ n) (h2 : n < 2139095040) (h : FewI n s P K) : s ≤ 10 ∧ 91 - jF n ≤ P ∧ jF n ≤ 76 := by
 obtain ⟨sp, big, _, hj⟩ := sp_of n h1 h2
 have hp := h.pos
 have ho := h.one
 have hP : 91 - jF n ≤ P := by
  rcases h.no with g | g
  ·have : tP (91 - jF n) < tP (K + 1) := Nat.lt_of_le_of_lt big h.hi
   have := tP_lt this
   omega
  ·rcases Nat.lt_or_ge P (91 - jF n) with g2 | g2
   ·exfalso
    obtain ⟨x, hx⟩ := some_in n (P + 1) h1 h2 (by omega)
    rw [tP_add, Nat.pow_one] at hx
    exact g x hx
   ·exact g2
 refine ⟨?_, hP, hj⟩
 obtain ⟨u1, u2⟩ := ulp_le n h1 h2
 have ht := sp.thin
 have hlo := h.lo
 have : tP K < tP (91 - jF n + 9) := by
  rw [tP_add]
  have e : 10 ^ 9 * tP (91 - jF n) = 1000000000 * tP (91 - jF n) := by congr 1
  rw [e]
  omega
 have := tP_lt this
 omega
theorem K_small {n K : Nat} (h2 : n < 2139095040) (h : tP K ≤ wN n) : K ≤ 99 := by
 obtain ⟨a1, a2, _⟩ := at_facts2 n h2
 have hM := atM_lt n
 have : wN n < tP 100 := by
  unfold wN tP Q60
  rw [val_ulp]
  have hu : ulp n ≤ 2 ^ 253 := by unfold ulp; exact Nat.pow_le_pow_right (by decide) (by omega)
  have : atM n * ulp n ≤ 16777216 * 2 ^ 253 := Nat.mul_le_mul (by omega) hu
  exact Nat.lt_of_le_of_lt (Nat.mul_le_mul_right _ this) (by decide)
 have := tP_lt (Nat.lt_of_le_of_lt h this)
 omega
theorem K_start {n : Nat} (h1 : 1 ≤ n) : tP 0 ≤ wN n := by
 have : wN 0 < wN n := wN_lt.2 (by omega)
 have h : 1 ≤ valN n := valN_pos h1
 unfold wN tP Q60
 exact Nat.le_trans (by decide) (Nat.mul_le_mul_right (10 ^ 60) h)
end Go.Proofs.YtfpcpociejefaaaGreatDoor

/- The document's most and nearer. -/
namespace Go.Proofs.YtfpcpociejefaaaGreatDoor
open Go.RowKit Go.PlainAid
/-- how the halving for the greatest number of tens stands -/
def MosI (n P lo hi : Nat) : Prop := lo < hi ∧ lo * tP P ≤ wN n ∧ wN n < hi * tP P
theorem cmpI_le (a b : Nat) : cmpI (a : Int) (b : Int) ≤ 0 ↔ a ≤ b := by
 unfold cmpI
 split
 ·omega
 ·split <;> omega
set_option maxRecDepth 1000000 in
set_option maxHeartbeats 1600000 in
theorem most_any (n T P : Nat) (k : Int) (hk : k = (P : Int) - 60) (hP : P ≤ 200) (h2 : n < 2139095040) (hT : T ≤ 1000000000000) (hT1 : 1 ≤ T) (hw : wN n < T * tP P) (Q : Nat) (hQ : wN n / tP P = Q) (w : World) :
  Calls Tryz.prog 119 #[.int .i64 (T : Int), .int .i64 k, .int .u64 ((atM n : Nat) : Int), .int .i64 (atE n)] w fun e w' => e = .returned (.int .i64 (Q : Int)) ∧ Keep [] w w' := by
 have H0 : Hid (MosI n P 0 T) := (⟨by omega, by rw [Nat.zero_mul]; exact Nat.zero_le _, hw⟩ : MosI n P 0 T)
 have hbd := at_bounds n (by omega)
 have hTi : (T : Int) ≤ 1000000000000 := by omega
 have HT : Hid (∀ (m : Nat) (w : World), m ≤ 1000000000000 → Calls Tryz.prog 118 #[.int .i64 (m : Int), .int .i64 k] w fun r w' => ∃ va vb, r = .returned (.agg #[va, vb]) ∧ (Big w' va (m * 10 ^ k.toNat) 1000 ∧ Big w' vb (10 ^ (-k).toNat) 1000) ∧ Keep [] w w') := by
  intro m w hm
  exact ten_any m k (by omega) (by omega) (by omega) w
 have HA : Hid (∀ (m : Nat) (va vb : Value) (w : World), Big w va (m * 10 ^ k.toNat) 1000 → Big w vb (10 ^ (-k).toNat) 1000 → Calls Tryz.prog 117 #[.agg #[va, vb], .int .u64 ((atM n : Nat) : Int), .int .i64 (atE n)] w fun r w' => r = .returned (.int .i64 (cmpI ((m * tP P : Nat) : Int) ((wN n : Nat) : Int))) ∧ Keep [] w w') := by
  intro m va vb w ha hb
  have := against_any va vb _ _ _ _ (atM n) (atE n) w ha hb (by omega) (by omega) (by omega) (by omega) (by omega)
  rw [against_w n m P k hk] at this
  exact this
 have hR : ∀ lo : Nat, MosI n P lo (lo + 1) → lo = Q := fun lo h => by
  rw [← hQ]
  have := (Nat.le_div_iff_mul_le (tP_pos P)).2 h.2.1
  have := (Nat.div_lt_iff_lt_mul (tP_pos P)).2 h.2.2
  omega
 have HR : Hid _ := hR
 clear hw hR hk hP h2 hbd hQ
 generalize ((atM n : Nat) : Int) = M at *
 generalize atE n = E at *
 go_enter Tryz.func119, Tryz.ntmps119
 go_wp2
 go_loopw [9, 10] (fun lv hv wr => ∃ lo hi : Nat, lv = .int .i64 (lo : Int) ∧ hv = .int .i64 (hi : Int) ∧ hi ≤ T ∧ Hid (MosI n P lo hi) ∧ Hid (Keep [] w wr)) (fun lv hv _ => (intOf hv - intOf lv).toNat)
 case atStart => exact ⟨0, T, rfl, rfl, Nat.le_refl _, H0, Keep.refl _ w⟩
 case round =>
  clear H0
  obtain ⟨lo, hi, rfl, rfl, hhT, HI, HK⟩ := hrel
  have hlh : lo < hi := HI.out.1
  by_cases hd : lo + 1 < hi
  ·have hdi : 1 < (hi : Int) - lo := by omega
   obtain ⟨m, hmid⟩ : ∃ m : Nat, m = lo + (hi - lo) / 2 := ⟨_, rfl⟩
   have hmz : (lo : Int) + ((hi : Int) - lo).tdiv 2 = (m : Int) := by rw [Int.tdiv_eq_ediv_of_nonneg (by omega)]; omega
   have hm1 : lo < m := by omega
   have hm2 : m < hi := by omega
   clear hmid
   have hTen := fun w => HT.out m w (by omega)
   by_cases hc : m * tP P ≤ wN n
   ·have hge := (cmpI_le _ _).2 hc
    have HJ : Hid (MosI n P m hi) := (⟨hm2, hc, HI.out.2.2⟩ : MosI n P m hi)
    have hA := fun va vb w => HA.out m va vb w
    clear hc
    generalize cmpI ((m * tP P : Nat) : Int) ((wN n : Nat) : Int) = z at *
    go_wp2_with (first
     | (go_at_call 118; refine (hTen _).mono ?_; rintro e9 w8 ⟨va, vb, rfl, ⟨hba, hbb⟩, hk8⟩)
     | (go_at_call 117; refine (hA _ _ _ hba hbb).mono ?_; rintro e9 w9 ⟨rfl, hk9⟩))
    have HK2 : Hid (Keep [] w w9) := (HK.out.trans' hk8).trans' hk9
    clear hk8 hk9 hba hbb
    go_roundw
    case rel => exact ⟨m, hi, rfl, rfl, hhT, HJ, HK2⟩
    case measure => simp only [intOf]; omega
   ·have hge : ¬ cmpI ((m * tP P : Nat) : Int) ((wN n : Nat) : Int) ≤ 0 := fun h => hc ((cmpI_le _ _).1 h)
    have HJ : Hid (MosI n P lo m) := (⟨hm1, HI.out.2.1, by omega⟩ : MosI n P lo m)
    have hA := fun va vb w => HA.out m va vb w
    clear hc
    generalize cmpI ((m * tP P : Nat) : Int) ((wN n : Nat) : Int) = z at *
    go_wp2_with (first
     | (go_at_call 118; refine (hTen _).mono ?_; rintro e9 w8 ⟨va, vb, rfl, ⟨hba, hbb⟩, hk8⟩)
     | (go_at_call 117; refine (hA _ _ _ hba hbb).mono ?_; rintro e9 w9 ⟨rfl, hk9⟩))
    have HK2 : Hid (Keep [] w w9) := (HK.out.trans' hk8).trans' hk9
    clear hk8 hk9 hba hbb
    go_roundw
    case rel => exact ⟨lo, m, rfl, rfl, by omega, HJ, HK2⟩
    case measure => simp only [intOf]; omega
  ·have hdi : ¬ 1 < (hi : Int) - lo := by omega
   obtain rfl : hi = lo + 1 := by omega
   have HZ : Hid (lo = Q) := HR.out lo HI.out
   go_wp2
   go_ret
   exact ⟨by rw [← HZ.out]; rfl, HK.out⟩
theorem cmpI_three (a b : Nat) : (cmpI (a : Int) (b : Int) = 1 ∧ b < a) ∨ (cmpI (a : Int) (b : Int) = 0 ∧ a = b) ∨ (cmpI (a : Int) (b : Int) = -1 ∧ a < b) := by
 unfold cmpI
 by_cases h : (a : Int) < b
 ·rw [if_pos h]; omega
 ·rw [if_neg h]
  by_cases g : (b : Int) < a
  ·rw [if_pos g]; omega
  ·rw [if_neg g]; omega
def neaB (n P q : Nat) : Bool := decide (2 * wN n < (2 * q + 1) * tP P) || (decide (2 * wN n = (2 * q + 1) * tP P) && decide (q % 2 = 0))
set_option maxRecDepth 1000000 in
set_option maxHeartbeats 1600000 in
theorem nearer_any (n q P : Nat) (k : Int) (hk : k = (P : Int) - 60) (hP : P ≤ 200) (h2 : n < 2139095040) (hq : q ≤ 1000000000000) (w : World) :
  Calls Tryz.prog 121 #[.int .i64 (q : Int), .int .i64 k, .int .u64 ((atM n : Nat) : Int), .int .i64 (atE n)] w fun e w' => e = .returned (.bool (neaB n P q)) ∧ Keep [] w w' := by
 have hbd := at_bounds n (by omega)
 have hqi : 0 ≤ (q : Int) ∧ (q : Int) ≤ 1000000000000 := by omega
 have hMi : 0 ≤ ((atM n : Nat) : Int) ∧ ((atM n : Nat) : Int) < 16777216 := by omega
 have HT : Hid (∀ w : World, Calls Tryz.prog 118 #[.int .i64 (2 * (q : Int) + 1), .int .i64 k] w fun r w' => ∃ va vb, r = .returned (.agg #[va, vb]) ∧ (Big w' va ((2 * q + 1) * 10 ^ k.toNat) 1000 ∧ Big w' vb (10 ^ (-k).toNat) 1000) ∧ Keep [] w w') := by
  intro w
  have := ten_any (2 * q + 1) k (by omega) (by omega) (by omega) w
  rw [show ((2 * q + 1 : Nat) : Int) = 2 * (q : Int) + 1 by omega] at this
  exact this
 have HA : Hid (∀ (va vb : Value) (w : World), Big w va ((2 * q + 1) * 10 ^ k.toNat) 1000 → Big w vb (10 ^ (-k).toNat) 1000 → Calls Tryz.prog 117 #[.agg #[va, vb], .int .u64 (2 * ((atM n : Nat) : Int)), .int .i64 (atE n)] w fun r w' => r = .returned (.int .i64 (cmpI (((2 * q + 1) * tP P : Nat) : Int) ((2 * wN n : Nat) : Int))) ∧ Keep [] w w') := by
  intro va vb w ha hb
  have := against_any va vb _ _ _ _ (2 * atM n) (atE n) w ha hb (by omega) (by omega) (by omega) (by omega) (by omega)
  rw [against_2w n (2 * q + 1) P k hk, show ((2 * atM n : Nat) : Int) = 2 * ((atM n : Nat) : Int) by omega] at this
  exact this
 have hN : neaB n P q = (decide (2 * wN n < (2 * q + 1) * tP P) || (decide (2 * wN n = (2 * q + 1) * tP P) && decide (q % 2 = 0))) := rfl
 have h3 := cmpI_three ((2 * q + 1) * tP P) (2 * wN n)
 generalize cmpI (((2 * q + 1) * tP P : Nat) : Int) ((2 * wN n : Nat) : Int) = z at *
 generalize ((atM n : Nat) : Int) = M at *
 generalize atE n = E at *
 generalize (2 * q + 1) * tP P = a at *
 generalize 2 * wN n = b at *
 generalize neaB n P q = r at *
 obtain ⟨hq0, hq1⟩ := hqi
 obtain ⟨hM0, hM1⟩ := hMi
 clear hbd hk hP h2 hq
 have hA := HA.out
 have hT := HT.out
 clear HA HT
 have HM : Hid (2 * (q : Int) + 1 ≤ 2000000000001) := show 2 * (q : Int) + 1 ≤ 2000000000001 by omega
 rcases h3 with ⟨rfl, h⟩ | ⟨rfl, h⟩ | ⟨rfl, h⟩
 ·have hr : r = true := by rw [hN, decide_eq_true h]; rfl
  subst hr
  clear hN h
  go_enter Tryz.func121, Tryz.ntmps121
  go_wp2_with (first
   | (go_at_call 118; refine (hT _).mono ?_; rintro e9 w8 ⟨va, vb, rfl, ⟨hba, hbb⟩, hk8⟩)
   | (go_at_call 117; refine (hA _ _ _ hba hbb).mono ?_; rintro e9 w9 ⟨rfl, hk9⟩))
  go_ret
  exact ⟨rfl, hk8.trans' hk9⟩
 ·subst h
  have hm : (q : Int).tmod 2 = ((q % 2 : Nat) : Int) := by rw [Int.tmod_eq_emod_of_nonneg hq0]; omega
  by_cases hp : q % 2 = 0
  ·have hr : r = true := by rw [hN, decide_eq_true hp]; simp
   subst hr
   rw [hp] at hm
   clear hN hp
   go_enter Tryz.func121, Tryz.ntmps121
   go_wp2_with (first
    | (go_at_call 118; refine (hT _).mono ?_; rintro e9 w8 ⟨va, vb, rfl, ⟨hba, hbb⟩, hk8⟩)
    | (go_at_call 117; refine (hA _ _ _ hba hbb).mono ?_; rintro e9 w9 ⟨rfl, hk9⟩))
   go_ret
   exact ⟨rfl, hk8.trans' hk9⟩
  ·have hr : r = false := by rw [hN, decide_eq_false hp]; simp
   subst hr
   have hp1 : q % 2 = 1 := by omega
   rw [hp1] at hm
   clear hN hp hp1
   go_enter Tryz.func121, Tryz.ntmps121
   go_wp2_with (first
    | (go_at_call 118; refine (hT _).mono ?_; rintro e9 w8 ⟨va, vb, rfl, ⟨hba, hbb⟩, hk8⟩)
    | (go_at_call 117; refine (hA _ _ _ hba hbb).mono ?_; rintro e9 w9 ⟨rfl, hk9⟩))
   go_ret
   exact ⟨rfl, hk8.trans' hk9⟩
 ·have hr : r = false := by rw [hN, decide_eq_false (by omega), decide_eq_false (by omega)]; rfl
  subst hr
  clear hN h
  go_enter Tryz.func121, Tryz.ntmps121
  go_wp2_with (first
   | (go_at_call 118; refine (hT _).mono ?_; rintro e9 w8 ⟨va, vb, rfl, ⟨hba, hbb⟩, hk8⟩)
   | (go_at_call 117; refine (hA _ _ _ hba hbb).mono ?_; rintro e9 w9 ⟨rfl, hk9⟩))
  go_ret
  exact ⟨rfl, hk8.trans' hk9⟩
end Go.Proofs.YtfpcpociejefaaaGreatDoor

/- The document's fewest digits. -/
namespace Go.Proofs.YtfpcpociejefaaaGreatDoor
open Go.RowKit Go.PlainAid
theorem near_ten (n q P : Nat) (k : Int) (hk : k = (P : Int) - 60) (h1 : 1 ≤ n) (h2 : n < 2139095040) (va vb : Value) (w : World) (ha : Big w va (q * 10 ^ k.toNat) 1000) (hb : Big w vb (10 ^ (-k).toNat) 1000) :
  Calls Tryz.prog 120 #[.agg #[va, vb]] w fun r w' => ∃ y : Nat, (y = n ↔ LiesI (l2N n) (h2N n) (n % 2) (q * tP P)) ∧ r = .returned (.int .u32 (y : Int)) ∧ Keep [] w w' := by
 refine (nearest_any va vb _ _ _ _ w ha hb (by omega) (by omega)).mono ?_
 rintro r w' ⟨m, hl, he, hkp⟩
 exact ⟨_, near_iff n _ _ m q P (Nat.pow_pos (by decide)) h1 h2 (ten_scale q P k hk) hl, he, hkp⟩
theorem against_tens (n q P : Nat) (k : Int) (hk : k = (P : Int) - 60) (h2 : n < 2139095040) (va vb : Value) (w : World) (ha : Big w va (q * 10 ^ k.toNat) 1000) (hb : Big w vb (10 ^ (-k).toNat) 1000) :
  Calls Tryz.prog 117 #[.agg #[va, vb], .int .u64 ((atM n : Nat) : Int), .int .i64 (atE n)] w fun r w' => r = .returned (.int .i64 (cmpI ((q * tP P : Nat) : Int) ((wN n : Nat) : Int))) ∧ Keep [] w w' := by
 have hbd := at_bounds n (by omega)
 have := against_any va vb _ _ _ _ (atM n) (atE n) w ha hb (by omega) (by omega) (by omega) (by omega) (by omega)
 rw [against_w n q P k hk] at this
 exact this
set_option maxRecDepth 1000000 in
set_option maxHeartbeats 1600000 in
theorem fewest_any (n : Nat) (h1 : 1 ≤ n) (h2 : n < 2139095040) (w : World) : Calls Tryz.prog 100 #[.int .u32 (n : Int)] w fun e w' => ∃ q s P : Nat, (IsD n q s P ∧ s ≤ 10) ∧ e = .returned (.tuple #[.int .i64 (q : Int), .int .i64 (s : Int), .int .i64 ((P : Int) - 60)]) ∧ Keep [] w w' := by
 have hAt := at_any n h2
 have H0 : Hid (tP 0 ≤ wN n) := K_start h1
 have HA : Hid (1 ≤ n ∧ n < 2139095040) := ⟨h1, h2⟩
 have hG : ∀ (q P : Nat) (k : Int) (va vb : Value) (w : World), k = (P : Int) - 60 → _ := fun q P k va vb w hk => against_tens n q P k hk h2 va vb w
 have hM : ∀ (T P : Nat) (k : Int) (w : World), k = (P : Int) - 60 → P ≤ 200 → T ≤ 1000000000000 → 1 ≤ T → wN n < T * tP P → ∀ Q, wN n / tP P = Q → _ := fun T P k w hk hP hT hT1 hw Q hQ => most_any n T P k hk hP h2 hT hT1 hw Q hQ w
 have hE : ∀ (q P : Nat) (k : Int) (w : World), k = (P : Int) - 60 → P ≤ 200 → q ≤ 1000000000000 → _ := fun q P k w hk hP hq => nearer_any n q P k hk hP h2 hq w
 have HG : Hid _ := hG
 have HM : Hid _ := hM
 have HE : Hid _ := hE
 clear hG hM hE h1 h2
 generalize ((atM n : Nat) : Int) = M at *
 generalize atE n = E at *
 go_enter Tryz.func100, Tryz.ntmps100
 go_wp2_with (first
  | (go_at_call 116; refine (hAt _).mono ?_; rintro e9 w9 ⟨rfl, hw9⟩; obtain rfl := hw9.symm))
 clear hAt
 go_loopw [7] (fun kv wr => ∃ K : Nat, kv = .int .i64 ((K : Int) - 60) ∧ Hid (tP K ≤ wN n) ∧ Hid (Keep [] w wr)) (fun kv _ => (100 - intOf kv).toNat)
 case atStart => exact ⟨0, rfl, H0, Keep.refl _ w⟩
 case round =>
  clear H0
  obtain ⟨K, rfl, HK, HW⟩ := hrel
  have hK := K_small HA.out.2 HK.out
  have hT1 := fun w => ten_any 1 ((K : Int) - 60 + 1) (by decide) (by omega) (by omega) w
  have hA1 := fun va vb w => HG.out 1 (K + 1) ((K : Int) - 60 + 1) va vb w (by omega)
  by_cases hc : tP (K + 1) ≤ wN n
  ·have hge := (cmpI_le (1 * tP (K + 1)) (wN n)).2 (by rw [Nat.one_mul]; exact hc)
   have HC : Hid (tP (K + 1) ≤ wN n) := hc
   have hK2 := K_small HA.out.2 hc
   clear hc
   generalize cmpI ((1 * tP (K + 1) : Nat) : Int) ((wN n : Nat) : Int) = z at *
   go_wp2_with (first
    | (go_at_call 118; refine (hT1 _).mono ?_; rintro e9 w8 ⟨va, vb, rfl, ⟨hba, hbb⟩, hk8⟩)
    | (go_at_call 117; refine (hA1 _ _ _ hba hbb).mono ?_; rintro e9 w9 ⟨rfl, hk9⟩))
   have HK2 : Hid (Keep [] w w9) := (HW.out.trans' hk8).trans' hk9
   clear hk8 hk9 hba hbb
   go_roundw
   case rel => exact ⟨K + 1, by congr 1; omega, HC, HK2⟩
   case measure => simp only [intOf]; omega
  ·have hz1 : cmpI ((1 * tP (K + 1) : Nat) : Int) ((wN n : Nat) : Int) = 1 := by
    rcases cmpI_three (1 * tP (K + 1)) (wN n) with h | h | h
    ·exact h.1
    ·omega
    ·omega
   have HI : Hid (FewI n 1 K K) := (⟨by omega, by omega, HK.out, by omega, .inl rfl⟩ : FewI n 1 K K)
   rw [hz1] at hA1
   clear hc hz1
   go_wp2_with (first
    | (go_at_call 118; refine (hT1 _).mono ?_; rintro e9 w8 ⟨va, vb, rfl, ⟨hba, hbb⟩, hk8⟩)
    | (go_at_call 117; refine (hA1 _ _ _ hba hbb).mono ?_; rintro e9 w9 ⟨rfl, hk9⟩))
   have HK2 : Hid (Keep [] w w9) := (HW.out.trans' hk8).trans' hk9
   clear hk8 hk9 hba hbb hT1 hA1 HW
   -- the second loop
   have hK := K_small HA.out.2 HK.out
   obtain ⟨kk, hkk⟩ : ∃ kk : Int, (K : Int) - 60 = kk := ⟨_, rfl⟩
   rw [hkk]
   have hk1 : -60 ≤ kk := by omega
   have hk2 : kk ≤ 39 := by omega
   have HKK : Hid ((K : Int) - 60 = kk) := hkk
   clear hkk hK hw9 HK
   rename_i wo _
   go_loopw [8, 9] (fun tv sv wr => ∃ T s P : Nat, tv = .int .i64 (T : Int) ∧ sv = .int .i64 (s : Int) ∧ Hid (T = 10 ^ s ∧ FewI n s P K) ∧ Hid (Keep [] w wr)) (fun _ sv _ => (20 - intOf sv).toNat)
   case atStart => exact ⟨10, 1, K, rfl, rfl, ⟨by decide, HI.out⟩, HK2⟩
   case round =>
    clear HI HK2
    obtain ⟨T, s, P, rfl, rfl, HI, HK⟩ := hrel
    obtain ⟨hs10, hP0, hj⟩ := HI.out.2.small HA.out.1 HA.out.2
    have hs1 := HI.out.2.one
    have hpos := HI.out.2.pos
    have hTe := HI.out.1
    have hT10 : T ≤ 10000000000 := by rw [hTe]; exact Nat.le_trans (Nat.pow_le_pow_right (by decide) hs10) (by decide)
    have hT0 : 1 ≤ T := by rw [hTe]; exact Nat.one_le_pow _ _ (by decide)
    have hw : wN n < T * tP P := by
     have := HI.out.2.hi
     rw [← hpos, tP_add, ← hTe] at this
     exact this
    obtain ⟨L, hL⟩ : ∃ L : Int, kk - (s : Int) + 1 = L := ⟨_, rfl⟩
    have hLP : L = (P : Int) - 60 := by have := HKK.out; omega
    have hP200 : P ≤ 200 := by have := HKK.out; omega
    have hL1 : -60 ≤ L := by omega
    have hL2 : L ≤ 39 := by omega
    obtain ⟨Q, hQ⟩ : ∃ Q, wN n / tP P = Q := ⟨_, rfl⟩
    have hQT : Q < T := by rw [← hQ]; exact (Nat.div_lt_iff_lt_mul (tP_pos P)).2 hw
    have hQ10 : (Q : Int) ≤ 10000000000 := by omega
    have hMo := fun w => HM.out T P L w hLP hP200 (by omega) hT0 hw Q hQ
    have hT1 := fun w => ten_any Q L (by omega) (by omega) (by omega) w
    have hT2 := fun w => ten_any (Q + 1) L (by omega) (by omega) (by omega) w
    obtain ⟨Q1, hQ1⟩ : ∃ Q1 : Int, (Q : Int) + 1 = Q1 := ⟨_, rfl⟩
    rw [show ((Q + 1 : Nat) : Int) = Q1 by omega] at hT2
    have hN1 := fun va vb w => near_ten n Q P L hLP HA.out.1 HA.out.2 va vb w
    have hN2 := fun va vb w => near_ten n (Q + 1) P L hLP HA.out.1 HA.out.2 va vb w
    have hNe := fun w => HE.out Q P L w hLP hP200 (by omega)
    have HL : Hid (L = (P : Int) - 60 ∧ wN n / tP P = Q ∧ s ≤ 10 ∧ Q < T) := ⟨hLP, hQ, hs10, hQT⟩
    have hTi : (T : Int) ≤ 10000000000 := by omega
    have hsi : (s : Int) ≤ 10 := by omega
    have hnea : neaB n P Q = (decide (2 * wN n < (2 * Q + 1) * tP P) || (decide (2 * wN n = (2 * Q + 1) * tP P) && decide (Q % 2 = 0))) := rfl
    have HN : Hid _ := hnea
    have hout : ∀ q, Told (tP P) (wN n) (l2N n) (h2N n) (n % 2) q → _ := fun q ht => out_prog n q s P HA.out.1 HA.out.2 hs1 (by rw [show P + s - 1 = K by omega]; exact HI.out.2.lo) (by rw [hpos]; exact HI.out.2.hi) ht HI.out.2.no
    have HO : Hid _ := hout
    have hnx : ¬ LiesI (l2N n) (h2N n) (n % 2) (Q * tP P) → ¬ LiesI (l2N n) (h2N n) (n % 2) ((Q + 1) * tP P) → _ := fun a b => HI.out.2.next HA.out.1 HA.out.2 (by rw [hQ]; exact a) (by rw [hQ]; exact b)
    have HX : Hid _ := hnx
    clear hnx hout hnea hP0 hj hpos hTe hw hLP hP200 hQ hs10 hQT hT10
    by_cases ha : LiesI (l2N n) (h2N n) (n % 2) (Q * tP P)
    ·by_cases hb : LiesI (l2N n) (h2N n) (n % 2) ((Q + 1) * tP P)
     ·by_cases hnear : 2 * wN n < (2 * Q + 1) * tP P ∨ (2 * wN n = (2 * Q + 1) * tP P ∧ Q % 2 = 0)
      ·have hr : neaB n P Q = true := by rw [HN.out]; simpa using hnear
       rw [hr] at hNe
       clear hr
       have HT : Hid (IsD n Q s P) := by
        rcases HO.out Q (.inl ⟨HL.out.2.1.symm, by rw [HL.out.2.1]; exact ha, fun _ => by rw [HL.out.2.1]; exact hnear⟩) with h | h
        ·exact h.2
        ·have := HL.out.2.2.2
         rw [HI.out.1] at this
         omega
       go_wp2_with (first
        | (go_at_call 119; refine (hMo _).mono ?_; rintro e9 w5 ⟨rfl, hk5⟩)
        | (go_at_call_of 118 (Value.int IntKind.i64 ((Q : Nat) : Int)); refine (hT1 _).mono ?_; rintro e9 w6 ⟨va, vb, rfl, ⟨hba, hbb⟩, hk6⟩)
        | (go_at_call_of 118 (Value.int IntKind.i64 Q1); refine (hT2 _).mono ?_; rintro e9 w8 ⟨vc, vd, rfl, ⟨hbc, hbd⟩, hk8⟩)
        | (go_at_call_of 120 va; refine (hN1 _ _ _ hba hbb).mono ?_; rintro e9 w7 ⟨y, hy, rfl, hk7⟩; obtain rfl : n = y := (hy.2 ha).symm; clear hba hbb hy)
        | (go_at_call_of 120 vc; refine (hN2 _ _ _ hbc hbd).mono ?_; rintro e9 w9 ⟨x, hx, rfl, hk9⟩; obtain rfl : n = x := (hx.2 hb).symm; clear hbc hbd hx)
        | (go_at_call 121; refine (hNe _).mono ?_; rintro e9 w10 ⟨rfl, hk10⟩))
       have HK2 : Hid (Keep [] w w9) := ((((HK.out.trans' hk5).trans' hk6).trans' hk7).trans' hk8).trans' hk9
       have HK3 : Hid (Keep [] w w10) := HK2.out.trans' hk10
       go_returns
       exact ⟨Q, s, P, ⟨HT.out, HL.out.2.2.1⟩, by rw [← HL.out.1]; rfl, HK3.out⟩
      ·have hr : neaB n P Q = false := by rw [HN.out]; simpa using hnear
       rw [hr] at hNe
       clear hr
       have HT : Hid _ := HO.out (Q + 1) (.inr ⟨by rw [HL.out.2.1], by rw [HL.out.2.1]; exact hb, fun _ => by rw [HL.out.2.1]; exact hnear⟩)
       by_cases htop : Q + 1 = T
       ·have HD : Hid (IsD n 1 1 (P + s)) := by
         rcases HT.out with h | h
         ·exact absurd (htop.trans HI.out.1) h.1
         ·exact h.2
        have tt : (Q1 == (T : Int)) = true := beq_iff_eq.2 (by omega)
        clear HT htop
        go_wp2_with (first
         | (go_at_call 119; refine (hMo _).mono ?_; rintro e9 w5 ⟨rfl, hk5⟩)
         | (go_at_call_of 118 (Value.int IntKind.i64 ((Q : Nat) : Int)); refine (hT1 _).mono ?_; rintro e9 w6 ⟨va, vb, rfl, ⟨hba, hbb⟩, hk6⟩)
         | (go_at_call_of 118 (Value.int IntKind.i64 Q1); refine (hT2 _).mono ?_; rintro e9 w8 ⟨vc, vd, rfl, ⟨hbc, hbd⟩, hk8⟩)
         | (go_at_call_of 120 va; refine (hN1 _ _ _ hba hbb).mono ?_; rintro e9 w7 ⟨y, hy, rfl, hk7⟩; obtain rfl : n = y := (hy.2 ha).symm; clear hba hbb hy)
         | (go_at_call_of 120 vc; refine (hN2 _ _ _ hbc hbd).mono ?_; rintro e9 w9 ⟨x, hx, rfl, hk9⟩; obtain rfl : n = x := (hx.2 hb).symm; clear hbc hbd hx)
         | (go_at_call 121; refine (hNe _).mono ?_; rintro e9 w10 ⟨rfl, hk10⟩))
        have HK2 : Hid (Keep [] w w9) := ((((HK.out.trans' hk5).trans' hk6).trans' hk7).trans' hk8).trans' hk9
        have HK3 : Hid (Keep [] w w10) := HK2.out.trans' hk10
        go_returns
        exact ⟨1, 1, P + s, ⟨HD.out, by decide⟩, by rw [show ((P + s : Nat) : Int) - 60 = L + (s : Int) by have := HL.out.1; omega]; rfl, HK3.out⟩
       ·have HD : Hid (IsD n (Q + 1) s P) := by
         rcases HT.out with h | h
         ·exact h.2
         ·exact absurd (h.1.trans HI.out.1.symm) htop
        have tt : (Q1 == (T : Int)) = false := beq_eq_false_iff_ne.2 (by omega)
        clear HT htop
        go_wp2_with (first
         | (go_at_call 119; refine (hMo _).mono ?_; rintro e9 w5 ⟨rfl, hk5⟩)
         | (go_at_call_of 118 (Value.int IntKind.i64 ((Q : Nat) : Int)); refine (hT1 _).mono ?_; rintro e9 w6 ⟨va, vb, rfl, ⟨hba, hbb⟩, hk6⟩)
         | (go_at_call_of 118 (Value.int IntKind.i64 Q1); refine (hT2 _).mono ?_; rintro e9 w8 ⟨vc, vd, rfl, ⟨hbc, hbd⟩, hk8⟩)
         | (go_at_call_of 120 va; refine (hN1 _ _ _ hba hbb).mono ?_; rintro e9 w7 ⟨y, hy, rfl, hk7⟩; obtain rfl : n = y := (hy.2 ha).symm; clear hba hbb hy)
         | (go_at_call_of 120 vc; refine (hN2 _ _ _ hbc hbd).mono ?_; rintro e9 w9 ⟨x, hx, rfl, hk9⟩; obtain rfl : n = x := (hx.2 hb).symm; clear hbc hbd hx)
         | (go_at_call 121; refine (hNe _).mono ?_; rintro e9 w10 ⟨rfl, hk10⟩))
        have HK2 : Hid (Keep [] w w9) := ((((HK.out.trans' hk5).trans' hk6).trans' hk7).trans' hk8).trans' hk9
        have HK3 : Hid (Keep [] w w10) := HK2.out.trans' hk10
        go_returns
        exact ⟨Q + 1, s, P, ⟨HD.out, HL.out.2.2.1⟩, by rw [← HL.out.1, show ((Q + 1 : Nat) : Int) = Q1 by omega]; rfl, HK3.out⟩
     ·clear hNe HN
      have HT : Hid (IsD n Q s P) := by
       rcases HO.out Q (.inl ⟨HL.out.2.1.symm, by rw [HL.out.2.1]; exact ha, fun h => absurd (by rw [HL.out.2.1] at h; exact h) hb⟩) with h | h
       ·exact h.2
       ·have := HL.out.2.2.2
        rw [HI.out.1] at this
        omega
      go_wp2_with (first
       | (go_at_call 119; refine (hMo _).mono ?_; rintro e9 w5 ⟨rfl, hk5⟩)
       | (go_at_call_of 118 (Value.int IntKind.i64 ((Q : Nat) : Int)); refine (hT1 _).mono ?_; rintro e9 w6 ⟨va, vb, rfl, ⟨hba, hbb⟩, hk6⟩)
       | (go_at_call_of 118 (Value.int IntKind.i64 Q1); refine (hT2 _).mono ?_; rintro e9 w8 ⟨vc, vd, rfl, ⟨hbc, hbd⟩, hk8⟩)
       | (go_at_call_of 120 va; refine (hN1 _ _ _ hba hbb).mono ?_; rintro e9 w7 ⟨y, hy, rfl, hk7⟩; obtain rfl : n = y := (hy.2 ha).symm; clear hba hbb hy)
       | (go_at_call_of 120 vc; refine (hN2 _ _ _ hbc hbd).mono ?_; rintro e9 w9 ⟨x, hx, rfl, hk9⟩; have tx : ((x : Int) == (n : Int)) = false := beq_eq_false_iff_ne.2 (fun h => hb (hx.1 (by omega))); clear hbc hbd hx))
      have HK2 : Hid (Keep [] w w9) := ((((HK.out.trans' hk5).trans' hk6).trans' hk7).trans' hk8).trans' hk9
      go_returns
      exact ⟨Q, s, P, ⟨HT.out, HL.out.2.2.1⟩, by rw [← HL.out.1]; rfl, HK2.out⟩
    ·by_cases hb : LiesI (l2N n) (h2N n) (n % 2) ((Q + 1) * tP P)
     ·clear hNe HN
      have HT : Hid _ := HO.out (Q + 1) (.inr ⟨by rw [HL.out.2.1], by rw [HL.out.2.1]; exact hb, fun h => absurd (by rw [HL.out.2.1] at h; exact h) ha⟩)
      by_cases htop : Q + 1 = T
      ·have HD : Hid (IsD n 1 1 (P + s)) := by
        rcases HT.out with h | h
        ·exact absurd (htop.trans HI.out.1) h.1
        ·exact h.2
       have tt : (Q1 == (T : Int)) = true := beq_iff_eq.2 (by omega)
       clear HT htop
       go_wp2_with (first
        | (go_at_call 119; refine (hMo _).mono ?_; rintro e9 w5 ⟨rfl, hk5⟩)
        | (go_at_call_of 118 (Value.int IntKind.i64 ((Q : Nat) : Int)); refine (hT1 _).mono ?_; rintro e9 w6 ⟨va, vb, rfl, ⟨hba, hbb⟩, hk6⟩)
        | (go_at_call_of 118 (Value.int IntKind.i64 Q1); refine (hT2 _).mono ?_; rintro e9 w8 ⟨vc, vd, rfl, ⟨hbc, hbd⟩, hk8⟩)
        | (go_at_call_of 120 va; refine (hN1 _ _ _ hba hbb).mono ?_; rintro e9 w7 ⟨y, hy, rfl, hk7⟩; have ty : ((y : Int) == (n : Int)) = false := beq_eq_false_iff_ne.2 (fun h => ha (hy.1 (by omega))); clear hba hbb hy)
        | (go_at_call_of 120 vc; refine (hN2 _ _ _ hbc hbd).mono ?_; rintro e9 w9 ⟨x, hx, rfl, hk9⟩; obtain rfl : n = x := (hx.2 hb).symm; clear hbc hbd hx))
       have HK2 : Hid (Keep [] w w9) := ((((HK.out.trans' hk5).trans' hk6).trans' hk7).trans' hk8).trans' hk9
       go_returns
       exact ⟨1, 1, P + s, ⟨HD.out, by decide⟩, by rw [show ((P + s : Nat) : Int) - 60 = L + (s : Int) by have := HL.out.1; omega]; rfl, HK2.out⟩
      ·have HD : Hid (IsD n (Q + 1) s P) := by
        rcases HT.out with h | h
        ·exact h.2
        ·exact absurd (h.1.trans HI.out.1.symm) htop
       have tt : (Q1 == (T : Int)) = false := beq_eq_false_iff_ne.2 (by omega)
       clear HT htop
       go_wp2_with (first
        | (go_at_call 119; refine (hMo _).mono ?_; rintro e9 w5 ⟨rfl, hk5⟩)
        | (go_at_call_of 118 (Value.int IntKind.i64 ((Q : Nat) : Int)); refine (hT1 _).mono ?_; rintro e9 w6 ⟨va, vb, rfl, ⟨hba, hbb⟩, hk6⟩)
        | (go_at_call_of 118 (Value.int IntKind.i64 Q1); refine (hT2 _).mono ?_; rintro e9 w8 ⟨vc, vd, rfl, ⟨hbc, hbd⟩, hk8⟩)
        | (go_at_call_of 120 va; refine (hN1 _ _ _ hba hbb).mono ?_; rintro e9 w7 ⟨y, hy, rfl, hk7⟩; have ty : ((y : Int) == (n : Int)) = false := beq_eq_false_iff_ne.2 (fun h => ha (hy.1 (by omega))); clear hba hbb hy)
        | (go_at_call_of 120 vc; refine (hN2 _ _ _ hbc hbd).mono ?_; rintro e9 w9 ⟨x, hx, rfl, hk9⟩; obtain rfl : n = x := (hx.2 hb).symm; clear hbc hbd hx))
       have HK2 : Hid (Keep [] w w9) := ((((HK.out.trans' hk5).trans' hk6).trans' hk7).trans' hk8).trans' hk9
       go_returns
       exact ⟨Q + 1, s, P, ⟨HD.out, HL.out.2.2.1⟩, by rw [← HL.out.1, show ((Q + 1 : Nat) : Int) = Q1 by omega]; rfl, HK2.out⟩
     ·clear hNe HN HO
      obtain ⟨hPl, hF⟩ := HX.out ha hb
      have HF : Hid (FewI n (s + 1) (P - 1) K) := hF
      go_wp2_with (first
       | (go_at_call 119; refine (hMo _).mono ?_; rintro e9 w5 ⟨rfl, hk5⟩)
       | (go_at_call_of 118 (Value.int IntKind.i64 ((Q : Nat) : Int)); refine (hT1 _).mono ?_; rintro e9 w6 ⟨va, vb, rfl, ⟨hba, hbb⟩, hk6⟩)
       | (go_at_call_of 118 (Value.int IntKind.i64 Q1); refine (hT2 _).mono ?_; rintro e9 w8 ⟨vc, vd, rfl, ⟨hbc, hbd⟩, hk8⟩)
       | (go_at_call_of 120 va; refine (hN1 _ _ _ hba hbb).mono ?_; rintro e9 w7 ⟨y, hy, rfl, hk7⟩; have ty : ((y : Int) == (n : Int)) = false := beq_eq_false_iff_ne.2 (fun h => ha (hy.1 (by omega))); clear hba hbb hy)
       | (go_at_call_of 120 vc; refine (hN2 _ _ _ hbc hbd).mono ?_; rintro e9 w9 ⟨x, hx, rfl, hk9⟩; have tx : ((x : Int) == (n : Int)) = false := beq_eq_false_iff_ne.2 (fun h => hb (hx.1 (by omega))); clear hbc hbd hx))
      have HK2 : Hid (Keep [] w w9) := ((((HK.out.trans' hk5).trans' hk6).trans' hk7).trans' hk8).trans' hk9
      go_roundw
      case rel => exact ⟨T * 10, s + 1, P - 1, by go_num, by go_num, ⟨by rw [HI.out.1, Nat.pow_succ], HF.out⟩, HK2⟩
      case measure => simp only [intOf]; omega
end Go.Proofs.YtfpcpociejefaaaGreatDoor

/- The document's decimal. -/
namespace Go.Proofs.YtfpcpociejefaaaGreatDoor
open Go.RowKit Go.PlainAid
theorem str_cell (w : World) (b : Nat) (k : Int) (hc : w.cell? ⟨b, 0, none⟩ = some (.int .u8 k)) : (convert 33 9 (.slice (some ⟨b, 0, none⟩) 1 1)).run Tryz.prog w = .ok (.string ⟨#[UInt8.ofNat k.toNat]⟩) w := by
 rw [run_convert_bytes_string w 33 9 5 _ _ _ underS Tryz.underlying5 Tryz.underlying9]
 have hld : (loadCells ⟨b, 0, none⟩ 1).run Tryz.prog w = .ok (([k] : List Int).map (Value.int .u8)).toArray w := by
  have := run_loadCells_list (P := Tryz.prog) w ⟨b, 0, none⟩ [.int .u8 k] (by
   intro j u hu
   match j, hu with
   | 0, hu =>
    simp only [List.getElem?_cons_zero, Option.some.injEq] at hu
    rw [← hu, ← hc]
    rfl)
  exact this
 rw [run_bytesToString w _ 1 1 _ hld]
 rfl
theorem str_later {w0 w9 : World} (b : Nat) (k : Int) (h : Below w0.heap.size w0 w9) (hb : b < w0.heap.size) (hc : w0.cell? ⟨b, 0, none⟩ = some (.int .u8 k)) : (convert 33 9 (.slice (some ⟨b, 0, none⟩) 1 1)).run Tryz.prog w9 = .ok (.string ⟨#[UInt8.ofNat k.toNat]⟩) w9 :=
 str_cell w9 b k ((h.cell hb).trans hc)
theorem ofNat_toNat (C : Int) : (⟨#[UInt8.ofNat C.toNat]⟩ : ByteArray).data.toList = [UInt8.ofNat C.toNat] := rfl
set_option maxRecDepth 1000000 in
set_option maxHeartbeats 400000 in
theorem dec_step (q m : Nat) (h10 : 10 ≤ q) (hm : m ≤ 20) (hq : q ≤ 1000000000000) (w : World) (ih : ∀ w : World, Calls Tryz.prog 101 #[.int .i64 ((q / 10 : Nat) : Int)] w fun e w' => (∃ T : ByteArray, e = .returned (.string T) ∧ T.data.toList = decL (q / 10) m) ∧ Below w.heap.size w w') :
  Calls Tryz.prog 101 #[.int .i64 (q : Int)] w fun e w' => (∃ T : ByteArray, e = .returned (.string T) ∧ T.data.toList = decL q (m + 1)) ∧ Below w.heap.size w w' := by
 have hi : ¬ (q : Int) < 10 := by omega
 obtain ⟨D, hD⟩ : ∃ D : Int, (q : Int).tdiv 10 = D := ⟨_, rfl⟩
 obtain ⟨R, hR⟩ : ∃ R : Int, (q : Int).tmod 10 = R := ⟨_, rfl⟩
 obtain ⟨C, hC⟩ : ∃ C : Int, 48 + R = C := ⟨_, rfl⟩
 have hDq : ((q / 10 : Nat) : Int) = D := by rw [← hD, Int.tdiv_eq_ediv_of_nonneg (by omega)]; omega
 have hRq : R = ((q % 10 : Nat) : Int) := by rw [← hR, Int.tmod_eq_emod_of_nonneg (by omega)]; omega
 have hC0 : 48 ≤ C := by omega
 have hC1 : C ≤ 57 := by omega
 have hR0 : 0 ≤ R := by omega
 have hR1 : R ≤ 9 := by omega
 have HC : Hid (C.toNat = 48 + q % 10) := show C.toNat = 48 + q % 10 by omega
 rw [hDq] at ih
 have hS1 := str_cell (w.alloc (Obj.cells #[.int .u8 C] 5)).drew w.heap.size C (by simp)
 have hD0 : 0 ≤ D := by omega
 have hD1 : D ≤ 1000000000000 := by omega
 have HZ : Hid (∀ T : ByteArray, T.data.toList = decL (q / 10) m → T.size ≤ 20) := fun T h => by
  have h3 : T.data.toList.length = T.size := Array.length_toList
  rw [← h3, h, decL_len]
  exact hm
 clear hDq hRq hq h10 hm
 have hw1 : IntKind.i64.wrap D = D := by go_arith
 have hw2 : IntKind.i64.wrap C = C := by go_arith
 have hw3 : IntKind.u8.wrap C = C := by go_arith
 go_enter Tryz.func101, Tryz.ntmps101
 go_wp2_with fail
 go_region_with (go_at_call 101; refine (ih _).mono ?_; rintro e9 w9 ⟨⟨T, rfl, hT⟩, hb⟩; have hS2 := one_str w9 C; have hz := HZ.out T hT; have hS3 := str_later w.heap.size C hb; simp at hS3)
 all_goals
  go_wp2_with fail
  go_ret
  refine ⟨⟨_, rfl, ?_⟩, Keep.below ?_⟩
  ·rw [ba_app, hT, decL_succ, ← HC.out, ofNat_toNat C]
  ·first
    | exact ((Keep.refl [] w).alloc _).drew.trans' (Keep.ofBelow hb)
    | exact ((Keep.refl [] w).drew.trans' (Keep.ofBelow hb)).alloc _
theorem dec_one (q : Nat) (h : q < 10) (w : World) : Calls Tryz.prog 101 #[.int .i64 (q : Int)] w fun e w' => (∃ T : ByteArray, e = .returned (.string T) ∧ T.data.toList = decL q 1) ∧ Below w.heap.size w w' := by
 rw [decL_one q h]
 exact decimal_digit q h w
/-- the document's decimal of a number of m digits -/
theorem decimal_any : ∀ (m q : Nat), 1 ≤ m → m ≤ 12 → 10 ^ (m - 1) ≤ q ∨ m = 1 → q < 10 ^ m → ∀ w : World, Calls Tryz.prog 101 #[.int .i64 (q : Int)] w fun e w' => (∃ T : ByteArray, e = .returned (.string T) ∧ T.data.toList = decL q m) ∧ Below w.heap.size w w' := by
 intro m
 induction m with
 | zero => intro q h; omega
 | succ m ih =>
  intro q _ hm h1 h2 w
  rcases Nat.eq_zero_or_pos m with h0 | h0
  ·subst h0
   exact dec_one q h2 w
  ·have h1 := h1.resolve_right (by omega)
   rw [Nat.add_sub_cancel] at h1
   obtain ⟨r, rfl⟩ : ∃ r, m = r + 1 := ⟨m - 1, by omega⟩
   rw [Nat.pow_succ] at h1
   rw [Nat.pow_succ] at h2
   have hp : 1 ≤ 10 ^ r := Nat.one_le_pow _ _ (by decide)
   have hq : 10 ^ (r + 1) * 10 ≤ 10 ^ 12 := by rw [← Nat.pow_succ]; exact Nat.pow_le_pow_right (by decide) hm
   have hq2 : (10 : Nat) ^ 12 = 1000000000000 := by decide
   refine dec_step q (r + 1) (by omega) (by omega) (by omega) w (fun w => ?_)
   refine ih (q / 10) (by omega) (by omega) (.inl ?_) ?_ w
   ·rw [Nat.add_sub_cancel]
    omega
   ·omega
end Go.Proofs.YtfpcpociejefaaaGreatDoor
