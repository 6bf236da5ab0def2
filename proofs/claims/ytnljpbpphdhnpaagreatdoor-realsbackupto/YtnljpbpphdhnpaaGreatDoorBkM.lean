/- A float's digits, as the library tells them, lie where they are read as it, and are the fewest that do. -/
import Derived.Test.YtnljpbpphdhnpaaGreatDoorTxR
import Derived.Test.YtnljpbpphdhnpaaGreatDoorParD
namespace Go.Proofs.YtnljpbpphdhnpaaGreatDoor
open Go.RowKit Go.PlainAid

theorem lies_mid (L2 H2 o a b c : Nat) (h1 : a ≤ b) (h2 : b ≤ c) (ha : LiesI L2 H2 o a) (hc : LiesI L2 H2 o c) : LiesI L2 H2 o b := by
  unfold LiesI at *
  omega
theorem pow_out (d : Nat) : ∀ z, (∀ i, i < z → d / 10 ^ i % 10 = 0) → d = d / 10 ^ z * 10 ^ z := by
  intro z
  induction z with
  | zero => intro _; simp
  | succ z ih =>
    intro h
    have h1 := ih fun i hi => h i (by omega)
    have h2 := h z (by omega)
    rw [Nat.pow_succ, ← Nat.div_div_eq_div_mul]
    generalize d / 10 ^ z = y at *
    have h3 : y = y / 10 * 10 := by omega
    rw [h1]
    conv => lhs; rw [h3]
    rw [Nat.mul_assoc, Nat.mul_comm 10]
/-- without the noughts at the end it is the least -/
theorem strip_le (q z v i : Nat) (hq : q % 10 ≠ 0) (h : q * 10 ^ z = v * 10 ^ i) : q ≤ v := by
  rcases Nat.lt_or_ge z i with hi | hi
  · exfalso
    obtain ⟨j, rfl⟩ : ∃ j, i = z + 1 + j := ⟨i - z - 1, by omega⟩
    have e : v * 10 ^ (z + 1 + j) = v * 10 ^ j * 10 * 10 ^ z := by rw [Nat.pow_add, Nat.pow_add, Nat.pow_one]; ac_rfl
    rw [e] at h
    have := Nat.eq_of_mul_eq_mul_right (Nat.pow_pos (by decide)) h
    omega
  · obtain ⟨j, rfl⟩ : ∃ j, z = i + j := ⟨z - i, by omega⟩
    have e : q * 10 ^ (i + j) = q * 10 ^ j * 10 ^ i := by rw [Nat.pow_add]; ac_rfl
    rw [e] at h
    have := Nat.eq_of_mul_eq_mul_right (Nat.pow_pos (by decide)) h
    rw [← this]
    exact Nat.le_mul_of_pos_right _ (Nat.pow_pos (by decide))
theorem pow_lt (a b q : Nat) (h1 : 10 ^ (a - 1) ≤ q) (h2 : q < 10 ^ b) : a ≤ b := by
  have := (Nat.pow_lt_pow_iff_right (show 1 < 10 by decide)).1 (Nat.lt_of_le_of_lt h1 h2)
  omega
theorem fewest_is (n : Nat) (h1 : 1 ≤ n) (h2 : n < 2139095040) : ∃ q s P, IsD n q s P ∧ LiesI (l2N n) (h2N n) (n % 2) (q * tP P) ∧ ∀ v L P', 1 ≤ L → v < 10 ^ L → LiesI (l2N n) (h2N n) (n % 2) (v * tP P') → s ≤ L := by
  obtain ⟨sp, big, big10, hj⟩ := sp_of n h1 h2
  have hsh := shN_units n h1 h2 hj
  have hD := shD_told _ _ _ _ _ sp
  have thin := sp.thin
  rw [← hsh] at hD
  have hpF : pF n = ((91 - jF n : Nat) : Int) - 60 + ((shN n).2 : Int) := by unfold pF; omega
  have hdF : dF n = (shN n).1 := rfl
  rw [← hdF] at hD
  obtain ⟨d1, d2⟩ := dF_bounds n h1 h2
  obtain ⟨m1, m2, m3, m4⟩ := ndN_ok (dF n) d1 d2
  obtain ⟨t1, t2, t3, t4⟩ := tzN_ok (dF n) d1 d2
  have hd := pow_out (dF n) _ t3
  generalize hz : (shN n).2 = z0 at *
  clear hsh hdF big big10 sp
  generalize hq : dF n / 10 ^ tzN (dF n) = q at *
  have hIs : IsD n q (ndN (dF n) - tzN (dF n)) (91 - jF n + z0 + tzN (dF n)) := by
    refine ⟨by omega, ?_, ?_, t4, tzN (dF n), hd, by omega⟩
    · have : 10 ^ (ndN (dF n) - tzN (dF n) - 1) * 10 ^ tzN (dF n) ≤ q * 10 ^ tzN (dF n) := by
        rw [← hd, ← Nat.pow_add, show ndN (dF n) - tzN (dF n) - 1 + tzN (dF n) = ndN (dF n) - 1 by omega]
        exact m3
      exact Nat.le_of_mul_le_mul_right this (Nat.pow_pos (by decide))
    · have : q * 10 ^ tzN (dF n) < 10 ^ (ndN (dF n) - tzN (dF n)) * 10 ^ tzN (dF n) := by
        rw [← hd, ← Nat.pow_add, show ndN (dF n) - tzN (dF n) + tzN (dF n) = ndN (dF n) by omega]
        exact m4
      exact Nat.lt_of_mul_lt_mul_right this
  have hlow := hIs.2.1
  have hqd : q ≤ dF n := by rw [hd]; exact Nat.le_mul_of_pos_right _ (Nat.pow_pos (by decide))
  generalize ndN (dF n) - tzN (dF n) = s at *
  generalize tzN (dF n) = z at *
  generalize 91 - jF n = p0 at *
  refine ⟨q, s, p0 + z0 + z, hIs, ?_, ?_⟩
  · have e : q * tP (p0 + z0 + z) = dF n * tP (p0 + z0) := by
      rw [tP_add, ← Nat.mul_assoc, ← hd]
    rw [e]
    rcases hD with ⟨rfl, h⟩ | ⟨rfl, h, _⟩
    · rw [tP_add, Nat.pow_one]; exact h
    · exact h.liesI
  · intro v L P' hL hv hl
    clear hIs m1 m2 m3 m4 t1 t2 t3 d2 hpF hq
    have hM : ∀ i, 10 ^ i * (10 * tP p0) = 10 ^ (i + 1) * tP p0 := fun i => by rw [Nat.pow_succ, Nat.mul_assoc]
    by_cases hP : p0 + 1 ≤ P'
    · obtain ⟨i, rfl⟩ : ∃ i, P' = p0 + (1 + i) := ⟨P' - p0 - 1, by omega⟩
      have e : v * tP (p0 + (1 + i)) = v * 10 ^ i * (10 * tP p0) := by
        rw [tP_add, Nat.pow_add, Nat.pow_one]; ac_rfl
      rw [e] at hl
      rcases hD with ⟨_, h⟩ | ⟨_, _, h⟩
      · have hx := in_one _ _ _ _ _ _ thin h hl
        rw [hd] at hx
        have := strip_le q z v i t4 hx
        exact pow_lt s L q hlow (by omega)
      · exact absurd hl (h _)
    · have hle : v * tP P' ≤ 10 ^ L * tP p0 := by
        obtain ⟨j, rfl⟩ : ∃ j, p0 = P' + j := ⟨p0 - P', by omega⟩
        rw [tP_add]
        refine Nat.mul_le_mul (by omega) ?_
        exact Nat.le_mul_of_pos_left _ (Nat.pow_pos (by decide))
      rcases hD with ⟨_, h⟩ | ⟨_, h, hno⟩
      · rcases Nat.lt_or_ge (dF n) (10 ^ (L - 1)) with g | g
        · have := pow_lt s (L - 1) q hlow (by omega)
          omega
        · have hb : 10 ^ (L - 1) * (10 * tP p0) ≤ dF n * (10 * tP p0) := Nat.mul_le_mul_right _ g
          have hmid : LiesI (l2N n) (h2N n) (n % 2) (10 ^ (L - 1) * (10 * tP p0)) := by
            refine lies_mid _ _ _ _ _ _ ?_ hb hl h
            rw [hM, show L - 1 + 1 = L by omega]
            exact hle
          have hx := in_one _ _ _ _ _ _ thin h hmid
          rw [hd] at hx
          have h1' : q * 10 ^ z = 1 * 10 ^ (L - 1) := by omega
          have := strip_le q z 1 (L - 1) t4 h1'
          have h3 : q < 10 ^ 1 := by omega
          have := pow_lt s 1 q hlow h3
          omega
      · rcases Nat.lt_or_ge (dF n) (10 ^ L) with g | g
        · exact pow_lt s L q hlow (by omega)
        · exfalso
          refine hno (10 ^ (L - 1)) ?_
          refine lies_mid _ _ _ _ _ _ ?_ ?_ hl h.liesI
          · rw [hM, show L - 1 + 1 = L by omega]
            exact hle
          · rw [hM, show L - 1 + 1 = L by omega]
            exact Nat.mul_le_mul_right _ g
theorem dv_decL : ∀ m q, dvL (decL q m) = q % 10 ^ m
  | 0, q => by simp [decL, dvL, Nat.mod_one]
  | m + 1, q => by
    have h := dv_decL m (q / 10)
    rw [decL_succ, dv_snoc, h]
    have e : (UInt8.ofNat (48 + q % 10)).toNat - 48 = q % 10 := by
      rw [UInt8.toNat_ofNat']
      omega
    rw [e, Nat.pow_succ, Nat.mul_comm (10 ^ m) 10, Nat.mod_mul]
    omega
/-- what a row of digits says, the first at ten to k, as the real nearest to it -/
noncomputable def rdN (T : List UInt8) (k : Int) : Nat := nrst (dvL T * 10 ^ (k - ((T.length - 1 : Nat) : Int)).toNat) (10 ^ (((T.length - 1 : Nat) : Int) - k).toNat)
theorem rd_iff (n : Nat) (h1 : 1 ≤ n) (h2 : n < 2139095040) (T : List UInt8) (k : Int) (P : Nat) (hk : k - ((T.length - 1 : Nat) : Int) = (P : Int) - 60) : rdN T k = n ↔ LiesI (l2N n) (h2N n) (n % 2) (dvL T * tP P) := by
  unfold rdN nrst
  have hs := ten_scale (dvL T) P (k - ((T.length - 1 : Nat) : Int)) hk
  have e : -(k - ((T.length - 1 : Nat) : Int)) = ((T.length - 1 : Nat) : Int) - k := by omega
  rw [e] at hs
  exact near_iff n _ _ _ (dvL T) P (ten_pos _) h1 h2 hs (nrst_low _ _)
/-- a float's own digits are read as it -/
theorem back_is (n : Nat) (h1 : 1 ≤ n) (h2 : n < 2139095040) : rdN (digs n) (exF n) = n := by
  obtain ⟨q, s, P, hI, hl, _⟩ := fewest_is n h1 h2
  obtain ⟨e1, e2⟩ := isD_told n q s P h1 h2 hI
  have hlen : (digs n).length = s := by rw [e1, decL_len]
  refine (rd_iff n h1 h2 (digs n) (exF n) P ?_).2 ?_
  · rw [hlen, e2]
    have := hI.1
    omega
  · rw [e1, dv_decL, Nat.mod_eq_of_lt hI.2.2.1]
    exact hl
/-- fewer digits than a float's own are never read as it -/
theorem fewer_is (n : Nat) (h1 : 1 ≤ n) (h2 : n < 2139095040) (T : List UInt8) (k : Int) (hT : Dig T) (h0 : T ≠ []) (hk : -46 ≤ k) (h : rdN T k = n) : (digs n).length ≤ T.length := by
  obtain ⟨q, s, P, hI, _, hf⟩ := fewest_is n h1 h2
  obtain ⟨e1, _⟩ := isD_told n q s P h1 h2 hI
  have hlen : (digs n).length = s := by rw [e1, decL_len]
  have h10 := ndF_le n h1 h2
  have hL := digs_len n h1 h2
  have hp : 0 < T.length := List.length_pos_iff.2 h0
  rcases Nat.lt_or_ge 10 T.length with g | g
  · omega
  · rw [hlen]
    refine hf (dvL T) T.length (k - ((T.length - 1 : Nat) : Int) + 60).toNat hp (dv_lt T hT) ((rd_iff n h1 h2 T k _ ?_).1 h)
    omega
/-- the first and the last of them are no noughts -/
theorem digs_ends (n : Nat) (h1 : 1 ≤ n) (h2 : n < 2139095040) : ∃ c0 cs, digs n = c0 :: cs ∧ c0 ≠ 48 ∧ ∃ D x, digs n = D ++ [x] ∧ x ≠ 48 := by
  obtain ⟨q, s, P, hI, _, _⟩ := fewest_is n h1 h2
  obtain ⟨e1, _⟩ := isD_told n q s P h1 h2 hI
  obtain ⟨i1, i2, i3, i4, _⟩ := hI
  obtain ⟨m, rfl⟩ : ∃ m, s = m + 1 := ⟨s - 1, by omega⟩
  have hlast : digs n = decL (q / 10) m ++ [UInt8.ofNat (48 + q % 10)] := by rw [e1, decL_succ]
  have hx : UInt8.ofNat (48 + q % 10) ≠ 48 := fun e => by
    have := congrArg UInt8.toNat e
    rw [UInt8.toNat_ofNat'] at this
    simp at this
    omega
  have hfirst : (digs n)[0]? = some (UInt8.ofNat (48 + q / 10 ^ m % 10)) := by
    rw [e1]
    unfold decL
    rw [List.getElem?_map, List.getElem?_range (by omega)]
    show some (Lib.dg q (m + 1 - 1 - 0)) = _
    rw [show m + 1 - 1 - 0 = m by omega]
    rfl
  have hq : q / 10 ^ m % 10 ≠ 0 := by
    rw [Nat.add_sub_cancel] at i2
    have a1 : 1 ≤ q / 10 ^ m := (Nat.le_div_iff_mul_le (Nat.pow_pos (by decide))).2 (by omega)
    have a2 : q / 10 ^ m < 10 := (Nat.div_lt_iff_lt_mul (Nat.pow_pos (by decide))).2 (by rw [Nat.mul_comm, ← Nat.pow_succ]; exact i3)
    omega
  cases hE : digs n with
  | nil => rw [hE] at hfirst; cases hfirst
  | cons c0 cs =>
    rw [hE] at hfirst
    have hc : c0 = UInt8.ofNat (48 + q / 10 ^ m % 10) := by
      simpa using hfirst
    refine ⟨c0, cs, rfl, ?_, decL (q / 10) m, _, by rw [← hE, hlast], hx⟩
    rw [hc]
    intro e
    have := congrArg UInt8.toNat e
    rw [UInt8.toNat_ofNat'] at this
    simp at this
    omega
end Go.Proofs.YtnljpbpphdhnpaaGreatDoor
