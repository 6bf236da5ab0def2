/- Whole numbers as reals multiplied; the library's exact way for short numbers. -/
import Derived.Test.YtnljpbpphdhnpaaGreatDoorUzT
import Derived.Test.YtnljpbpphdhnpaaGreatDoorTxB
import Derived.Test.YtnljpbpphdhnpaaGreatDoorRlA
import Derived.Lib.ItoaNum
import Derived.Lib.TrimByte
import Derived.Test.YtnljpbpphdhnpaaGreatDoorPsC

namespace Go.Proofs.YtnljpbpphdhnpaaGreatDoor
open Go.RowKit Go.PlainAid

theorem read_short (x : Nat) (h : rungN x < 2139095040) : ∃ m : Nat, ∃ up : Nat, Ieee.single.read x = .number (x / 2147483648 % 2 == 1) m (-149 + (up : Int)) ∧ m * 2 ^ up = valN (rungN x) ∧ m < 2 ^ 24 := by
  have e1 : Ieee.single.signWeight = 2147483648 := by decide
  have e2 : Ieee.single.binade = 8388608 := by decide
  have e3 : Ieee.single.infRung = 2139095040 := by decide
  have e4 : Ieee.single.leastPlace = -149 := by decide
  unfold rungN at h ⊢
  unfold Ieee.Format.read valN
  simp only [e1, e2, e3, e4]
  by_cases hb : x % 2147483648 < 8388608
  · rw [if_pos hb, if_pos hb]
    exact ⟨x % 2147483648, 0, by simp, by simp, by omega⟩
  · rw [if_neg hb, if_pos h, if_neg hb]
    exact ⟨_, _, rfl, rfl, by omega⟩
theorem up_big (m up A : Nat) (h : m * 2 ^ up = A * P149) (hA : 0 < A) (hm : m < 2 ^ 24) : 125 < up := by
  refine Decidable.byContradiction fun hu => ?_
  have h1 : 2 ^ up ≤ 2 ^ 125 := Nat.pow_le_pow_right (by omega) (by omega)
  have h2 : m * 2 ^ up < 2 ^ 24 * 2 ^ 125 := Nat.lt_of_le_of_lt (Nat.mul_le_mul_left m h1) (Nat.mul_lt_mul_of_pos_right hm (Nat.two_pow_pos _))
  have h3 : 2 ^ 24 * 2 ^ 125 = P149 := by unfold P149; rw [← Nat.pow_add]
  have h4 : 1 * P149 ≤ A * P149 := Nat.mul_le_mul_right _ hA
  rw [h, h3] at h2
  omega
theorem four_by (m m' X Y A B p : Nat) (h1 : m * X = A * p) (h2 : m' * Y = B * p) : m * m' * (X * Y) = A * B * p * p := by
  rw [Nat.mul_mul_mul_comm, h1, h2, Nat.mul_mul_mul_comm, Nat.mul_assoc (A * B)]
theorem mul_whole (a c A B : Nat) (ha : a < 2139095040) (hc : c < 2139095040) (va : valN a = A * P149) (vc : valN c = B * P149) (hA : 0 < A) (hB : 0 < B) :
    floatBits .mul .f32 a c = some (rndR (A * B * P149)) := by
  show Ieee.single.mul a c = _
  have ra : rungN a = a := by unfold rungN; omega
  have rc : rungN c = c := by unfold rungN; omega
  obtain ⟨m, i, h1, h2, h3⟩ := read_short a (by omega)
  obtain ⟨m', j, k1, k2, k3⟩ := read_short c (by omega)
  rw [ra, va] at h2
  rw [rc, vc] at k2
  have hi := up_big m i A h2 hA h3
  have hj := up_big m' j B k2 hB k3
  have s1 : (a / 2147483648 % 2 == 1) = false := by simp; omega
  have s2 : (c / 2147483648 % 2 == 1) = false := by simp; omega
  unfold Ieee.Format.mul
  rw [h1, k1, s1, s2]
  simp only [Ieee.Datum.product, Option.map_some, Ieee.Format.write]
  have e : (-149 + (i : Int) + (-149 + (j : Int))) = -149 + ((i + j - 149 : Nat) : Int) := by omega
  rw [e, nearest_rnd]
  have hp : m * m' * 2 ^ (i + j - 149) = A * B * P149 := by
    have h5 : m * m' * 2 ^ (i + j - 149) * P149 = A * B * P149 * P149 := by
      have e5 : (2 : Nat) ^ (i + j - 149) * P149 = 2 ^ i * 2 ^ j := by
        unfold P149
        rw [← Nat.pow_add, ← Nat.pow_add, show i + j - 149 + 149 = i + j by omega]
      rw [Nat.mul_assoc, e5]
      exact four_by m m' _ _ A B P149 h2 k2
    exact Nat.eq_of_mul_eq_mul_right p149_pos h5
  rw [hp]
  have hr := rndR_le (A * B * P149)
  generalize rndR (A * B * P149) = r at *
  unfold Ieee.Format.word
  simp

theorem fromI_nat (n : Nat) : fromI (n : Int) = rndR (n * P149) := by
  rw [fromI_p, if_neg (by omega)]; simp
/-- a whole number that a real holds -/
theorem held (n : Nat) (h0 : 0 < n) (h : n ≤ 16777216) : valN (rndR (n * P149)) = n * P149 ∧ rndR (n * P149) < 2139095040 := by
  obtain ⟨a1, a2, a3, a4, a5⟩ := near_whole n h0 (by omega)
  exact ⟨a5 h, by omega⟩
theorem ten_held : ∀ k, k ≤ 10 → valN (rndR (10 ^ k * P149)) = 10 ^ k * P149 ∧ rndR (10 ^ k * P149) < 2139095040 := by
  decide
theorem seven : rndR (10000000 * P149) = 1259902592 := by decide
/-- beside ten to the power seven -/
theorem gt_seven (n : Nat) (h0 : 0 < n) (hn : n ≤ 9223372036854775808) : (FloatKind.f32.format.order (rndR (n * P149)) 1259902592 == some Ordering.gt) = decide (10000000 < n) ∧ (FloatKind.f32.format.order (rndR (n * P149)) 3407386240 == some Ordering.lt) = false := by
  obtain ⟨a1, a2, a3, a4, a5⟩ := near_whole n h0 hn
  have n1 : nanB (rndR (n * P149)) = false := nan_pos _ (by omega)
  have v7 : svalZ 1259902592 = ((10000000 * P149 : Nat) : Int) := by decide
  have v8 : svalZ 3407386240 = -((10000000 * P149 : Nat) : Int) := by decide
  have vx : svalZ (rndR (n * P149)) = (valN (rndR (n * P149)) : Int) := sval_pos _ (by omega)
  obtain ⟨f1, f2, f3⟩ := ord_facts (rndR (n * P149)) 1259902592 n1 (by decide)
  obtain ⟨g1, g2, g3⟩ := ord_facts (rndR (n * P149)) 3407386240 n1 (by decide)
  rw [f2, g1, v7, v8, vx]
  refine ⟨?_, decide_eq_false (by omega)⟩
  by_cases h : 10000000 < n
  · rw [decide_eq_true h]
    refine decide_eq_true ?_
    by_cases hs : n ≤ 16777216
    · rw [a5 hs]
      have := Nat.mul_lt_mul_of_pos_right h p149_pos
      omega
    · have h1 := rndR_mono (Nat.mul_le_mul_right P149 (show 16777216 ≤ n by omega))
      have h2 : rndR (16777216 * P149) = 1266679808 := by decide
      have h3 : valN 1266679808 = 16777216 * P149 := by decide
      rw [h2] at h1
      have h4 : valN 1266679808 ≤ valN (rndR (n * P149)) := by
        rcases Nat.lt_or_eq_of_le h1 with h | h
        · exact Nat.le_of_lt (valN_lt h)
        · rw [← h]; exact Nat.le_refl _
      rw [h3] at h4
      have h5 : 10000000 * P149 < 16777216 * P149 := Nat.mul_lt_mul_of_pos_right (by decide) p149_pos
      omega
  · rw [decide_eq_false h]
    refine decide_eq_false ?_
    rw [a5 (by omega)]
    have := Nat.mul_le_mul_right P149 (show n ≤ 10000000 by omega)
    omega
end Go.Proofs.YtnljpbpphdhnpaaGreatDoor


/- A real of 32 bits as one of 64 and back; the library's exact way for short numbers, whole. -/
namespace Go.Proofs.YtnljpbpphdhnpaaGreatDoor
open Go.RowKit Go.PlainAid

theorem near_wide (m : Nat) (e : Int) (h0 : 0 < m) (hm : m < 16777216) (he : -149 ≤ e) (he2 : e ≤ 104) : Ieee.double.nearest false m e = wD (m * 2 ^ (52 - m.log2)) ((m.log2 : Int) + e) := by
  obtain ⟨c1, c2, c3, c4⟩ := dconsts
  obtain ⟨_, k1, k2, k3⟩ := nearS m h0 hm
  generalize hl : m.log2 = L at *
  unfold Ieee.Format.nearest
  rw [if_neg (by omega)]
  simp only [c1, c2, c3, hl, show Ieee.double.fractionBits = 52 from rfl]
  rw [show max (e + (L : Int) - ((52 : Nat) : Int)) (-1074) = e + (L : Int) - 52 by omega]
  rw [show (e - (e + (L : Int) - 52)).toNat = 52 - L by omega, show ((e + (L : Int) - 52) - e).toNat = 0 by omega, Nat.shiftLeft_eq]
  have hcut : Ieee.Toward.cut .even false (m * 2 ^ (52 - L)) 0 = m * 2 ^ (52 - L) := by
    unfold Ieee.Toward.cut
    simp [Nat.mod_one]
  rw [hcut, show ((e + (L : Int) - 52) - -1074).toNat = ((L : Int) + e + 1022).toNat by omega]
  unfold Ieee.Format.word wD
  simp only [Bool.false_eq_true, if_false]
  rw [Nat.min_eq_left]
  have : ((L : Int) + e + 1022).toNat ≤ 1149 := by omega
  omega
theorem read_atQ (n : Nat) (h : n < 2139095040) : Ieee.single.read n = .number false (atM n) (atE n) := by
  have e1 : Ieee.single.signWeight = 2147483648 := by decide
  have e2 : Ieee.single.binade = 8388608 := by decide
  have e3 : Ieee.single.infRung = 2139095040 := by decide
  have e4 : Ieee.single.leastPlace = -149 := by decide
  unfold Ieee.Format.read atM atE
  simp only [e1, e2, e3, e4]
  rw [show n % 2147483648 = n by omega, show n / 2147483648 % 2 = 0 by omega]
  by_cases hb : n < 8388608
  · rw [if_pos hb, if_pos hb, if_pos hb]; rfl
  · rw [if_neg hb, if_pos h, if_neg hb, if_neg hb]
    congr 1
    omega
/-- widened -/
theorem fD_wide (n : Nat) (h : n < 2139095040) : floatToFloatBits .f32 n .f64 = some (fD n (atE n)) := by
  unfold floatToFloatBits
  rw [if_neg (by decide)]
  show (match Ieee.single.read n with | .nan _ _ => none | .infinity s => some (Ieee.double.write (.infinity s)) | .number s m e => if (Ieee.double.read (Ieee.double.write (.number s m e))).isInfinity then none else some (Ieee.double.write (.number s m e))) = _
  rw [read_atQ n h]
  simp only []
  by_cases h0 : atM n = 0
  · have hn : n = 0 := by unfold atM at h0; split at h0 <;> omega
    subst hn
    decide
  · have a1 := atE_lo n
    have a2 := atE_hi n h
    obtain ⟨_, k1, k2, k3⟩ := nearS (atM n) (by omega) (atM_lt n)
    have hw : Ieee.double.write (.number false (atM n) (atE n)) = fD n (atE n) := by
      unfold fD
      rw [if_neg h0]
      exact near_wide (atM n) (atE n) (by omega) (atM_lt n) a1 a2
    rw [hw]
    have hr : Ieee.double.read (fD n (atE n)) = .number false (atM n * 2 ^ (52 - (atM n).log2)) (((atM n).log2 : Int) + atE n - 52) := by
      unfold fD
      rw [if_neg h0]
      exact readD _ _ k1 k2 (by omega) (by omega)
    rw [hr]
    rfl

/-- what the exact way answers -/
def ExA (R : Nat) (e : Ending) : Prop := (∃ f, e = .returned (.tuple #[.float .f32 f, .bool false])) ∨ e = .returned (.tuple #[.float .f32 R, .bool true])

theorem exact_any (d p : Nat) (hd0 : 0 < d) (hd : d < 18446744073709551616) (hp : p ≤ 18) (w : World) (hT : TabF w) :
    Calls Tryz.prog 157 #[.int .u64 (d : Int), .int .i64 (p : Int), .bool false] w fun e w' => ExA (rndR (d * 10 ^ p * P149)) e ∧ w' = w := by
  obtain ⟨g, o, cap, hv, hk⟩ := hT
  by_cases hl : 8388608 ≤ d
  · refine (exact_long d p w hl hd).mono ?_
    rintro e w' ⟨rfl, hw⟩
    exact ⟨.inl ⟨_, rfl⟩, hw⟩
  · have hc : ∀ w, (convert 65 22 (.int .u64 (d : Int))).run Tryz.prog w = .ok (.float .f32 (rndR (d * P149))) w := fun w => by
      rw [← fromI_nat, ← fromI_float]; exact run_convert_int_float w 65 22 .u64 .f32 _ (by kernel_rfl) Tryz.underlying22
    obtain ⟨v1, v2⟩ := held d hd0 (by omega)
    have hk' : ∀ k, k ≤ 10 → w.cell? ⟨g, o + k, none⟩ = some (.float .f32 (rndR (10 ^ k * P149))) := fun k h => by
      have := hk k h
      rwa [fromI_nat] at this
    have hmul : ∀ (n k : Nat), 0 < n → n ≤ 16777216 → k ≤ 10 → ∀ w, (binOp .mul 22 (.float .f32 (rndR (n * P149))) (.float .f32 (rndR (10 ^ k * P149)))).run Tryz.prog w = .ok (.float .f32 (rndR (n * 10 ^ k * P149))) w := fun n k h0 h1 h2 w => by
      obtain ⟨a1, a2⟩ := held n h0 h1
      obtain ⟨b1, b2⟩ := ten_held k h2
      exact run_float_arith (P := Tryz.prog) w .mul 23 .f32 _ _ _ (mul_whole _ _ n (10 ^ k) a2 b2 a1 b1 h0 (Nat.pow_pos (by decide)))
    by_cases h0 : p = 0
    · subst h0
      refine (exact_zero d _ w (by omega) hc).mono ?_
      rintro e w' ⟨rfl, hw⟩
      exact ⟨.inr (by rw [Nat.pow_zero, Nat.mul_one]), hw⟩
    · by_cases h10 : p ≤ 10
      · obtain ⟨t1, t2⟩ := gt_seven d hd0 (by omega)
        rw [decide_eq_false (by omega)] at t1
        refine (exact_mid d p _ _ _ g o cap w (by omega) (by omega) h10 hc hv (hk' p h10) (hmul d p hd0 (by omega) h10) t1 t2).mono ?_
        rintro e w' ⟨rfl, hw⟩
        exact ⟨.inr rfl, hw⟩
      · by_cases h18 : p = 18
        · refine (exact_18 d p _ w (by omega) h18 hc).mono ?_
          rintro e w' ⟨rfl, hw⟩
          exact ⟨.inl ⟨_, rfl⟩, hw⟩
        · have hq : p = (p - 10) + 10 := by omega
          have hb : 10 ^ (p - 10) ≤ 10 ^ 7 := Nat.pow_le_pow_right (by decide) (by omega)
          have hpos : 0 < 10 ^ (p - 10) := Nat.pow_pos (by decide)
          have hn0 : 0 < d * 10 ^ (p - 10) := Nat.mul_pos hd0 hpos
          have hn1 : d * 10 ^ (p - 10) ≤ 8388607 * 10 ^ 7 := Nat.mul_le_mul (by omega) hb
          obtain ⟨t1, t2⟩ := gt_seven (d * 10 ^ (p - 10)) hn0 (by omega)
          by_cases h7 : 10000000 < d * 10 ^ (p - 10)
          · rw [decide_eq_true h7] at t1
            refine (exact_not d p (p - 10) _ _ _ g o cap w (by omega) (by omega) (by omega) (by omega) hc hv (hk' (p - 10) (by omega)) (hmul d (p - 10) hd0 (by omega) (by omega)) t1).mono ?_
            rintro e w' ⟨rfl, hw⟩
            exact ⟨.inl ⟨_, rfl⟩, hw⟩
          · rw [decide_eq_false h7] at t1
            refine (exact_far d p (p - 10) _ _ _ _ _ g o cap w (by omega) (by omega) (by omega) (by omega) hc hv (hk' (p - 10) (by omega)) (hk' 10 (by omega)) (hmul d (p - 10) hd0 (by omega) (by omega)) (hmul (d * 10 ^ (p - 10)) 10 hn0 (by omega) (by omega)) t1 t2).mono ?_
            rintro e w' ⟨rfl, hw⟩
            refine ⟨.inr ?_, hw⟩
            rw [Nat.mul_assoc d, ← Nat.pow_add, ← hq]
end Go.Proofs.YtnljpbpphdhnpaaGreatDoor


/- Decimal digits: the number that they say, noughts at their end. -/
namespace Go.Proofs.YtnljpbpphdhnpaaGreatDoor
open Go.RowKit Go.PlainAid

/-- the number that digits say -/
def dvL (l : List UInt8) : Nat := l.foldl (fun a c => a * 10 + (c.toNat - 48)) 0
theorem dv_snoc (l : List UInt8) (c : UInt8) : dvL (l ++ [c]) = dvL l * 10 + (c.toNat - 48) := by
  unfold dvL; rw [List.foldl_append]; rfl
theorem dv_dec (u : Nat) : dvL (Lib.decDigits u) = u := by
  induction u using Nat.strongRecOn with
  | _ u ih =>
    rw [Lib.decDigits]
    split
    · rename_i h
      have : (UInt8.ofNat (48 + u)).toNat = 48 + u := by simp; omega
      simp only [dvL, List.foldl_cons, List.foldl_nil, this]; omega
    · rename_i h
      have : (UInt8.ofNat (48 + u % 10)).toNat = 48 + u % 10 := by simp; omega
      rw [dv_snoc, ih (u / 10) (by omega), this]; omega
theorem dec_digit (u : Nat) : ∀ c ∈ Lib.decDigits u, 48 ≤ c.toNat ∧ c.toNat ≤ 57 := by
  induction u using Nat.strongRecOn with
  | _ u ih =>
    intro c hc
    rw [Lib.decDigits] at hc
    split at hc
    · rename_i h
      have : (UInt8.ofNat (48 + u)).toNat = 48 + u := by simp; omega
      rw [List.mem_singleton.1 hc, this]; omega
    · rename_i h
      have : (UInt8.ofNat (48 + u % 10)).toNat = 48 + u % 10 := by simp; omega
      rcases List.mem_append.1 hc with hc | hc
      · exact ih (u / 10) (by omega) c hc
      · rw [List.mem_singleton.1 hc, this]; omega
theorem dec_head (u : Nat) (hu : 0 < u) : ∃ c cs, Lib.decDigits u = c :: cs ∧ 49 ≤ c.toNat := by
  induction u using Nat.strongRecOn with
  | _ u ih =>
    rw [Lib.decDigits]
    split
    · rename_i h
      have : (UInt8.ofNat (48 + u)).toNat = 48 + u := by simp; omega
      exact ⟨_, [], rfl, by rw [this]; omega⟩
    · rename_i h
      obtain ⟨c, cs, e, hc⟩ := ih (u / 10) (by omega) (by omega)
      exact ⟨c, cs ++ [UInt8.ofNat (48 + u % 10)], by rw [e]; rfl, hc⟩
theorem dec_len (u : Nat) (h : u < 10 ^ 19) : 1 ≤ (Lib.decDigits u).length ∧ (Lib.decDigits u).length ≤ 19 := by
  rw [Lib.decDigits_length]
  refine ⟨Lib.nDigits_pos u, ?_⟩
  by_cases h0 : u = 0
  · rw [h0, Lib.nDigits_small (by omega)]; omega
  · have : ∀ (k u : Nat), u < 10 ^ k → 0 < k → Lib.nDigits u ≤ k := by
      intro k
      induction k with
      | zero => intro u _ h; omega
      | succ k ih =>
        intro u hu _
        by_cases h10 : u < 10
        · rw [Lib.nDigits_small h10]; omega
        · rw [Lib.nDigits_big h10]
          rw [Nat.pow_succ] at hu
          have hk : 0 < k := by
            rcases Nat.eq_zero_or_pos k with rfl | h
            · simp at hu; omega
            · exact h
          have := ih (u / 10) (by omega) hk
          omega
    exact this 19 u h (by omega)
/-- digits with no nought at the end, and the noughts behind them -/
theorem cut_noughts (l : List UInt8) : ∃ j, Lib.trimRightB l 48 ++ List.replicate j 48 = l ∧ (Lib.trimRightB l 48).length + j = l.length := by
  have h : ∀ m : List UInt8, ∃ j, List.replicate j 48 ++ m.dropWhile (· == 48) = m := by
    intro m
    induction m with
    | nil => exact ⟨0, rfl⟩
    | cons c m ih =>
      by_cases hc : c = 48
      · obtain ⟨j, hj⟩ := ih
        refine ⟨j + 1, ?_⟩
        rw [hc, List.dropWhile_cons_of_pos (by simp), List.replicate_succ, List.cons_append, hj]
      · exact ⟨0, by rw [List.dropWhile_cons_of_neg (by simpa using hc)]; rfl⟩
  obtain ⟨j, hj⟩ := h l.reverse
  have e : Lib.trimRightB l 48 ++ List.replicate j 48 = l := by
    unfold Lib.trimRightB
    have := congrArg List.reverse hj
    rwa [List.reverse_append, List.reverse_reverse, List.reverse_replicate] at this
  refine ⟨j, e, ?_⟩
  have := congrArg List.length e
  simpa using this
theorem dv_noughts (l : List UInt8) : ∀ j, dvL (l ++ List.replicate j 48) = dvL l * 10 ^ j
  | 0 => by simp
  | j + 1 => by
    rw [List.replicate_succ', ← List.append_assoc, dv_snoc, dv_noughts l j, Nat.pow_succ, Nat.mul_assoc]; simp
theorem dv_lt (l : List UInt8) (h : ∀ c ∈ l, 48 ≤ c.toNat ∧ c.toNat ≤ 57) : dvL l < 10 ^ l.length := by
  suffices ∀ (m : List UInt8) (hm : ∀ c ∈ m, 48 ≤ c.toNat ∧ c.toNat ≤ 57), dvL m.reverse < 10 ^ m.length by
    have := this l.reverse (fun c hc => h c (List.mem_reverse.1 hc))
    simpa using this
  intro m
  induction m with
  | nil => intro _; simp [dvL]
  | cons c m ih =>
    intro hm
    have h1 := ih (fun x hx => hm x (List.mem_cons_of_mem _ hx))
    have h2 := hm c (List.mem_cons_self ..)
    rw [List.reverse_cons, dv_snoc, List.length_cons, Nat.pow_succ]
    omega
theorem trimR_zero (l : List UInt8) : Lib.trimRightB (l ++ [48]) 48 = Lib.trimRightB l 48 := by
  unfold Lib.trimRightB
  rw [List.reverse_append]
  rfl
end Go.Proofs.YtnljpbpphdhnpaaGreatDoor


/- The library's reading of digits about a point, an e and digits; the real of that text. -/
namespace Go.Proofs.YtnljpbpphdhnpaaGreatDoor
open Go.RowKit Go.PlainAid

/-- a text by its bytes -/
def bl (l : List UInt8) : ByteArray := ⟨l.toArray⟩
theorem bl_size (l : List UInt8) : (bl l).size = l.length := by unfold bl; simp [ByteArray.size]
theorem bl_bt (l : List UInt8) (k : Nat) (h : k < l.length) : bt (bl l) k = ((l[k]).toNat : Int) := by
  unfold bt
  rw [dif_pos (by rw [bl_size]; exact h)]
  rfl
theorem bl_app (a b : List UInt8) : bl a ++ bl b = bl (a ++ b) := by
  apply ByteArray.ext
  unfold bl
  simp [ByteArray.data_append]
theorem bl_data (l : List UInt8) : (bl l).data.toList = l := by unfold bl; simp

/-- the text that the library is handed -/
def numT (c0 : UInt8) (cs es : List UInt8) : List UInt8 := c0 :: 46 :: (cs ++ 101 :: es)
def Dig (l : List UInt8) : Prop := ∀ c ∈ l, 48 ≤ c.toNat ∧ c.toNat ≤ 57

theorem num_at (c0 : UInt8) (cs es : List UInt8) (k : Nat) (h : k < (numT c0 cs es).length) :
    bt (bl (numT c0 cs es)) k = ((numT c0 cs es)[k].toNat : Int) := bl_bt _ k h
theorem num_len (c0 : UInt8) (cs es : List UInt8) : (numT c0 cs es).length = cs.length + es.length + 3 := by
  unfold numT; simp; omega

theorem run_d (c0 : UInt8) (cs es : List UInt8) (h0 : 49 ≤ c0.toNat ∧ c0.toNat ≤ 57) (hc : Dig cs) (hl : cs.length ≤ 18) :
    RunD (bl (numT c0 cs es)) (2 + cs.length) (fun k => if k = 0 then 0 else (dvL (c0 :: cs.take (k - 2)) : Int)) (fun k => if k = 0 then 0 else 1 + ((k - 2 : Nat) : Int)) (fun k => if k ≤ 1 then 0 else 1) (fun k => decide (2 ≤ k)) := by
  intro k hk
  have hlen := num_len c0 cs es
  rw [num_at c0 cs es k (by omega)]
  rcases Nat.lt_or_ge k 2 with h2 | h2
  · have : k = 0 ∨ k = 1 := by omega
    rcases this with rfl | rfl
    · right
      have e : (numT c0 cs es)[0] = c0 := rfl
      rw [e]
      simp only [dvL, List.foldl_cons]
      simp
      omega
    · left
      have e : (numT c0 cs es)[1] = 46 := rfl
      rw [e]
      simp
  · right
    obtain ⟨j, rfl⟩ : ∃ j, k = j + 2 := ⟨k - 2, by omega⟩
    have hj : j < cs.length := by omega
    have e : (numT c0 cs es)[j + 2]'(by omega) = cs[j] := by
      unfold numT
      simp only [List.getElem_cons_succ]
      exact List.getElem_append_left hj
    rw [e]
    have hd := hc cs[j] (List.getElem_mem hj)
    have hlt : dvL (c0 :: cs.take j) < 10 ^ (1 + j) := by
      have := dv_lt (c0 :: cs.take j) (by
        intro c hc'
        rcases List.mem_cons.1 hc' with rfl | hc'
        · omega
        · exact hc c (List.mem_of_mem_take hc'))
      simpa [Nat.min_eq_left (Nat.le_of_lt hj), Nat.add_comm] using this
    have hle : 10 ^ (1 + j) ≤ 10 ^ 18 := Nat.pow_le_pow_right (by decide) (by omega)
    have hs : dvL (c0 :: cs.take (j + 1)) = dvL (c0 :: cs.take j) * 10 + (cs[j].toNat - 48) := by
      rw [← dv_snoc, List.take_succ_eq_append_getElem hj]; rfl
    simp only [show j + 2 - 2 = j by omega, show j + 2 + 1 - 2 = j + 1 by omega, show ¬ (j + 2 = 0) by omega, show ¬ (j + 2 + 1 = 0) by omega, if_false, show ¬ (j + 2 ≤ 1) by omega, show ¬ (j + 2 + 1 ≤ 1) by omega]
    rw [hs]
    refine ⟨by omega, by omega, by omega, by omega, by omega, by omega, by omega, by omega, by omega, trivial, ?_⟩
    simp

theorem run_e (c0 : UInt8) (cs es : List UInt8) (he : Dig es) (hl : es.length ≤ 2) :
    RunE (bl (numT c0 cs es)) (2 + cs.length + 1) (bl (numT c0 cs es)).size (fun k => (dvL (es.take (k - (2 + cs.length + 1))) : Int)) := by
  intro k h1 h2
  have hlen := num_len c0 cs es
  rw [bl_size] at h2
  obtain ⟨j, rfl⟩ : ∃ j, k = 2 + cs.length + 1 + j := ⟨k - (2 + cs.length + 1), by omega⟩
  have hj : j < es.length := by omega
  rw [num_at c0 cs es _ h2]
  have e : (numT c0 cs es)[2 + cs.length + 1 + j] = es[j] := by
    unfold numT
    simp only [show 2 + cs.length + 1 + j = (cs.length + (j + 1)) + 1 + 1 by omega, List.getElem_cons_succ]
    rw [List.getElem_append_right (by omega)]
    simp
  rw [e]
  have hd := he es[j] (List.getElem_mem hj)
  have hlt : dvL (es.take j) < 10 ^ j := by
    have := dv_lt (es.take j) (fun c hc' => he c (List.mem_of_mem_take hc'))
    simpa [Nat.min_eq_left (Nat.le_of_lt hj)] using this
  have hle : 10 ^ j ≤ 10 ^ 2 := Nat.pow_le_pow_right (by decide) (by omega)
  have hs : dvL (es.take (j + 1)) = dvL (es.take j) * 10 + (es[j].toNat - 48) := by
    rw [← dv_snoc, List.take_succ_eq_append_getElem hj]
  simp only [show 2 + cs.length + 1 + j - (2 + cs.length + 1) = j by omega, show 2 + cs.length + 1 + j + 1 - (2 + cs.length + 1) = j + 1 by omega]
  rw [hs]
  omega

theorem read_any (c0 : UInt8) (cs es : List UInt8) (h0 : 49 ≤ c0.toNat ∧ c0.toNat ≤ 57) (hc : Dig cs) (hl : cs.length ≤ 18) (he : Dig es) (hle : es.length ≤ 2) (hes : 0 < es.length) (w : World) :
    Calls Tryz.prog 153 #[.string (bl (numT c0 cs es))] w fun e w' => e = .returned (.tuple #[.int .u64 (dvL (c0 :: cs) : Int), .int .i64 ((dvL es : Int) - (cs.length : Int)), .bool false, .bool false, .bool false, .int .i64 ((bl (numT c0 cs es)).size : Nat), .bool true]) ∧ w' = w := by
  have hlen := num_len c0 cs es
  have hdv : dvL es < 100 := by
    have h1 := dv_lt es he
    have h2 : 10 ^ es.length ≤ 10 ^ 2 := Nat.pow_le_pow_right (by decide) hle
    omega
  have hpos : 0 < dvL (c0 :: cs) := by
    have : ∀ (l : List UInt8) (a : Nat), 0 < a → 0 < l.foldl (fun a c => a * 10 + (c.toNat - 48)) a := by
      intro l
      induction l with
      | nil => intro a h; exact h
      | cons c l ih => intro a h; exact ih _ (Nat.lt_of_lt_of_le (show 0 < a * 10 by omega) (Nat.le_add_right _ _))
    exact this cs _ (by simp; omega)
  have h := readFloat_any (bl (numT c0 cs es)) (2 + cs.length) _ _ _ _ _ w (by rw [bl_size]; omega) (run_d c0 cs es h0 hc hl) (by simp) (by omega)
    (by rw [num_at c0 cs es 0 (by omega)]; show 49 ≤ (c0.toNat : Int) ∧ (c0.toNat : Int) ≤ 57; omega)
    (by
      simp only [show ¬ (2 + cs.length = 0) by omega, if_false, show ¬ (2 + cs.length ≤ 1) by omega, show 2 + cs.length - 2 = cs.length by omega, List.take_length]
      refine ⟨by simp, by omega, by omega, by omega, by omega, by omega⟩)
    (by
      rw [num_at c0 cs es _ (by omega)]
      have e : (numT c0 cs es)[2 + cs.length]'(by omega) = 101 := by
        unfold numT
        simp only [show 2 + cs.length = cs.length + 1 + 1 by omega, List.getElem_cons_succ]
        rw [List.getElem_append_right (by omega)]
        simp
      rw [e]; rfl)
    (by rw [bl_size]; omega) (run_e c0 cs es he hle) (by simp [dvL])
    (by
      rw [bl_size, hlen, show cs.length + es.length + 3 - (2 + cs.length + 1) = es.length by omega, List.take_length]
      omega)
  simp only [show ¬ (2 + cs.length = 0) by omega, if_false, show ¬ (2 + cs.length ≤ 1) by omega, show 2 + cs.length - 2 = cs.length by omega, List.take_length] at h
  rw [bl_size, hlen, show cs.length + es.length + 3 - (2 + cs.length + 1) = es.length by omega, List.take_length, show (1 : Int) + (dvL es : Int) - (1 + (cs.length : Int)) = (dvL es : Int) - (cs.length : Int) by omega] at h
  rw [bl_size, hlen]
  exact h
end Go.Proofs.YtnljpbpphdhnpaaGreatDoor


/- The library's ParseFloat of digits about a point and a power: the real nearest to the number. -/
namespace Go.Proofs.YtnljpbpphdhnpaaGreatDoor
open Go.RowKit Go.PlainAid

set_option maxRecDepth 1000000 in
theorem special_dig (s : ByteArray) (hn : 0 < s.size) (h : 48 ≤ bt s 0 ∧ bt s 0 ≤ 57) (w : World) : Calls Tryz.prog 152 #[.string s] w fun e w' => e = .returned (.tuple #[.float .f64 0, .int .i64 0, .bool false]) ∧ w' = w := by
  have g0 : ((s[0]'hn).toNat : Int) = bt s 0 := get_bt s 0 hn
  have tn : ¬ s = ByteArray.empty := by intro e; rw [e] at hn; exact absurd hn (by decide)
  have t1 : (bt s 0 == 43) = false := by simp; omega
  have t2 : (bt s 0 == 45) = false := by simp; omega
  have t3 : (bt s 0 == 105) = false := by simp; omega
  have t4 : (bt s 0 == 73) = false := by simp; omega
  have t5 : (bt s 0 == 110) = false := by simp; omega
  have t6 : (bt s 0 == 78) = false := by simp; omega
  generalize bt s 0 = c at *
  clear h
  go_enter Tryz.func152, Tryz.ntmps152
  go_wp2
  go_ret3
  exact ⟨rfl, rfl⟩

/-- what the library's tables hold, as far as a power is asked for -/
structure Tabq (w : World) (p : Nat) : Prop where
  pw : TabP w p
  fl : TabF w
  opt : w.cell? ⟨5, 0, none⟩ = some (.bool true)

set_option maxRecDepth 1000000 in
set_option maxHeartbeats 1000000 in
theorem atof32_raw (s : ByteArray) (d p R : Nat) (w : World) (hd : (d : Int) ≠ 0) (hp : p ≤ 18) (hS : ∀ w, Calls Tryz.prog 152 #[.string s] w fun e w' => e = .returned (.tuple #[.float .f64 0, .int .i64 0, .bool false]) ∧ w' = w)
    (hR : ∀ w, Calls Tryz.prog 153 #[.string s] w fun e w' => e = .returned (.tuple #[.int .u64 (d : Int), .int .i64 (p : Int), .bool false, .bool false, .bool false, .int .i64 (s.size : Nat), .bool true]) ∧ w' = w)
    (hX : Calls Tryz.prog 157 #[.int .u64 (d : Int), .int .i64 (p : Int), .bool false] w fun e w' => ExA R e ∧ w' = w)
    (hQ : Calls Tryz.prog 158 #[.int .u64 (d : Int), .int .i64 (p : Int), .int .u32 0] w fun e w' => e = .returned (.tuple #[.float .f32 R, .nilIface]) ∧ Below w.heap.size w w')
    (c2 : w.cell? ⟨5, 0, none⟩ = some (.bool true)) :
    Calls Tryz.prog 124 #[.string s] w fun e w' => e = .returned (.tuple #[.float .f32 R, .int .i64 (s.size : Nat), .nilIface]) ∧ Below w.heap.size w w' := by
  have hd0 : ((d : Int) == 0) = false := by simpa using hd
  clear hd
  go_enter Tryz.func124, Tryz.ntmps124
  go_wp2_with fail
  refine (hS _).mono ?_
  rintro e9 w9 ⟨rfl, hw9⟩
  obtain rfl := hw9.symm
  clear hw9
  go_wp2_with fail
  refine (hR _).mono ?_
  rintro e9 w9 ⟨rfl, hw9⟩
  obtain rfl := hw9.symm
  clear hw9
  go_wp2_with fail
  refine (bool2w_p _).mono ?_
  rintro e9 w9 ⟨rfl, hw9⟩
  obtain rfl := hw9.symm
  clear hw9
  go_wp2_with fail
  refine hX.mono ?_
  rintro e9 w9 ⟨hE, hw9⟩
  obtain rfl := hw9.symm
  clear hw9 hX
  rcases hE with ⟨f, rfl⟩ | rfl
  · go_wp2_with fail
    refine hQ.mono ?_
    rintro e9 w9 ⟨rfl, hb⟩
    go_wp2
    go_ret3
    exact ⟨rfl, hb⟩
  · go_wp2
    go_ret3
    exact ⟨rfl, Below.refl _ _⟩

set_option maxRecDepth 1000000 in
theorem prefix_any (s : ByteArray) (R r64 : Nat) (w : World) (hQ : Calls Tryz.prog 124 #[.string s] w fun e w' => e = .returned (.tuple #[.float .f32 R, .int .i64 (s.size : Nat), .nilIface]) ∧ Below w.heap.size w w') (hC : ∀ w, (convert 22 80 (.float .f32 R)).run Tryz.prog w = .ok (.float .f64 r64) w) :
    Calls Tryz.prog 99 #[.string s, .int .i64 32] w fun e w' => e = .returned (.tuple #[.float .f64 r64, .int .i64 (s.size : Nat), .nilIface]) ∧ Below w.heap.size w w' := by
  go_enter Tryz.func99, Tryz.ntmps99
  go_wp2_with (first | (go_at_call 124; refine hQ.mono ?_; rintro e9 w9 ⟨rfl, hb⟩))
  go_ret3
  exact ⟨rfl, hb⟩
set_option maxRecDepth 1000000 in
theorem ipf_any (s : ByteArray) (r64 : Nat) (w : World) (hQ : Calls Tryz.prog 99 #[.string s, .int .i64 32] w fun e w' => e = .returned (.tuple #[.float .f64 r64, .int .i64 (s.size : Nat), .nilIface]) ∧ Below w.heap.size w w') :
    Calls Tryz.prog 79 #[.string s, .int .i64 32] w fun e w' => e = .returned (.tuple #[.float .f64 r64, .nilIface]) ∧ Below w.heap.size w w' := by
  go_enter Tryz.func79, Tryz.ntmps79
  go_wp2_with (first | (go_at_call 99; refine hQ.mono ?_; rintro e9 w9 ⟨rfl, hb⟩))
  go_ret2
  exact ⟨rfl, hb⟩
set_option maxRecDepth 1000000 in
theorem pf_raw (s : ByteArray) (r64 : Nat) (w : World) (hQ : Calls Tryz.prog 79 #[.string s, .int .i64 32] w fun e w' => e = .returned (.tuple #[.float .f64 r64, .nilIface]) ∧ Below w.heap.size w w') :
    Calls Tryz.prog 55 #[.string s, .int .i64 32] w fun e w' => e = .returned (.tuple #[.float .f64 r64, .nilIface]) ∧ Below w.heap.size w w' := by
  go_enter Tryz.func55, Tryz.ntmps55
  go_wp2_with (first | (go_at_call 79; refine hQ.mono ?_; rintro e9 w9 ⟨rfl, hb⟩))
  go_ret2
  exact ⟨rfl, hb⟩

/-- digits, the first of them no nought, and the power at which it stands -/
theorem pf_any (c0 : UInt8) (cs es : List UInt8) (p : Nat) (h0 : 49 ≤ c0.toNat ∧ c0.toNat ≤ 57) (hc : Dig cs) (hl : cs.length ≤ 18) (he : Dig es) (hle : es.length ≤ 2) (hes : 0 < es.length) (hp : dvL es = p + cs.length) (hp18 : p ≤ 18)
    (hr : rndR (dvL (c0 :: cs) * 10 ^ p * P149) < 2139095040) (w : World) (hT : Tabq w p) :
    Calls Tryz.prog 55 #[.string (bl (numT c0 cs es)), .int .i64 32] w fun e w' => e = .returned (.tuple #[.float .f64 (fD (rndR (dvL (c0 :: cs) * 10 ^ p * P149)) (atE (rndR (dvL (c0 :: cs) * 10 ^ p * P149)))), .nilIface]) ∧ Below w.heap.size w w' := by
  have hlen := num_len c0 cs es
  have hdlt : dvL (c0 :: cs) < 10 ^ 19 := by
    have h1 := dv_lt (c0 :: cs) (by
      intro c hc'
      rcases List.mem_cons.1 hc' with rfl | hc'
      · omega
      · exact hc c hc')
    have h2 : 10 ^ (c0 :: cs).length ≤ 10 ^ 19 := Nat.pow_le_pow_right (by decide) (by simp; omega)
    omega
  have hpos : 0 < dvL (c0 :: cs) := by
    have : ∀ (l : List UInt8) (a : Nat), 0 < a → 0 < l.foldl (fun a c => a * 10 + (c.toNat - 48)) a := by
      intro l
      induction l with
      | nil => intro a h; exact h
      | cons c l ih => intro a h; exact ih _ (Nat.lt_of_lt_of_le (show 0 < a * 10 by omega) (Nat.le_add_right _ _))
    exact this cs _ (by simp; omega)
  have hR := fun w => read_any c0 cs es h0 hc hl he hle hes w
  rw [show (dvL es : Int) - (cs.length : Int) = (p : Int) by omega] at hR
  have hS := fun w => special_dig (bl (numT c0 cs es)) (by rw [bl_size]; omega) (by rw [num_at c0 cs es 0 (by omega)]; show 48 ≤ (c0.toNat : Int) ∧ (c0.toNat : Int) ≤ 57; omega) w
  have hA := atof32_raw (bl (numT c0 cs es)) (dvL (c0 :: cs)) p _ w (by omega) hp18 hS hR (exact_any _ p hpos (by omega) hp18 w hT.fl) (parse32_any _ p hpos (by omega) hp18 w hT.pw) hT.opt
  exact pf_raw _ _ w (ipf_any _ _ w (prefix_any _ _ _ w hA (fun w => run_convert_float_float w 22 80 .f32 .f64 _ _ (by kernel_rfl) Tryz.underlying80 (fD_wide _ hr))))
end Go.Proofs.YtnljpbpphdhnpaaGreatDoor

