/- The library's exact way for short numbers: its walk at one power. -/
import Derived.Test.YtnljpbpphdhnpaaGreatDoorUzV
import Derived.Test.YtnljpbpphdhnpaaGreatDoorBigH
import Derived.Test.YtnljpbpphdhnpaaGreatDoorPsC
import Derived.Test.YtnljpbpphdhnpaaGreatDoorUzV

namespace Go.Proofs.YtnljpbpphdhnpaaGreatDoor
open Go.RowKit Go.PlainAid

/-- the library's table of exact powers of ten as reals -/
def TabF (w : World) : Prop := ∃ g o cap, w.cell? ⟨10, 0, none⟩ = some (.slice (some ⟨g, o, none⟩) 11 cap) ∧ ∀ k, k ≤ 10 → w.cell? ⟨g, o + k, none⟩ = some (.float .f32 (fromI ((10 ^ k : Nat) : Int)))

set_option maxRecDepth 1000000 in
set_option maxHeartbeats 400000 in
theorem exact_mid (d p f g z b o cap : Nat) (w : World) (hd : d < 8388608) (hp0 : 0 < p) (hp : p ≤ 10) (hc : ∀ w, (convert 65 22 (.int .u64 (d : Int))).run Tryz.prog w = .ok (.float .f32 f) w)
    (hv : w.cell? ⟨10, 0, none⟩ = some (.slice (some ⟨b, o, none⟩) 11 cap)) (hg : w.cell? ⟨b, o + p, none⟩ = some (.float .f32 g)) (hm : ∀ w, (binOp .mul 22 (.float .f32 f) (.float .f32 g)).run Tryz.prog w = .ok (.float .f32 z) w)
    (t1 : (FloatKind.f32.format.order f 1259902592 == some Ordering.gt) = false) (t2 : (FloatKind.f32.format.order f 3407386240 == some Ordering.lt) = false) :
    Calls Tryz.prog 157 #[.int .u64 (d : Int), .int .i64 (p : Int), .bool false] w fun e w' => e = .returned (.tuple #[.float .f32 z, .bool true]) ∧ w' = w := by
  have hs : (d : Int) / 8388608 = 0 := by omega
  go_enter Tryz.func157, Tryz.ntmps157
  go_wp2
  go_ret2
  exact ⟨rfl, rfl⟩
set_option maxRecDepth 1000000 in
set_option maxHeartbeats 400000 in
theorem exact_far (d p q f g f1 g1 z b o cap : Nat) (w : World) (hd : d < 8388608) (hp0 : 10 < p) (hp : p ≤ 17) (hq : (p : Int) - 10 = (q : Int)) (hc : ∀ w, (convert 65 22 (.int .u64 (d : Int))).run Tryz.prog w = .ok (.float .f32 f) w)
    (hv : w.cell? ⟨10, 0, none⟩ = some (.slice (some ⟨b, o, none⟩) 11 cap)) (hg : w.cell? ⟨b, o + q, none⟩ = some (.float .f32 g)) (hg1 : w.cell? ⟨b, o + 10, none⟩ = some (.float .f32 g1)) (hm : ∀ w, (binOp .mul 22 (.float .f32 f) (.float .f32 g)).run Tryz.prog w = .ok (.float .f32 f1) w)
    (hm1 : ∀ w, (binOp .mul 22 (.float .f32 f1) (.float .f32 g1)).run Tryz.prog w = .ok (.float .f32 z) w)
    (t1 : (FloatKind.f32.format.order f1 1259902592 == some Ordering.gt) = false) (t2 : (FloatKind.f32.format.order f1 3407386240 == some Ordering.lt) = false) :
    Calls Tryz.prog 157 #[.int .u64 (d : Int), .int .i64 (p : Int), .bool false] w fun e w' => e = .returned (.tuple #[.float .f32 z, .bool true]) ∧ w' = w := by
  have hs : (d : Int) / 8388608 = 0 := by omega
  go_enter Tryz.func157, Tryz.ntmps157
  go_wp2
  go_ret2
  exact ⟨rfl, rfl⟩
set_option maxRecDepth 1000000 in
set_option maxHeartbeats 400000 in
theorem exact_not (d p q f g f1 b o cap : Nat) (w : World) (hd : d < 8388608) (hp0 : 10 < p) (hp : p ≤ 17) (hq : (p : Int) - 10 = (q : Int)) (hc : ∀ w, (convert 65 22 (.int .u64 (d : Int))).run Tryz.prog w = .ok (.float .f32 f) w)
    (hv : w.cell? ⟨10, 0, none⟩ = some (.slice (some ⟨b, o, none⟩) 11 cap)) (hg : w.cell? ⟨b, o + q, none⟩ = some (.float .f32 g)) (hm : ∀ w, (binOp .mul 22 (.float .f32 f) (.float .f32 g)).run Tryz.prog w = .ok (.float .f32 f1) w)
    (t1 : (FloatKind.f32.format.order f1 1259902592 == some Ordering.gt) = true) :
    Calls Tryz.prog 157 #[.int .u64 (d : Int), .int .i64 (p : Int), .bool false] w fun e w' => e = .returned (.tuple #[.float .f32 f1, .bool false]) ∧ w' = w := by
  have hs : (d : Int) / 8388608 = 0 := by omega
  go_enter Tryz.func157, Tryz.ntmps157
  go_wp2
  go_ret2
  exact ⟨rfl, rfl⟩
set_option maxRecDepth 1000000 in
theorem exact_zero (d f : Nat) (w : World) (hd : d < 8388608) (hc : ∀ w, (convert 65 22 (.int .u64 (d : Int))).run Tryz.prog w = .ok (.float .f32 f) w) :
    Calls Tryz.prog 157 #[.int .u64 (d : Int), .int .i64 0, .bool false] w fun e w' => e = .returned (.tuple #[.float .f32 f, .bool true]) ∧ w' = w := by
  have hs : (d : Int) / 8388608 = 0 := by omega
  go_enter Tryz.func157, Tryz.ntmps157
  go_wp2
  go_ret2
  exact ⟨rfl, rfl⟩
set_option maxRecDepth 1000000 in
theorem exact_18 (d p f : Nat) (w : World) (hd : d < 8388608) (hp : p = 18) (hc : ∀ w, (convert 65 22 (.int .u64 (d : Int))).run Tryz.prog w = .ok (.float .f32 f) w) :
    Calls Tryz.prog 157 #[.int .u64 (d : Int), .int .i64 (p : Int), .bool false] w fun e w' => e = .returned (.tuple #[.float .f32 f, .bool false]) ∧ w' = w := by
  have hs : (d : Int) / 8388608 = 0 := by omega
  subst hp
  go_enter Tryz.func157, Tryz.ntmps157
  go_wp2
  go_ret2
  exact ⟨rfl, rfl⟩
set_option maxRecDepth 1000000 in
theorem exact_long (d p : Nat) (w : World) (hd : 8388608 ≤ d) (hd2 : d < 18446744073709551616) :
    Calls Tryz.prog 157 #[.int .u64 (d : Int), .int .i64 (p : Int), .bool false] w fun e w' => e = .returned (.tuple #[.float .f32 0, .bool false]) ∧ w' = w := by
  have hs : ((d : Int) / 8388608 != 0) = true := by simp; omega
  go_enter Tryz.func157, Tryz.ntmps157
  go_wp2
  go_ret2
  exact ⟨rfl, rfl⟩
end Go.Proofs.YtnljpbpphdhnpaaGreatDoor


/- Whole numbers as reals multiplied; the library's exact way for short numbers. -/
namespace Go.Proofs.YtnljpbpphdhnpaaGreatDoor
open Go.RowKit Go.PlainAid

theorem read_short (x : Nat) (h : rungN x < 2139095040) : ∃ m : Nat, ∃ up : Nat, Ieee.single.read x = .number (x / 2147483648 % 2 == 1) m (-149 + (up : Int)) ∧ m * 2 ^ up = valN (rungN x) ∧ m < 2 ^ 24 := by
  have e1 : Ieee.single.signWeight = 2147483648 := by decide
  have e2 : Ieee.single.binade = 8388608 := by decide
  have e3 : Ieee.single.infRung = 2139095040 := by decide
  have e4 : Ieee.single.leastPlace = -149 := by decide
  unfold rungN at h ⊢
  unfold Ieee.Format.read valN
  simp only [e1, e2, e3, e4]
  by_cases hb : x % 2147483648 < 8388608
  · rw [if_pos hb, if_pos hb]
    exact ⟨x % 2147483648, 0, by simp, by simp, by omega⟩
  · rw [if_neg hb, if_pos h, if_neg hb]
    exact ⟨_, _, rfl, rfl, by omega⟩
theorem up_big (m up A : Nat) (h : m * 2 ^ up = A * P149) (hA : 0 < A) (hm : m < 2 ^ 24) : 125 < up := by
  refine Decidable.byContradiction fun hu => ?_
  have h1 : 2 ^ up ≤ 2 ^ 125 := Nat.pow_le_pow_right (by omega) (by omega)
  have h2 : m * 2 ^ up < 2 ^ 24 * 2 ^ 125 := Nat.lt_of_le_of_lt (Nat.mul_le_mul_left m h1) (Nat.mul_lt_mul_of_pos_right hm (Nat.two_pow_pos _))
  have h3 : 2 ^ 24 * 2 ^ 125 = P149 := by unfold P149; rw [← Nat.pow_add]
  have h4 : 1 * P149 ≤ A * P149 := Nat.mul_le_mul_right _ hA
  rw [h, h3] at h2
  omega
theorem four_by (m m' X Y A B p : Nat) (h1 : m * X = A * p) (h2 : m' * Y = B * p) : m * m' * (X * Y) = A * B * p * p := by
  rw [Nat.mul_mul_mul_comm, h1, h2, Nat.mul_mul_mul_comm, Nat.mul_assoc (A * B)]
theorem mul_whole (a c A B : Nat) (ha : a < 2139095040) (hc : c < 2139095040) (va : valN a = A * P149) (vc : valN c = B * P149) (hA : 0 < A) (hB : 0 < B) :
    floatBits .mul .f32 a c = some (rndR (A * B * P149)) := by
  show Ieee.single.mul a c = _
  have ra : rungN a = a := by unfold rungN; omega
  have rc : rungN c = c := by unfold rungN; omega
  obtain ⟨m, i, h1, h2, h3⟩ := read_short a (by omega)
  obtain ⟨m', j, k1, k2, k3⟩ := read_short c (by omega)
  rw [ra, va] at h2
  rw [rc, vc] at k2
  have hi := up_big m i A h2 hA h3
  have hj := up_big m' j B k2 hB k3
  have s1 : (a / 2147483648 % 2 == 1) = false := by simp; omega
  have s2 : (c / 2147483648 % 2 == 1) = false := by simp; omega
  unfold Ieee.Format.mul
  rw [h1, k1, s1, s2]
  simp only [Ieee.Datum.product, Option.map_some, Ieee.Format.write]
  have e : (-149 + (i : Int) + (-149 + (j : Int))) = -149 + ((i + j - 149 : Nat) : Int) := by omega
  rw [e, nearest_rnd]
  have hp : m * m' * 2 ^ (i + j - 149) = A * B * P149 := by
    have h5 : m * m' * 2 ^ (i + j - 149) * P149 = A * B * P149 * P149 := by
      have e5 : (2 : Nat) ^ (i + j - 149) * P149 = 2 ^ i * 2 ^ j := by
        unfold P149
        rw [← Nat.pow_add, ← Nat.pow_add, show i + j - 149 + 149 = i + j by omega]
      rw [Nat.mul_assoc, e5]
      exact four_by m m' _ _ A B P149 h2 k2
    exact Nat.eq_of_mul_eq_mul_right p149_pos h5
  rw [hp]
  have hr := rndR_le (A * B * P149)
  generalize rndR (A * B * P149) = r at *
  unfold Ieee.Format.word
  simp

theorem fromI_nat (n : Nat) : fromI (n : Int) = rndR (n * P149) := by
  rw [fromI_p, if_neg (by omega)]; simp
/-- a whole number that a real holds -/
theorem held (n : Nat) (h0 : 0 < n) (h : n ≤ 16777216) : valN (rndR (n * P149)) = n * P149 ∧ rndR (n * P149) < 2139095040 := by
  obtain ⟨a1, a2, a3, a4, a5⟩ := near_whole n h0 (by omega)
  exact ⟨a5 h, by omega⟩
theorem ten_held : ∀ k, k ≤ 10 → valN (rndR (10 ^ k * P149)) = 10 ^ k * P149 ∧ rndR (10 ^ k * P149) < 2139095040 := by
  decide
theorem seven : rndR (10000000 * P149) = 1259902592 := by decide
/-- beside ten to the power seven -/
theorem gt_seven (n : Nat) (h0 : 0 < n) (hn : n ≤ 9223372036854775808) : (FloatKind.f32.format.order (rndR (n * P149)) 1259902592 == some Ordering.gt) = decide (10000000 < n) ∧ (FloatKind.f32.format.order (rndR (n * P149)) 3407386240 == some Ordering.lt) = false := by
  obtain ⟨a1, a2, a3, a4, a5⟩ := near_whole n h0 hn
  have n1 : nanB (rndR (n * P149)) = false := nan_pos _ (by omega)
  have v7 : svalZ 1259902592 = ((10000000 * P149 : Nat) : Int) := by decide
  have v8 : svalZ 3407386240 = -((10000000 * P149 : Nat) : Int) := by decide
  have vx : svalZ (rndR (n * P149)) = (valN (rndR (n * P149)) : Int) := sval_pos _ (by omega)
  obtain ⟨f1, f2, f3⟩ := ord_facts (rndR (n * P149)) 1259902592 n1 (by decide)
  obtain ⟨g1, g2, g3⟩ := ord_facts (rndR (n * P149)) 3407386240 n1 (by decide)
  rw [f2, g1, v7, v8, vx]
  refine ⟨?_, decide_eq_false (by omega)⟩
  by_cases h : 10000000 < n
  · rw [decide_eq_true h]
    refine decide_eq_true ?_
    by_cases hs : n ≤ 16777216
    · rw [a5 hs]
      have := Nat.mul_lt_mul_of_pos_right h p149_pos
      omega
    · have h1 := rndR_mono (Nat.mul_le_mul_right P149 (show 16777216 ≤ n by omega))
      have h2 : rndR (16777216 * P149) = 1266679808 := by decide
      have h3 : valN 1266679808 = 16777216 * P149 := by decide
      rw [h2] at h1
      have h4 : valN 1266679808 ≤ valN (rndR (n * P149)) := by
        rcases Nat.lt_or_eq_of_le h1 with h | h
        · exact Nat.le_of_lt (valN_lt h)
        · rw [← h]; exact Nat.le_refl _
      rw [h3] at h4
      have h5 : 10000000 * P149 < 16777216 * P149 := Nat.mul_lt_mul_of_pos_right (by decide) p149_pos
      omega
  · rw [decide_eq_false h]
    refine decide_eq_false ?_
    rw [a5 (by omega)]
    have := Nat.mul_le_mul_right P149 (show n ≤ 10000000 by omega)
    omega
end Go.Proofs.YtnljpbpphdhnpaaGreatDoor


/- A real of 32 bits as one of 64 and back; the library's exact way for short numbers, whole. -/
namespace Go.Proofs.YtnljpbpphdhnpaaGreatDoor
open Go.RowKit Go.PlainAid

theorem near_wide (m : Nat) (e : Int) (h0 : 0 < m) (hm : m < 16777216) (he : -149 ≤ e) (he2 : e ≤ 104) : Ieee.double.nearest false m e = wD (m * 2 ^ (52 - m.log2)) ((m.log2 : Int) + e) := by
  obtain ⟨c1, c2, c3, c4⟩ := dconsts
  obtain ⟨_, k1, k2, k3⟩ := nearS m h0 hm
  generalize hl : m.log2 = L at *
  unfold Ieee.Format.nearest
  rw [if_neg (by omega)]
  simp only [c1, c2, c3, hl, show Ieee.double.fractionBits = 52 from rfl]
  rw [show max (e + (L : Int) - ((52 : Nat) : Int)) (-1074) = e + (L : Int) - 52 by omega]
  rw [show (e - (e + (L : Int) - 52)).toNat = 52 - L by omega, show ((e + (L : Int) - 52) - e).toNat = 0 by omega, Nat.shiftLeft_eq]
  have hcut : Ieee.Toward.cut .even false (m * 2 ^ (52 - L)) 0 = m * 2 ^ (52 - L) := by
    unfold Ieee.Toward.cut
    simp [Nat.mod_one]
  rw [hcut, show ((e + (L : Int) - 52) - -1074).toNat = ((L : Int) + e + 1022).toNat by omega]
  unfold Ieee.Format.word wD
  simp only [Bool.false_eq_true, if_false]
  rw [Nat.min_eq_left]
  have : ((L : Int) + e + 1022).toNat ≤ 1149 := by omega
  omega
theorem read_atQ (n : Nat) (h : n < 2139095040) : Ieee.single.read n = .number false (atM n) (atE n) := by
  have e1 : Ieee.single.signWeight = 2147483648 := by decide
  have e2 : Ieee.single.binade = 8388608 := by decide
  have e3 : Ieee.single.infRung = 2139095040 := by decide
  have e4 : Ieee.single.leastPlace = -149 := by decide
  unfold Ieee.Format.read atM atE
  simp only [e1, e2, e3, e4]
  rw [show n % 2147483648 = n by omega, show n / 2147483648 % 2 = 0 by omega]
  by_cases hb : n < 8388608
  · rw [if_pos hb, if_pos hb, if_pos hb]; rfl
  · rw [if_neg hb, if_pos h, if_neg hb, if_neg hb]
    congr 1
    omega
/-- widened -/
theorem fD_wide (n : Nat) (h : n < 2139095040) : floatToFloatBits .f32 n .f64 = some (fD n (atE n)) := by
  unfold floatToFloatBits
  rw [if_neg (by decide)]
  show (match Ieee.single.read n with | .nan _ _ => none | .infinity s => some (Ieee.double.write (.infinity s)) | .number s m e => if (Ieee.double.read (Ieee.double.write (.number s m e))).isInfinity then none else some (Ieee.double.write (.number s m e))) = _
  rw [read_atQ n h]
  simp only []
  by_cases h0 : atM n = 0
  · have hn : n = 0 := by unfold atM at h0; split at h0 <;> omega
    subst hn
    decide
  · have a1 := atE_lo n
    have a2 := atE_hi n h
    obtain ⟨_, k1, k2, k3⟩ := nearS (atM n) (by omega) (atM_lt n)
    have hw : Ieee.double.write (.number false (atM n) (atE n)) = fD n (atE n) := by
      unfold fD
      rw [if_neg h0]
      exact near_wide (atM n) (atE n) (by omega) (atM_lt n) a1 a2
    rw [hw]
    have hr : Ieee.double.read (fD n (atE n)) = .number false (atM n * 2 ^ (52 - (atM n).log2)) (((atM n).log2 : Int) + atE n - 52) := by
      unfold fD
      rw [if_neg h0]
      exact readD _ _ k1 k2 (by omega) (by omega)
    rw [hr]
    rfl

/-- what the exact way answers -/
def ExA (R : Nat) (e : Ending) : Prop := (∃ f, e = .returned (.tuple #[.float .f32 f, .bool false])) ∨ e = .returned (.tuple #[.float .f32 R, .bool true])

theorem exact_any (d p : Nat) (hd0 : 0 < d) (hd : d < 18446744073709551616) (hp : p ≤ 18) (w : World) (hT : TabF w) :
    Calls Tryz.prog 157 #[.int .u64 (d : Int), .int .i64 (p : Int), .bool false] w fun e w' => ExA (rndR (d * 10 ^ p * P149)) e ∧ w' = w := by
  obtain ⟨g, o, cap, hv, hk⟩ := hT
  by_cases hl : 8388608 ≤ d
  · refine (exact_long d p w hl hd).mono ?_
    rintro e w' ⟨rfl, hw⟩
    exact ⟨.inl ⟨_, rfl⟩, hw⟩
  · have hc : ∀ w, (convert 65 22 (.int .u64 (d : Int))).run Tryz.prog w = .ok (.float .f32 (rndR (d * P149))) w := fun w => by
      rw [← fromI_nat, ← fromI_float]; exact run_convert_int_float w 65 22 .u64 .f32 _ (by kernel_rfl) Tryz.underlying22
    obtain ⟨v1, v2⟩ := held d hd0 (by omega)
    have hk' : ∀ k, k ≤ 10 → w.cell? ⟨g, o + k, none⟩ = some (.float .f32 (rndR (10 ^ k * P149))) := fun k h => by
      have := hk k h
      rwa [fromI_nat] at this
    have hmul : ∀ (n k : Nat), 0 < n → n ≤ 16777216 → k ≤ 10 → ∀ w, (binOp .mul 22 (.float .f32 (rndR (n * P149))) (.float .f32 (rndR (10 ^ k * P149)))).run Tryz.prog w = .ok (.float .f32 (rndR (n * 10 ^ k * P149))) w := fun n k h0 h1 h2 w => by
      obtain ⟨a1, a2⟩ := held n h0 h1
      obtain ⟨b1, b2⟩ := ten_held k h2
      exact run_float_arith (P := Tryz.prog) w .mul 23 .f32 _ _ _ (mul_whole _ _ n (10 ^ k) a2 b2 a1 b1 h0 (Nat.pow_pos (by decide)))
    by_cases h0 : p = 0
    · subst h0
      refine (exact_zero d _ w (by omega) hc).mono ?_
      rintro e w' ⟨rfl, hw⟩
      exact ⟨.inr (by rw [Nat.pow_zero, Nat.mul_one]), hw⟩
    · by_cases h10 : p ≤ 10
      · obtain ⟨t1, t2⟩ := gt_seven d hd0 (by omega)
        rw [decide_eq_false (by omega)] at t1
        refine (exact_mid d p _ _ _ g o cap w (by omega) (by omega) h10 hc hv (hk' p h10) (hmul d p hd0 (by omega) h10) t1 t2).mono ?_
        rintro e w' ⟨rfl, hw⟩
        exact ⟨.inr rfl, hw⟩
      · by_cases h18 : p = 18
        · refine (exact_18 d p _ w (by omega) h18 hc).mono ?_
          rintro e w' ⟨rfl, hw⟩
          exact ⟨.inl ⟨_, rfl⟩, hw⟩
        · have hq : p = (p - 10) + 10 := by omega
          have hb : 10 ^ (p - 10) ≤ 10 ^ 7 := Nat.pow_le_pow_right (by decide) (by omega)
          have hpos : 0 < 10 ^ (p - 10) := Nat.pow_pos (by decide)
          have hn0 : 0 < d * 10 ^ (p - 10) := Nat.mul_pos hd0 hpos
          have hn1 : d * 10 ^ (p - 10) ≤ 8388607 * 10 ^ 7 := Nat.mul_le_mul (by omega) hb
          obtain ⟨t1, t2⟩ := gt_seven (d * 10 ^ (p - 10)) hn0 (by omega)
          by_cases h7 : 10000000 < d * 10 ^ (p - 10)
          · rw [decide_eq_true h7] at t1
            refine (exact_not d p (p - 10) _ _ _ g o cap w (by omega) (by omega) (by omega) (by omega) hc hv (hk' (p - 10) (by omega)) (hmul d (p - 10) hd0 (by omega) (by omega)) t1).mono ?_
            rintro e w' ⟨rfl, hw⟩
            exact ⟨.inl ⟨_, rfl⟩, hw⟩
          · rw [decide_eq_false h7] at t1
            refine (exact_far d p (p - 10) _ _ _ _ _ g o cap w (by omega) (by omega) (by omega) (by omega) hc hv (hk' (p - 10) (by omega)) (hk' 10 (by omega)) (hmul d (p - 10) hd0 (by omega) (by omega)) (hmul (d * 10 ^ (p - 10)) 10 hn0 (by omega) (by omega)) t1 t2).mono ?_
            rintro e w' ⟨rfl, hw⟩
            refine ⟨.inr ?_, hw⟩
            rw [Nat.mul_assoc d, ← Nat.pow_add, ← hq]
end Go.Proofs.YtnljpbpphdhnpaaGreatDoor


/- The library's reading of digits about a point, an e and digits; the real of that text. -/
namespace Go.Proofs.YtnljpbpphdhnpaaGreatDoor
open Go.RowKit Go.PlainAid

/-- a text by its bytes -/
def bl (l : List UInt8) : ByteArray := ⟨l.toArray⟩
theorem bl_size (l : List UInt8) : (bl l).size = l.length := by unfold bl; simp [ByteArray.size]
theorem bl_bt (l : List UInt8) (k : Nat) (h : k < l.length) : bt (bl l) k = ((l[k]).toNat : Int) := by
  unfold bt
  rw [dif_pos (by rw [bl_size]; exact h)]
  rfl
theorem bl_app (a b : List UInt8) : bl a ++ bl b = bl (a ++ b) := by
  apply ByteArray.ext
  unfold bl
  simp [ByteArray.data_append]
theorem bl_data (l : List UInt8) : (bl l).data.toList = l := by unfold bl; simp

/-- the text that the library is handed -/
def numT (c0 : UInt8) (cs es : List UInt8) : List UInt8 := c0 :: 46 :: (cs ++ 101 :: es)
def Dig (l : List UInt8) : Prop := ∀ c ∈ l, 48 ≤ c.toNat ∧ c.toNat ≤ 57

theorem num_at (c0 : UInt8) (cs es : List UInt8) (k : Nat) (h : k < (numT c0 cs es).length) :
    bt (bl (numT c0 cs es)) k = ((numT c0 cs es)[k].toNat : Int) := bl_bt _ k h
theorem num_len (c0 : UInt8) (cs es : List UInt8) : (numT c0 cs es).length = cs.length + es.length + 3 := by
  unfold numT; simp; omega

theorem run_d (c0 : UInt8) (cs es : List UInt8) (h0 : 49 ≤ c0.toNat ∧ c0.toNat ≤ 57) (hc : Dig cs) (hl : cs.length ≤ 18) :
    RunD (bl (numT c0 cs es)) (2 + cs.length) (fun k => if k = 0 then 0 else (dvL (c0 :: cs.take (k - 2)) : Int)) (fun k => if k = 0 then 0 else 1 + ((k - 2 : Nat) : Int)) (fun k => if k ≤ 1 then 0 else 1) (fun k => decide (2 ≤ k)) := by
  intro k hk
  have hlen := num_len c0 cs es
  rw [num_at c0 cs es k (by omega)]
  rcases Nat.lt_or_ge k 2 with h2 | h2
  · have : k = 0 ∨ k = 1 := by omega
    rcases this with rfl | rfl
    · right
      have e : (numT c0 cs es)[0] = c0 := rfl
      rw [e]
      simp only [dvL, List.foldl_cons]
      simp
      omega
    · left
      have e : (numT c0 cs es)[1] = 46 := rfl
      rw [e]
      simp
  · right
    obtain ⟨j, rfl⟩ : ∃ j, k = j + 2 := ⟨k - 2, by omega⟩
    have hj : j < cs.length := by omega
    have e : (numT c0 cs es)[j + 2]'(by omega) = cs[j] := by
      unfold numT
      simp only [List.getElem_cons_succ]
      exact List.getElem_append_left hj
    rw [e]
    have hd := hc cs[j] (List.getElem_mem hj)
    have hlt : dvL (c0 :: cs.take j) < 10 ^ (1 + j) := by
      have := dv_lt (c0 :: cs.take j) (by
        intro c hc'
        rcases List.mem_cons.1 hc' with rfl | hc'
        · omega
        · exact hc c (List.mem_of_mem_take hc'))
      simpa [Nat.min_eq_left (Nat.le_of_lt hj), Nat.add_comm] using this
    have hle : 10 ^ (1 + j) ≤ 10 ^ 18 := Nat.pow_le_pow_right (by decide) (by omega)
    have hs : dvL (c0 :: cs.take (j + 1)) = dvL (c0 :: cs.take j) * 10 + (cs[j].toNat - 48) := by
      rw [← dv_snoc, List.take_succ_eq_append_getElem hj]; rfl
    simp only [show j + 2 - 2 = j by omega, show j + 2 + 1 - 2 = j + 1 by omega, show ¬ (j + 2 = 0) by omega, show ¬ (j + 2 + 1 = 0) by omega, if_false, show ¬ (j + 2 ≤ 1) by omega, show ¬ (j + 2 + 1 ≤ 1) by omega]
    rw [hs]
    refine ⟨by omega, by omega, by omega, by omega, by omega, by omega, by omega, by omega, by omega, trivial, ?_⟩
    simp

theorem run_e (c0 : UInt8) (cs es : List UInt8) (he : Dig es) (hl : es.length ≤ 2) :
    RunE (bl (numT c0 cs es)) (2 + cs.length + 1) (bl (numT c0 cs es)).size (fun k => (dvL (es.take (k - (2 + cs.length + 1))) : Int)) := by
  intro k h1 h2
  have hlen := num_len c0 cs es
  rw [bl_size] at h2
  obtain ⟨j, rfl⟩ : ∃ j, k = 2 + cs.length + 1 + j := ⟨k - (2 + cs.length + 1), by omega⟩
  have hj : j < es.length := by omega
  rw [num_at c0 cs es _ h2]
  have e : (numT c0 cs es)[2 + cs.length + 1 + j] = es[j] := by
    unfold numT
    simp only [show 2 + cs.length + 1 + j = (cs.length + (j + 1)) + 1 + 1 by omega, List.getElem_cons_succ]
    rw [List.getElem_append_right (by omega)]
    simp
  rw [e]
  have hd := he es[j] (List.getElem_mem hj)
  have hlt : dvL (es.take j) < 10 ^ j := by
    have := dv_lt (es.take j) (fun c hc' => he c (List.mem_of_mem_take hc'))
    simpa [Nat.min_eq_left (Nat.le_of_lt hj)] using this
  have hle : 10 ^ j ≤ 10 ^ 2 := Nat.pow_le_pow_right (by decide) (by omega)
  have hs : dvL (es.take (j + 1)) = dvL (es.take j) * 10 + (es[j].toNat - 48) := by
    rw [← dv_snoc, List.take_succ_eq_append_getElem hj]
  simp only [show 2 + cs.length + 1 + j - (2 + cs.length + 1) = j by omega, show 2 + cs.length + 1 + j + 1 - (2 + cs.length + 1) = j + 1 by omega]
  rw [hs]
  omega

theorem read_any (c0 : UInt8) (cs es : List UInt8) (h0 : 49 ≤ c0.toNat ∧ c0.toNat ≤ 57) (hc : Dig cs) (hl : cs.length ≤ 18) (he : Dig es) (hle : es.length ≤ 2) (hes : 0 < es.length) (w : World) :
    Calls Tryz.prog 153 #[.string (bl (numT c0 cs es))] w fun e w' => e = .returned (.tuple #[.int .u64 (dvL (c0 :: cs) : Int), .int .i64 ((dvL es : Int) - (cs.length : Int)), .bool false, .bool false, .bool false, .int .i64 ((bl (numT c0 cs es)).size : Nat), .bool true]) ∧ w' = w := by
  have hlen := num_len c0 cs es
  have hdv : dvL es < 100 := by
    have h1 := dv_lt es he
    have h2 : 10 ^ es.length ≤ 10 ^ 2 := Nat.pow_le_pow_right (by decide) hle
    omega
  have hpos : 0 < dvL (c0 :: cs) := by
    have : ∀ (l : List UInt8) (a : Nat), 0 < a → 0 < l.foldl (fun a c => a * 10 + (c.toNat - 48)) a := by
      intro l
      induction l with
      | nil => intro a h; exact h
      | cons c l ih => intro a h; exact ih _ (Nat.lt_of_lt_of_le (show 0 < a * 10 by omega) (Nat.le_add_right _ _))
    exact this cs _ (by simp; omega)
  have h := readFloat_any (bl (numT c0 cs es)) (2 + cs.length) _ _ _ _ _ w (by rw [bl_size]; omega) (run_d c0 cs es h0 hc hl) (by simp) (by omega)
    (by rw [num_at c0 cs es 0 (by omega)]; show 49 ≤ (c0.toNat : Int) ∧ (c0.toNat : Int) ≤ 57; omega)
    (by
      simp only [show ¬ (2 + cs.length = 0) by omega, if_false, show ¬ (2 + cs.length ≤ 1) by omega, show 2 + cs.length - 2 = cs.length by omega, List.take_length]
      refine ⟨by simp, by omega, by omega, by omega, by omega, by omega⟩)
    (by
      rw [num_at c0 cs es _ (by omega)]
      have e : (numT c0 cs es)[2 + cs.length]'(by omega) = 101 := by
        unfold numT
        simp only [show 2 + cs.length = cs.length + 1 + 1 by omega, List.getElem_cons_succ]
        rw [List.getElem_append_right (by omega)]
        simp
      rw [e]; rfl)
    (by rw [bl_size]; omega) (run_e c0 cs es he hle) (by simp [dvL])
    (by
      rw [bl_size, hlen, show cs.length + es.length + 3 - (2 + cs.length + 1) = es.length by omega, List.take_length]
      omega)
  simp only [show ¬ (2 + cs.length = 0) by omega, if_false, show ¬ (2 + cs.length ≤ 1) by omega, show 2 + cs.length - 2 = cs.length by omega, List.take_length] at h
  rw [bl_size, hlen, show cs.length + es.length + 3 - (2 + cs.length + 1) = es.length by omega, List.take_length, show (1 : Int) + (dvL es : Int) - (1 + (cs.length : Int)) = (dvL es : Int) - (cs.length : Int) by omega] at h
  rw [bl_size, hlen]
  exact h
end Go.Proofs.YtnljpbpphdhnpaaGreatDoor


/- The library's ParseFloat of digits about a point and a power: the real nearest to the number. -/
namespace Go.Proofs.YtnljpbpphdhnpaaGreatDoor
open Go.RowKit Go.PlainAid

set_option maxRecDepth 1000000 in
theorem special_dig (s : ByteArray) (hn : 0 < s.size) (h : 48 ≤ bt s 0 ∧ bt s 0 ≤ 57) (w : World) : Calls Tryz.prog 152 #[.string s] w fun e w' => e = .returned (.tuple #[.float .f64 0, .int .i64 0, .bool false]) ∧ w' = w := by
  have g0 : ((s[0]'hn).toNat : Int) = bt s 0 := get_bt s 0 hn
  have tn : ¬ s = ByteArray.empty := by intro e; rw [e] at hn; exact absurd hn (by decide)
  have t1 : (bt s 0 == 43) = false := by simp; omega
  have t2 : (bt s 0 == 45) = false := by simp; omega
  have t3 : (bt s 0 == 105) = false := by simp; omega
  have t4 : (bt s 0 == 73) = false := by simp; omega
  have t5 : (bt s 0 == 110) = false := by simp; omega
  have t6 : (bt s 0 == 78) = false := by simp; omega
  generalize bt s 0 = c at *
  clear h
  go_enter Tryz.func152, Tryz.ntmps152
  go_wp2
  go_ret3
  exact ⟨rfl, rfl⟩

/-- what the library's tables hold, as far as a power is asked for -/
structure Tabq (w : World) (p : Nat) : Prop where
  pw : TabP w p
  fl : TabF w
  opt : w.cell? ⟨5, 0, none⟩ = some (.bool true)

set_option maxRecDepth 1000000 in
set_option maxHeartbeats 1000000 in
theorem atof32_raw (s : ByteArray) (d p R : Nat) (w : World) (hd : (d : Int) ≠ 0) (hp : p ≤ 18) (hS : ∀ w, Calls Tryz.prog 152 #[.string s] w fun e w' => e = .returned (.tuple #[.float .f64 0, .int .i64 0, .bool false]) ∧ w' = w)
    (hR : ∀ w, Calls Tryz.prog 153 #[.string s] w fun e w' => e = .returned (.tuple #[.int .u64 (d : Int), .int .i64 (p : Int), .bool false, .bool false, .bool false, .int .i64 (s.size : Nat), .bool true]) ∧ w' = w)
    (hX : Calls Tryz.prog 157 #[.int .u64 (d : Int), .int .i64 (p : Int), .bool false] w fun e w' => ExA R e ∧ w' = w)
    (hQ : Calls Tryz.prog 158 #[.int .u64 (d : Int), .int .i64 (p : Int), .int .u32 0] w fun e w' => e = .returned (.tuple #[.float .f32 R, .nilIface]) ∧ Below w.heap.size w w')
    (c2 : w.cell? ⟨5, 0, none⟩ = some (.bool true)) :
    Calls Tryz.prog 124 #[.string s] w fun e w' => e = .returned (.tuple #[.float .f32 R, .int .i64 (s.size : Nat), .nilIface]) ∧ Below w.heap.size w w' := by
  have hd0 : ((d : Int) == 0) = false := by simpa using hd
  clear hd
  go_enter Tryz.func124, Tryz.ntmps124
  go_wp2_with fail
  refine (hS _).mono ?_
  rintro e9 w9 ⟨rfl, hw9⟩
  obtain rfl := hw9.symm
  clear hw9
  go_wp2_with fail
  refine (hR _).mono ?_
  rintro e9 w9 ⟨rfl, hw9⟩
  obtain rfl := hw9.symm
  clear hw9
  go_wp2_with fail
  refine (bool2w_p _).mono ?_
  rintro e9 w9 ⟨rfl, hw9⟩
  obtain rfl := hw9.symm
  clear hw9
  go_wp2_with fail
  refine hX.mono ?_
  rintro e9 w9 ⟨hE, hw9⟩
  obtain rfl := hw9.symm
  clear hw9 hX
  rcases hE with ⟨f, rfl⟩ | rfl
  · go_wp2_with fail
    refine hQ.mono ?_
    rintro e9 w9 ⟨rfl, hb⟩
    go_wp2
    go_ret3
    exact ⟨rfl, hb⟩
  · go_wp2
    go_ret3
    exact ⟨rfl, Below.refl _ _⟩

set_option maxRecDepth 1000000 in
theorem prefix_any (s : ByteArray) (R r64 : Nat) (w : World) (hQ : Calls Tryz.prog 124 #[.string s] w fun e w' => e = .returned (.tuple #[.float .f32 R, .int .i64 (s.size : Nat), .nilIface]) ∧ Below w.heap.size w w') (hC : ∀ w, (convert 22 80 (.float .f32 R)).run Tryz.prog w = .ok (.float .f64 r64) w) :
    Calls Tryz.prog 99 #[.string s, .int .i64 32] w fun e w' => e = .returned (.tuple #[.float .f64 r64, .int .i64 (s.size : Nat), .nilIface]) ∧ Below w.heap.size w w' := by
  go_enter Tryz.func99, Tryz.ntmps99
  go_wp2_with (first | (go_at_call 124; refine hQ.mono ?_; rintro e9 w9 ⟨rfl, hb⟩))
  go_ret3
  exact ⟨rfl, hb⟩
set_option maxRecDepth 1000000 in
theorem ipf_any (s : ByteArray) (r64 : Nat) (w : World) (hQ : Calls Tryz.prog 99 #[.string s, .int .i64 32] w fun e w' => e = .returned (.tuple #[.float .f64 r64, .int .i64 (s.size : Nat), .nilIface]) ∧ Below w.heap.size w w') :
    Calls Tryz.prog 79 #[.string s, .int .i64 32] w fun e w' => e = .returned (.tuple #[.float .f64 r64, .nilIface]) ∧ Below w.heap.size w w' := by
  go_enter Tryz.func79, Tryz.ntmps79
  go_wp2_with (first | (go_at_call 99; refine hQ.mono ?_; rintro e9 w9 ⟨rfl, hb⟩))
  go_ret2
  exact ⟨rfl, hb⟩
set_option maxRecDepth 1000000 in
theorem pf_raw (s : ByteArray) (r64 : Nat) (w : World) (hQ : Calls Tryz.prog 79 #[.string s, .int .i64 32] w fun e w' => e = .returned (.tuple #[.float .f64 r64, .nilIface]) ∧ Below w.heap.size w w') :
    Calls Tryz.prog 55 #[.string s, .int .i64 32] w fun e w' => e = .returned (.tuple #[.float .f64 r64, .nilIface]) ∧ Below w.heap.size w w' := by
  go_enter Tryz.func55, Tryz.ntmps55
  go_wp2_with (first | (go_at_call 79; refine hQ.mono ?_; rintro e9 w9 ⟨rfl, hb⟩))
  go_ret2
  exact ⟨rfl, hb⟩

/-- digits, the first of them no nought, and the power at which it stands -/
theorem pf_any (c0 : UInt8) (cs es : List UInt8) (p : Nat) (h0 : 49 ≤ c0.toNat ∧ c0.toNat ≤ 57) (hc : Dig cs) (hl : cs.length ≤ 18) (he : Dig es) (hle : es.length ≤ 2) (hes : 0 < es.length) (hp : dvL es = p + cs.length) (hp18 : p ≤ 18)
    (hr : rndR (dvL (c0 :: cs) * 10 ^ p * P149) < 2139095040) (w : World) (hT : Tabq w p) :
    Calls Tryz.prog 55 #[.string (bl (numT c0 cs es)), .int .i64 32] w fun e w' => e = .returned (.tuple #[.float .f64 (fD (rndR (dvL (c0 :: cs) * 10 ^ p * P149)) (atE (rndR (dvL (c0 :: cs) * 10 ^ p * P149)))), .nilIface]) ∧ Below w.heap.size w w' := by
  have hlen := num_len c0 cs es
  have hdlt : dvL (c0 :: cs) < 10 ^ 19 := by
    have h1 := dv_lt (c0 :: cs) (by
      intro c hc'
      rcases List.mem_cons.1 hc' with rfl | hc'
      · omega
      · exact hc c hc')
    have h2 : 10 ^ (c0 :: cs).length ≤ 10 ^ 19 := Nat.pow_le_pow_right (by decide) (by simp; omega)
    omega
  have hpos : 0 < dvL (c0 :: cs) := by
    have : ∀ (l : List UInt8) (a : Nat), 0 < a → 0 < l.foldl (fun a c => a * 10 + (c.toNat - 48)) a := by
      intro l
      induction l with
      | nil => intro a h; exact h
      | cons c l ih => intro a h; exact ih _ (Nat.lt_of_lt_of_le (show 0 < a * 10 by omega) (Nat.le_add_right _ _))
    exact this cs _ (by simp; omega)
  have hR := fun w => read_any c0 cs es h0 hc hl he hle hes w
  rw [show (dvL es : Int) - (cs.length : Int) = (p : Int) by omega] at hR
  have hS := fun w => special_dig (bl (numT c0 cs es)) (by rw [bl_size]; omega) (by rw [num_at c0 cs es 0 (by omega)]; show 48 ≤ (c0.toNat : Int) ∧ (c0.toNat : Int) ≤ 57; omega) w
  have hA := atof32_raw (bl (numT c0 cs es)) (dvL (c0 :: cs)) p _ w (by omega) hp18 hS hR (exact_any _ p hpos (by omega) hp18 w hT.fl) (parse32_any _ p hpos (by omega) hp18 w hT.pw) hT.opt
  exact pf_raw _ _ w (ipf_any _ _ w (prefix_any _ _ _ w hA (fun w => run_convert_float_float w 22 80 .f32 .f64 _ _ (by kernel_rfl) Tryz.underlying80 (fD_wide _ hr))))
end Go.Proofs.YtnljpbpphdhnpaaGreatDoor


/- The program's cut of a whole number's text. -/
namespace Go.Proofs.YtnljpbpphdhnpaaGreatDoor
open Go.RowKit Go.PlainAid

theorem index_none (l : List UInt8) (c : UInt8) (h : ∀ x ∈ l, x ≠ c) : Lib.indexByte l c = -1 := by
  induction l with
  | nil => rfl
  | cons x l ih =>
    have h1 : x ≠ c := h x (List.mem_cons_self ..)
    have h2 := ih (fun y hy => h y (List.mem_cons_of_mem _ hy))
    unfold Lib.indexByte
    simp [h1, h2]
theorem index_some (a b : List UInt8) (c : UInt8) (h : ∀ x ∈ a, x ≠ c) : Lib.indexByte (a ++ c :: b) c = (a.length : Int) := by
  induction a with
  | nil => simp [Lib.indexByte]
  | cons x a ih =>
    have h1 : x ≠ c := h x (List.mem_cons_self ..)
    have h2 := ih (fun y hy => h y (List.mem_cons_of_mem _ hy))
    rw [List.cons_append]
    unfold Lib.indexByte
    simp [h1, h2]
theorem bl_extract (a b : List UInt8) : (bl (a ++ b)).extract 0 a.length = bl a ∧ (bl (a ++ b)).extract a.length (a ++ b).length = bl b := by
  constructor
  · apply ByteArray.ext
    unfold bl
    simp
  · apply ByteArray.ext
    unfold bl
    simp

theorem dig_not (l : List UInt8) (h : Dig l) (c : UInt8) (hc : c.toNat < 48 ∨ 57 < c.toNat) : ∀ x ∈ l, x ≠ c := by
  intro x hx e
  have := h x hx
  rw [e] at this
  omega
theorem dig_yes (l : List UInt8) (h : Dig l) (h0 : 0 < l.length) (hl : l.length ≤ 100) (w : World) : Calls Tryz.prog 51 #[.string (bl l)] w fun e w' => e = .returned (.bool true) ∧ w' = w :=
  allDigits_yes (bl l) (by rw [bl_size]; exact h0) (fun j hj => by
    rw [bl_size] at hj
    rw [bl_bt l j hj]
    have := h l[j] (List.getElem_mem hj)
    omega) (by rw [bl_size]; unfold maxLen; omega) w

set_option maxRecDepth 1000000 in
set_option maxHeartbeats 1000000 in
theorem cut_raw (s D Z A T : ByteArray) (k : Int) (w : World) (hz : Z.size = 1) (hD : D.size ≤ 19) (h1 : ∀ w, Calls Tryz.prog 50 #[.string s, .string ⟨#[101]⟩] w fun e w' => e = .returned (.tuple #[.string s, .string ⟨#[]⟩, .bool false]) ∧ w' = w)
    (h2 : ∀ w, Calls Tryz.prog 50 #[.string s, .string ⟨#[46]⟩] w fun e w' => e = .returned (.tuple #[.string D, .string Z, .bool true]) ∧ ∃ n, w' = w.drewN n)
    (h4 : ∀ w, Calls Tryz.prog 51 #[.string D] w fun e w' => e = .returned (.bool true) ∧ w' = w) (h5 : ∀ w, Calls Tryz.prog 51 #[.string Z] w fun e w' => e = .returned (.bool true) ∧ w' = w)
    (hA : D ++ Z = A) (h6 : ∀ w, Calls Tryz.prog 53 #[.string A, .string ⟨#[48]⟩] w fun e w' => e = .returned (.string A) ∧ w' = w)
    (h7 : ∀ w, Calls Tryz.prog 54 #[.string A, .string ⟨#[48]⟩] w fun e w' => e = .returned (.string T) ∧ w' = w) (hk : (D.size : Int) - 1 = k) :
    Calls Tryz.prog 28 #[.string s] w fun e w' => e = .returned (.tuple #[.agg #[.string T, .int .i64 k], .bool true]) ∧ Below w.heap.size w w' := by
  have h3 := cutPrefix_no ⟨#[]⟩ (by decide)
  have hsz : D.size + Z.size ≤ 9223372036854775807 := by omega
  go_enter Tryz.func28, Tryz.ntmps28
  go_wp2_with fail
  refine (h1 _).mono ?_
  rintro e9 w9 ⟨rfl, hw9⟩
  obtain rfl := hw9.symm
  clear hw9
  go_wp2_with fail
  refine (h2 _).mono ?_
  rintro e9 w9 ⟨rfl, n9, rfl⟩
  go_wp2_with fail
  refine (h3 _).mono ?_
  rintro e9 w9 ⟨rfl, hw9⟩
  obtain rfl := hw9.symm
  clear hw9
  go_wp2_with fail
  refine (h4 _).mono ?_
  rintro e9 w9 ⟨rfl, hw9⟩
  obtain rfl := hw9.symm
  clear hw9
  go_wp2_with fail
  refine (h5 _).mono ?_
  rintro e9 w9 ⟨rfl, hw9⟩
  obtain rfl := hw9.symm
  clear hw9
  go_wp2_with fail
  refine (atMostFar_none _).mono ?_
  rintro e9 w9 ⟨rfl, hw9⟩
  obtain rfl := hw9.symm
  clear hw9
  go_wp2_with fail
  refine (h6 _).mono ?_
  rintro e9 w9 ⟨rfl, hw9⟩
  obtain rfl := hw9.symm
  clear hw9
  go_wp2_with fail
  refine (h7 _).mono ?_
  rintro e9 w9 ⟨rfl, hw9⟩
  obtain rfl := hw9.symm
  clear hw9
  go_wp2
  refine bodyPost_ret (v := .tuple #[.agg #[.string T, .int .i64 k], .bool true]) (by simp [results, Tryz.results28, go_sem]) rfl ⟨rfl, by go_grown; exact below_drewN (by go_grown) _⟩
end Go.Proofs.YtnljpbpphdhnpaaGreatDoor


/- The library's parseFloat32, told: of every number of 64 bits by ten to -70 .. 40 it is the document's Nearest, and whether it is too great. -/
namespace Go.Proofs.YtnljpbpphdhnpaaGreatDoor
open Go.RowKit Go.PlainAid

theorem lpZ_bounds (p : Int) (h1 : -70 ≤ p) (h2 : p ≤ 40) : -233 ≤ lpZ p ∧ lpZ p ≤ 132 := by
  unfold lpZ; omega
theorem row_z (p : Int) (h1 : -70 ≤ p) (h2 : p ≤ 40) : hiZ p < 18446744073709551616 ∧ loZ p < 18446744073709551616 ∧ loZ p ≤ hiZ p * 18446744073709551616 := by
  obtain ⟨a1, a2, a3, a6, a7⟩ : rowZ p := by
    have := rows_z (p + 70).toNat (by omega)
    rwa [show (((p + 70).toNat : Nat) : Int) - 70 = p by omega] at this
  exact ⟨a1, a2, a3⟩
set_option maxHeartbeats 1000000 in
theorem parse32_all (d m : Nat) (p : Int) (w : World) (h0 : 0 < d) (hd : d < 18446744073709551616) (h1 : -70 ≤ p) (h2 : p ≤ 40) (hT : TabZ w p) (hl : LowB (d * 10 ^ p.toNat) (10 ^ (-p).toNat) m) :
    Calls Tryz.prog 158 #[.int .u64 (d : Int), .int .i64 p, .int .u32 0] w fun e w' => e = .returned (.tuple #[.float .f32 (nearB (d * 10 ^ p.toNat) (10 ^ (-p).toNat) m), erR (nearB (d * 10 ^ p.toNat) (10 ^ (-p).toNat) m)]) ∧ Below w.heap.size w w' := by
  obtain ⟨b1, b2⟩ := lpZ_bounds p h1 h2
  obtain ⟨r1, r2, r3⟩ := row_z p h1 h2
  have hL2 : d.log2 < 64 := by rw [Nat.log2_lt (by omega)]; exact hd
  have d2 : d < 2 ^ (d.log2 + 1) := Nat.lt_log2_self
  have hB : 0 < 10 ^ (-p).toNat := Nat.pow_pos (by decide)
  obtain ⟨l, hl2⟩ : ∃ l : Nat, (l : Int) = lpZ p + 400 := ⟨(lpZ p + 400).toNat, by omega⟩
  obtain ⟨z1, z2⟩ := z_bounds d p l h0 h1 h2 hl2
  have hLen := fun w => len64_at (d : Int) (by omega) (by omega) ((d.log2 + 1 : Nat) : Int) (by rw [Int.toNat_natCast, bitLen_log d h0 hd]) w
  have hLg := fun w => log2_z p (lpZ p) (by omega) (by omega) rfl w
  obtain ⟨L, hL⟩ : ∃ L, d.log2 = L := ⟨_, rfl⟩
  rw [hL] at z1 z2 hLen hL2 d2
  have hxlt : d * 2 ^ (63 - L) < 18446744073709551616 := by
    have e : (18446744073709551616 : Nat) = 2 ^ (L + 1) * 2 ^ (63 - L) := by
      rw [← Nat.pow_add, show L + 1 + (63 - L) = 64 by omega]
    rw [e]
    exact Nat.mul_lt_mul_of_pos_right d2 (Nat.two_pow_pos _)
  obtain ⟨E, hE⟩ : ∃ E : Int, min (149 : Int) (24 - ((L + 1 : Nat) : Int) - lpZ p) = E := ⟨_, rfl⟩
  have hEc : (E = 149 ∧ 149 ≤ 24 - ((L + 1 : Nat) : Int) - lpZ p) ∨ (E = 24 - ((L + 1 : Nat) : Int) - lpZ p ∧ 24 - ((L + 1 : Nat) : Int) - lpZ p ≤ 149) := by
    rw [← hE, Int.min_def]; split <;> omega
  obtain ⟨D, hD⟩ : ∃ D : Nat, (D : Int) = 149 - E := ⟨(149 - E).toNat, by omega⟩
  obtain ⟨S, hS⟩ : ∃ S : Nat, (S : Int) = 60 - E - L - lpZ p := ⟨(60 - E - L - lpZ p).toNat, by omega⟩
  have hPre := fun x0 x1 x2 : Int => prescale_any (348 + p).toNat (E - (64 - ((L + 1 : Nat) : Int))) p (lpZ p) ((hiZ p : Nat) : Int) ((loZ p : Nat) : Int) x0 x1 x2 208 w (by omega) (by omega) (by omega) (by omega) hT.hi hT.lo
  rw [show -(E - (64 - ((L + 1 : Nat) : Int)) + lpZ p + 3) = (S : Int) by omega] at hPre
  by_cases hS64 : 64 ≤ S
  · have hz := z_nought (d * 10 ^ p.toNat) (10 ^ (-p).toNat) m (L + l + 2) hB hl z2 (by omega)
    rw [hz]
    exact parse32_nought d (L + 1) _ _ (S : Int) p (lpZ p) E _ w ⟨by omega, by omega⟩ ⟨by omega, by omega⟩ (by omega) hLen hLg hPre hE rfl ⟨by omega, by omega⟩
  · obtain ⟨g1, g2⟩ := z_place d D L l (d * 10 ^ p.toNat) (10 ^ (-p).toNat) hL z1 z2 hB (by omega) (by omega)
    have hu := z_scaled d D L S p E hL hL2 hxlt h1 h2 hD hS (by omega)
    obtain ⟨k0, kA, kB⟩ := near_u (d * 10 ^ p.toNat) (10 ^ (-p).toNat) D m _ hB hl g1 g2 hu.symm
    have hle : d * 2 ^ (63 - L) * loZ p ≤ d * 2 ^ (63 - L) * hiZ p * 18446744073709551616 := by
      rw [Nat.mul_assoc (d * 2 ^ (63 - L))]
      exact Nat.mul_le_mul_left _ r3
    have hU := usc_natZ (d * 2 ^ (63 - L)) (hiZ p) (loZ p) S hxlt r1 r2 (by omega) hle w 0
    have hxw : IntKind.u64.wrap ((d : Int) * 2 ^ (64 - (L + 1))) = ((d * 2 ^ (63 - L) : Nat) : Int) := by
      have e8 : (d : Int) * 2 ^ (64 - (L + 1)) = ((d * 2 ^ (63 - L) : Nat) : Int) := by
        rw [Int.natCast_mul, Int.natCast_pow, show 64 - (L + 1) = 63 - L by omega]; rfl
      rw [e8, IntKind.wrap_u64]
      omega
    clear z1 z2 g1 g2 hu hle hT hl hL d2
    generalize nearB (d * 10 ^ p.toNat) (10 ^ (-p).toNat) m = R at *
    generalize uscN (d * 2 ^ (63 - L)) (hiZ p) (loZ p) S = u at *
    generalize d * 2 ^ (63 - L) = x at *
    by_cases hc : u < 67108862
    · obtain ⟨q1, q2, q3⟩ := kA hc
      refine parse32_z d (L + 1) x u (rndU u) R (erR R) _ _ (S : Int) p (lpZ p) E _ u 0 false w ⟨by omega, by omega⟩ ⟨by omega, by omega⟩ (by omega) hLen hLg hPre hU hE rfl ⟨by omega, by omega⟩ hxw (decide_eq_false (by omega)) rfl (and_one u (by omega)) (by simpa using or_self u (by omega)) (round_nat u (by omega)) q2 (or32_zero _ (by omega)) ?_
      exact fun w => pack_all (rndU u) D _ (by omega) q3 q2 R q1 w
    · obtain ⟨q1, q2, q3⟩ := kB (by omega)
      have hlu : lessU u < 67108864 := by unfold lessU; split <;> omega
      refine parse32_z d (L + 1) x u (rndU (lessU u)) R (erR R) _ _ (S : Int) p (lpZ p) E _ (lessU u) 1 true w ⟨by omega, by omega⟩ ⟨by omega, by omega⟩ (by omega) hLen hLg hPre hU hE rfl ⟨by omega, by omega⟩ hxw (decide_eq_true (by omega)) rfl (and_one u (by omega)) (by simpa using or_less u (by omega)) (round_nat _ (by omega)) q2 (or32_zero _ (by omega)) ?_
      exact fun w => pack_all (rndU (lessU u)) (D + 1) _ (by omega) (Or.inl q3) q2 R q1 w
end Go.Proofs.YtnljpbpphdhnpaaGreatDoor

/- Products and quotients of reals of 32 bits: those of their worths, rounded to the nearest float as the document finds it. -/
namespace Go.Proofs.YtnljpbpphdhnpaaGreatDoor
open Go.RowKit Go.PlainAid

/-- a rung by its digits and its place -/
theorem valN_atQ (e t : Nat) (h1 : t < 16777216) (h2 : e = 0 ∨ 8388608 ≤ t) : valN (e * 8388608 + t) = t * 2 ^ e := by
  unfold valN
  rcases h2 with rfl | h2
  · by_cases h : t < 8388608
    · rw [if_pos (by omega)]; simp
    · rw [if_neg (by omega), show (0 * 8388608 + t) / 8388608 = 1 by omega, show (0 * 8388608 + t) % 8388608 = t - 8388608 by omega]
      simp; omega
  · rw [if_neg (by omega), show (e * 8388608 + t) / 8388608 - 1 = e by omega, show 8388608 + (e * 8388608 + t) % 8388608 = t by omega]
theorem valN_nextQ (e t : Nat) (h1 : t < 16777216) (h2 : e = 0 ∨ 8388608 ≤ t) : valN (e * 8388608 + t + 1) = (t + 1) * 2 ^ e := by
  rw [valN_succ, valN_atQ e t h1 h2, Nat.succ_mul]
  congr 1
  rcases h2 with rfl | h2
  · by_cases h : t < 8388608
    · rw [if_pos (by omega)]
    · rw [if_neg (by omega), show (0 * 8388608 + t) / 8388608 = 1 by omega]
  · rw [if_neg (by omega), show (e * 8388608 + t) / 8388608 - 1 = e by omega]

/-- the rung below V over B is one alone -/
theorem near_floor (V B L n : Nat) (l1 : n ≤ 2139095040) (l2 : valN n * B ≤ V) (l3 : n = 2139095040 ∨ V < valN (n + 1) * B) (lo : valN L * B ≤ V) (hi : V < valN (L + 1) * B) :
    (if n = 2139095040 then n else if (decide ((valN n + valN (n + 1)) * B < 2 * V) || (decide (2 * V = (valN n + valN (n + 1)) * B) && decide (n % 2 = 1))) = true then n + 1 else n) =
      min (L + (decide ((valN L + valN (L + 1)) * B < 2 * V) || (decide (2 * V = (valN L + valN (L + 1)) * B) && decide (L % 2 = 1))).toNat) 2139095040 := by
  have a1 : n < L + 1 := by
    have := Nat.lt_of_le_of_lt l2 hi
    exact valN_iff.1 (Nat.lt_of_mul_lt_mul_right this)
  by_cases ho : n = 2139095040
  · rw [if_pos ho, Nat.min_eq_right (by omega)]; exact ho
  · rw [if_neg ho]
    have l3' : V < valN (n + 1) * B := by rcases l3 with h | h; exact absurd h ho; exact h
    have a2 : L < n + 1 := by
      have := Nat.lt_of_le_of_lt lo l3'
      exact valN_iff.1 (Nat.lt_of_mul_lt_mul_right this)
    obtain rfl : n = L := by omega
    have l1' : n + 1 ≤ 2139095040 := by omega
    generalize (decide ((valN n + valN (n + 1)) * B < 2 * V) || (decide (2 * V = (valN n + valN (n + 1)) * B) && decide (n % 2 = 1))) = b
    cases b
    · rw [if_neg (by decide), Nat.min_eq_left (by simp; omega)]; rfl
    · rw [if_pos rfl, Nat.min_eq_left (by simp; omega)]; rfl

/-- the float nearest to V over B, by the digits that are kept -/
theorem near_at (A V B t e n : Nat) (hV : A * 2 ^ 149 = V) (h1 : t < 16777216) (h2 : e = 0 ∨ 8388608 ≤ t) (lo : t * 2 ^ e * B ≤ V) (hi : V < (t + 1) * 2 ^ e * B) (hl : LowB A B n) :
    nearB A B n = min (e * 8388608 + (t + (decide ((2 * t + 1) * 2 ^ e * B < 2 * V) || (decide (2 * V = (2 * t + 1) * 2 ^ e * B) && decide (t % 2 = 1))).toNat)) 2139095040 := by
  obtain ⟨l1, l2, l3⟩ := hl
  have f1 := valN_atQ e t h1 h2
  have f2 := valN_nextQ e t h1 h2
  rw [← f1] at lo
  rw [← f2] at hi
  have fs : (2 * t + 1) * 2 ^ e * B = (valN (e * 8388608 + t) + valN (e * 8388608 + t + 1)) * B := by
    rw [f1, f2, ← Nat.add_mul]; congr 2; omega
  rw [fs]
  have hpar : (e * 8388608 + t) % 2 = t % 2 := by omega
  rw [← hpar, ← Nat.add_assoc]
  unfold nearB upB
  rw [hV] at l2 l3 ⊢
  exact near_floor V B _ n l1 l2 l3 lo hi

/-- what is rounded (mag, at the place -149 + u - k) stands to all even numbers as V over B does -/
theorem near_core (neg ex : Bool) (mag u k A V B n : Nat) (hV : A * 2 ^ 149 = V) (hB : 0 < B) (hm : 0 < mag) (hb : (u = 0 ∧ ex = true) ∨ 25 ≤ mag.log2)
    (hc : ∀ z, (ex = true ∨ z % 2 = 0) → (mag < z ↔ V * 2 ^ k < z * 2 ^ u * B) ∧ (mag = z ↔ V * 2 ^ k = z * 2 ^ u * B)) (hl : LowB A B n) :
    Ieee.single.nearest neg mag (-149 + (u : Int) - k) = Ieee.single.word neg (nearB A B n) := by
  have e2 : Ieee.single.binade = 8388608 := by decide
  have e3 : Ieee.single.infRung = 2139095040 := by decide
  have e4 : Ieee.single.leastPlace = -149 := by decide
  have e5 : Ieee.single.fractionBits = 23 := rfl
  unfold Ieee.Format.nearest
  rw [if_neg (by omega)]
  simp only [e2, e3, e4, e5, cut_even]
  have g1 : 2 ^ mag.log2 ≤ mag := Nat.log2_self_le (by omega)
  have g2 : mag < 2 ^ (mag.log2 + 1) := Nat.lt_log2_self
  generalize mag.log2 = L at *
  obtain ⟨e, d, hed, he, hs, hd, hd3, hL, hLe⟩ : ∃ e d : Nat, e + k = d + u ∧ (max (-149 + (u : Int) - k + L - (23 : Nat)) (-149) - -149).toNat = e ∧ (-149 + (u : Int) - k - max (-149 + (u : Int) - k + L - (23 : Nat)) (-149)).toNat = 0 ∧ (max (-149 + (u : Int) - k + L - (23 : Nat)) (-149) - (-149 + (u : Int) - k)).toNat = d ∧ (ex = true ∨ 2 ≤ d) ∧ L ≤ d + 23 ∧ (e = 0 ∨ L = d + 23) := by
    refine ⟨(max (-149 + (u : Int) - k + L - (23 : Nat)) (-149) - -149).toNat, (max (-149 + (u : Int) - k + L - (23 : Nat)) (-149) - (-149 + (u : Int) - k)).toNat, ?_, rfl, ?_, rfl, ?_, ?_, ?_⟩
    · omega
    · omega
    · rcases hb with ⟨h1, h2⟩ | h
      · exact .inl h2
      · exact .inr (by omega)
    · omega
    · omega
  rw [he, hs, hd, Nat.shiftLeft_zero]
  clear he hs hd
  have hpow : 2 ^ e * 2 ^ k = 2 ^ d * 2 ^ u := by rw [← Nat.pow_add, ← Nat.pow_add, hed]
  have hp : 0 < 2 ^ d := Nat.two_pow_pos d
  have hk : 0 < 2 ^ k := Nat.two_pow_pos k
  have hdm := Nat.div_add_mod mag (2 ^ d)
  have hlt := Nat.mod_lt mag hp
  have ht1 : mag / 2 ^ d < 16777216 := by
    rw [Nat.div_lt_iff_lt_mul hp, show (16777216 : Nat) = 2 ^ 24 from rfl, ← Nat.pow_add]
    exact Nat.lt_of_lt_of_le g2 (Nat.pow_le_pow_right (by decide) (by omega))
  have ht2 : e = 0 ∨ 8388608 ≤ mag / 2 ^ d := by
    rcases hLe with h | h
    · exact .inl h
    · refine .inr ?_
      rw [Nat.le_div_iff_mul_le hp, show (8388608 : Nat) = 2 ^ 23 from rfl, ← Nat.pow_add]
      exact Nat.le_trans (Nat.pow_le_pow_right (by decide) (by omega)) g1
  -- a whole number of units, put in parts
  have hz : ∀ z, z * 2 ^ e * B * 2 ^ k = z * 2 ^ d * 2 ^ u * B := fun z => by
    rw [Nat.mul_right_comm, Nat.mul_assoc z, hpow, ← Nat.mul_assoc]
  have hev : ∀ z, ex = true ∨ z * 2 ^ d % 2 = 0 := fun z => by
    rcases hd3 with h | h
    · exact .inl h
    · obtain ⟨d', rfl⟩ : ∃ d', d = d' + 1 := ⟨d - 1, by omega⟩
      refine .inr ?_
      rw [Nat.pow_succ, ← Nat.mul_assoc]; omega
  have hcmp : ∀ z, (mag < z * 2 ^ d ↔ V < z * 2 ^ e * B) ∧ (mag = z * 2 ^ d ↔ V = z * 2 ^ e * B) := fun z => by
    obtain ⟨c1, c2⟩ := hc (z * 2 ^ d) (hev z)
    rw [← hz] at c1 c2
    exact ⟨c1.trans (Nat.mul_lt_mul_right hk), c2.trans ⟨fun h => Nat.eq_of_mul_eq_mul_right hk h, fun h => by rw [h]⟩⟩
  -- the middle
  have hmid : ∀ t, (2 * mag < (2 * t + 1) * 2 ^ d ↔ 2 * V < (2 * t + 1) * 2 ^ e * B) ∧ (2 * mag = (2 * t + 1) * 2 ^ d ↔ 2 * V = (2 * t + 1) * 2 ^ e * B) := fun t => by
    have hy := hz (2 * t + 1)
    rcases hd3 with h | h
    · -- exact
      have hx : V * 2 ^ k = mag * 2 ^ u * B := ((hc mag (.inl h)).2).1 rfl
      have hu : 0 < 2 ^ u := Nat.two_pow_pos u
      have hbu : 0 < 2 ^ u * B := Nat.mul_pos hu hB
      have hl : 2 * V * 2 ^ k = 2 * mag * (2 ^ u * B) := by rw [Nat.mul_assoc, hx]; simp only [Nat.mul_assoc]
      have hr : (2 * t + 1) * 2 ^ e * B * 2 ^ k = (2 * t + 1) * 2 ^ d * (2 ^ u * B) := by rw [hy]; simp only [Nat.mul_assoc]
      generalize (2 * t + 1) * 2 ^ e * B = S at *
      generalize (2 * t + 1) * 2 ^ d = T at *
      generalize 2 * V = V2 at *
      generalize 2 * mag = M2 at *
      constructor
      · rw [← Nat.mul_lt_mul_right (b := M2) hbu, ← Nat.mul_lt_mul_right (b := V2) hk, hl, hr]
      · constructor
        · intro h5
          refine Nat.eq_of_mul_eq_mul_right hk ?_
          rw [hl, hr, h5]
        · intro h5
          refine Nat.eq_of_mul_eq_mul_right hbu ?_
          rw [← hl, ← hr, h5]
    · obtain ⟨d', rfl⟩ : ∃ d', d = d' + 2 := ⟨d - 2, by omega⟩
      have hq : (2 * t + 1) * 2 ^ (d' + 2) = 2 * ((2 * t + 1) * 2 ^ (d' + 1)) := by
        rw [Nat.pow_succ 2 (d' + 1), ← Nat.mul_assoc, Nat.mul_comm]
      obtain ⟨c1, c2⟩ := hc ((2 * t + 1) * 2 ^ (d' + 1)) (.inr (by rw [Nat.pow_succ, ← Nat.mul_assoc]; omega))
      rw [hq, Nat.mul_assoc 2, Nat.mul_assoc 2] at hy
      rw [hq]
      generalize (2 * t + 1) * 2 ^ (d' + 1) = Z at *
      generalize Z * 2 ^ u * B = Y at *
      generalize (2 * t + 1) * 2 ^ e * B = S at *
      have y1 : V * 2 ^ k < Y ↔ 2 * V < S := by
        rw [← Nat.mul_lt_mul_right (b := 2 * V) hk, hy, Nat.mul_assoc]; omega
      have y2 : V * 2 ^ k = Y ↔ 2 * V = S := by
        constructor
        · intro h5
          refine Nat.eq_of_mul_eq_mul_right hk ?_
          rw [hy, Nat.mul_assoc, h5]
        · intro h5
          rw [← h5, Nat.mul_assoc] at hy; omega
      exact ⟨Iff.trans (by omega) (c1.trans y1), Iff.trans (by omega) (c2.trans y2)⟩
  have lo : mag / 2 ^ d * 2 ^ e * B ≤ V := by
    refine Nat.le_of_not_lt fun h => ?_
    have := ((hcmp (mag / 2 ^ d)).1).2 h
    rw [Nat.mul_comm] at this; omega
  have hi : V < (mag / 2 ^ d + 1) * 2 ^ e * B := by
    refine ((hcmp (mag / 2 ^ d + 1)).1).1 ?_
    rw [Nat.succ_mul, Nat.mul_comm (mag / 2 ^ d)]; omega
  rw [near_at A V B (mag / 2 ^ d) e n hV ht1 ht2 lo hi hl]
  refine congrArg (fun x => Ieee.single.word neg (min (e * 8388608 + x) 2139095040)) ?_
  unfold rne rneB
  obtain ⟨m1, m2⟩ := hmid (mag / 2 ^ d)
  have hx : (2 * (mag / 2 ^ d) + 1) * 2 ^ d = 2 * (2 ^ d * (mag / 2 ^ d)) + 2 ^ d := by
    rw [Nat.succ_mul, Nat.mul_assoc, Nat.mul_comm (mag / 2 ^ d)]
  rw [hx] at m1 m2
  have q1 : decide (2 ^ d < 2 * (mag % 2 ^ d)) = decide ((2 * (mag / 2 ^ d) + 1) * 2 ^ e * B < 2 * V) := by
    apply decide_eq_decide.2
    generalize (2 * (mag / 2 ^ d) + 1) * 2 ^ e * B = S at *
    generalize mag % 2 ^ d = r at *
    generalize 2 ^ d * (mag / 2 ^ d) = q at *
    generalize 2 ^ d = p at *
    omega
  have q2 : (2 ^ d == 2 * (mag % 2 ^ d)) = decide (2 * V = (2 * (mag / 2 ^ d) + 1) * 2 ^ e * B) := by
    rw [Bool.eq_iff_iff]
    simp only [beq_iff_eq, decide_eq_true_eq]
    rw [← m2]
    generalize mag % 2 ^ d = r at *
    generalize 2 ^ d * (mag / 2 ^ d) = q at *
    generalize 2 ^ d = p at *
    omega
  have q3 : (mag / 2 ^ d % 2 == 1) = decide (mag / 2 ^ d % 2 = 1) := by
    rw [Bool.eq_iff_iff]
    simp only [beq_iff_eq, decide_eq_true_eq]
  rw [q1, q2, q3]

theorem near_nought (B n : Nat) (hB : 0 < B) (hl : LowB 0 B n) : nearB 0 B n = 0 := by
  obtain ⟨l1, l2, l3⟩ := hl
  rw [Nat.zero_mul] at l2
  have h0 : n = 0 := by
    refine Decidable.byContradiction fun h => ?_
    have h1 : valN 0 < valN n := valN_lt (by omega)
    have := Nat.mul_pos (show 0 < valN n by omega) hB
    omega
  subst h0
  unfold nearB upB
  have h1 : 0 < (valN 0 + valN (0 + 1)) * B := Nat.mul_pos (by decide) hB
  have h2 : 2 * (0 * 2 ^ 149) = 0 := by rw [Nat.zero_mul]
  rw [if_neg (by decide), decide_eq_false (show ¬ (valN 0 + valN (0 + 1)) * B < 2 * (0 * 2 ^ 149) by rw [h2]; omega), decide_eq_false (show ¬ 2 * (0 * 2 ^ 149) = (valN 0 + valN (0 + 1)) * B by rw [h2]; omega)]
  rfl

theorem near_wholeQ (A V B X n : Nat) (hV : A * 2 ^ 149 = V) (hB : 0 < B) (hx : V = X * B) (hl : LowB A B n) : nearB A B n = rndR X := by
  obtain ⟨l1, l2, l3⟩ := hl
  rw [hV, hx] at l2 l3
  have hlow : Low X n := ⟨l1, Nat.le_of_mul_le_mul_right l2 hB, by
    rcases l3 with h | h
    · exact .inl h
    · exact .inr (Nat.lt_of_mul_lt_mul_right h)⟩
  rw [← near_rnd X n hlow]
  unfold nearB nearN upB
  rw [hV, hx, ← Nat.mul_assoc]
  have c1 : decide ((valN n + valN (n + 1)) * B < 2 * X * B) = decide (valN n + valN (n + 1) < 2 * X) := by
    apply decide_eq_decide.2; exact Nat.mul_lt_mul_right hB
  have c2 : decide (2 * X * B = (valN n + valN (n + 1)) * B) = decide (2 * X = valN n + valN (n + 1)) := by
    apply decide_eq_decide.2; exact ⟨fun h => Nat.eq_of_mul_eq_mul_right hB h, fun h => by rw [h]⟩
  rw [c1, c2]

/-- a product of two finite reals: that of their worths, rounded -/
theorem mul_num (a c A V B n : Nat) (ha : rungN a < 2139095040) (hc : rungN c < 2139095040) (hV : A * 2 ^ 149 = V) (hB : 0 < B) (hx : V * 2 ^ 149 = valN (rungN a) * valN (rungN c) * B) (hl : LowB A B n) :
    Ieee.single.mul a c = some (Ieee.single.word ((a / 2147483648 % 2 == 1) ^^ (c / 2147483648 % 2 == 1)) (nearB A B n)) := by
  obtain ⟨m, i, ra, va⟩ := read_num a ha
  obtain ⟨m', j, rc, vc⟩ := read_num c hc
  unfold Ieee.Format.mul
  rw [ra, rc]
  simp only [Ieee.Datum.product, Option.map_some, Ieee.Format.write]
  generalize ((a / 2147483648 % 2 == 1) ^^ (c / 2147483648 % 2 == 1)) = neg
  have hx2 : V * 2 ^ 149 = m * m' * B * 2 ^ (i + j) := by
    rw [hx, ← va, ← vc, Nat.pow_add]
    rw [Nat.mul_mul_mul_comm m, Nat.mul_right_comm]
  clear hx va vc
  generalize m * m' = mag at *
  congr 1
  by_cases h0 : mag = 0
  · have hA : A = 0 := by
      have h1 : V * 2 ^ 149 = 0 := by rw [hx2, h0]; simp
      have h2 : V = 0 := by
        rcases Nat.mul_eq_zero.1 h1 with h | h
        · exact h
        · exact absurd h (Nat.pos_iff_ne_zero.1 (Nat.two_pow_pos 149))
      rw [h2] at hV
      rcases Nat.mul_eq_zero.1 hV with h | h
      · exact h
      · exact absurd h (Nat.pos_iff_ne_zero.1 (Nat.two_pow_pos 149))
    rw [hA] at hl ⊢
    rw [near_nought B n hB hl]
    unfold Ieee.Format.nearest
    rw [if_pos h0]
  by_cases hij : 149 ≤ i + j
  · obtain ⟨u, hu⟩ : ∃ u, i + j = u + 149 := ⟨i + j - 149, by omega⟩
    rw [hu, Nat.pow_add, ← Nat.mul_assoc] at hx2
    have h1 := Nat.eq_of_mul_eq_mul_right (Nat.two_pow_pos 149) hx2
    rw [Nat.mul_right_comm] at h1
    rw [near_wholeQ A V B (mag * 2 ^ u) n hV hB h1 hl, ← nearest_rnd]
    congr 1
    omega
  · obtain ⟨k, hk⟩ : ∃ k, 149 = k + (i + j) := ⟨149 - (i + j), by omega⟩
    have h1 : V * 2 ^ k = mag * B := by
      refine Nat.eq_of_mul_eq_mul_right (Nat.two_pow_pos (i + j)) ?_
      rw [← hx2, Nat.mul_assoc, ← Nat.pow_add, ← hk]
    rw [← near_core neg true mag 0 k A V B n hV hB (by omega) (.inl ⟨rfl, rfl⟩) (fun z _ => by
      rw [h1, Nat.pow_zero, Nat.mul_one]
      exact ⟨(Nat.mul_lt_mul_right hB).symm, ⟨fun h => by rw [h], fun h => Nat.eq_of_mul_eq_mul_right hB h⟩⟩) hl]
    congr 1
    omega

/-- a quotient of two finite reals: that of their worths, rounded -/
theorem div_num (a c A V B n : Nat) (ha : rungN a < 2139095040) (hc : rungN c < 2139095040) (hc0 : valN (rungN c) ≠ 0) (hV : A * 2 ^ 149 = V) (hB : 0 < B) (hx : A * valN (rungN c) = valN (rungN a) * B) (hl : LowB A B n) :
    Ieee.single.div a c = some (Ieee.single.word ((a / 2147483648 % 2 == 1) ^^ (c / 2147483648 % 2 == 1)) (nearB A B n)) := by
  obtain ⟨m, i, ra, va⟩ := read_num a ha
  obtain ⟨y, j, rc, vc⟩ := read_num c hc
  unfold Ieee.Format.div
  rw [ra, rc]
  have hy : y ≠ 0 := fun h => hc0 (by rw [← vc, h, Nat.zero_mul])
  simp only [Ieee.Datum.quotient]
  rw [if_neg hy]
  simp only [Option.map_some, Ieee.Format.write]
  generalize ((a / 2147483648 % 2 == 1) ^^ (c / 2147483648 % 2 == 1)) = neg
  rw [show Ieee.single.fractionBits + 2 = 25 from rfl, Nat.shiftLeft_eq]
  obtain ⟨more, hmore⟩ : ∃ more, 25 + y.log2 - m.log2 = more := ⟨_, rfl⟩
  rw [hmore]
  have hx2 : A * (y * 2 ^ j) = m * 2 ^ i * B := by rw [vc, va]; exact hx
  clear hx va vc
  congr 1
  by_cases h0 : m = 0
  · have hA : A = 0 := by
      have h1 : A * (y * 2 ^ j) = 0 := by rw [hx2, h0]; simp
      rcases Nat.mul_eq_zero.1 h1 with h | h
      · exact h
      · exact absurd h (Nat.pos_iff_ne_zero.1 (Nat.mul_pos (by omega) (Nat.two_pow_pos j)))
    rw [hA] at hl ⊢
    rw [near_nought B n hB hl]
    unfold Ieee.Format.nearest
    rw [if_pos (by rw [h0]; simp)]
  have l1 : 2 ^ m.log2 ≤ m := Nat.log2_self_le h0
  have l2 : y < 2 ^ (y.log2 + 1) := Nat.lt_log2_self
  have hD : 2 ^ (25 + y.log2) ≤ m * 2 ^ more := by
    refine Nat.le_trans (Nat.pow_le_pow_right (by decide) (show 25 + y.log2 ≤ m.log2 + more by omega)) ?_
    rw [Nat.pow_add]; exact Nat.mul_le_mul_right _ l1
  have hq : 16777216 ≤ m * 2 ^ more / y := by
    rw [Nat.le_div_iff_mul_le (by omega)]
    refine Nat.le_trans ?_ hD
    rw [show 25 + y.log2 = 24 + (y.log2 + 1) by omega, Nat.pow_add 2 24]
    exact Nat.mul_le_mul (Nat.le_refl _) (Nat.le_of_lt l2)
  generalize hDD : m * 2 ^ more = D at *
  have hdm := Nat.div_add_mod D y
  have hlt := Nat.mod_lt D (show y > 0 by omega)
  obtain ⟨mag, hmag⟩ : ∃ mag, 2 * (D / y) + (D % y != 0).toNat = mag := ⟨_, rfl⟩
  rw [hmag]
  have hb : (D % y != 0).toNat ≤ 1 := Bool.toNat_le _
  have hbz : (D % y != 0).toNat = 0 ↔ D % y = 0 := by
    by_cases h : D % y = 0
    · simp [h]
    · simp [h]
  have hlog : 25 ≤ mag.log2 := by
    refine Nat.le_of_not_lt fun h => ?_
    have := (Nat.log2_lt (by omega : mag ≠ 0)).1 h
    omega
  have hw : V * 2 ^ (j + more + 1) * y = 2 * D * (2 ^ (149 + i) * B) := by
    rw [← hV, ← hDD, Nat.pow_succ 2 (j + more), Nat.pow_add 2 j, Nat.pow_add 2 149]
    have : A * 2 ^ 149 * (2 ^ j * 2 ^ more * 2) * y = A * (y * 2 ^ j) * (2 ^ 149 * 2 ^ more * 2) := by
      simp only [Nat.mul_assoc, Nat.mul_comm, Nat.mul_left_comm]
    rw [this, hx2]
    simp only [Nat.mul_assoc, Nat.mul_comm, Nat.mul_left_comm]
  rw [← near_core neg false mag (149 + i) (j + more + 1) A V B n hV hB (by omega) (.inr hlog) (fun z hz => by
    have hz2 : z % 2 = 0 := by rcases hz with h | h; cases h; exact h
    obtain ⟨h, rfl⟩ : ∃ h, z = 2 * h := ⟨z / 2, by omega⟩
    have hy0 : 0 < y := by omega
    have hub : 0 < 2 ^ (149 + i) * B := Nat.mul_pos (Nat.two_pow_pos _) hB
    have e1 : 2 * h * 2 ^ (149 + i) * B * y = 2 * (h * y) * (2 ^ (149 + i) * B) := by
      simp only [Nat.mul_assoc, Nat.mul_comm, Nat.mul_left_comm]
    generalize 2 * h * 2 ^ (149 + i) * B = Y at *
    generalize V * 2 ^ (j + more + 1) = X at *
    generalize 2 ^ (149 + i) * B = U at *
    have c1 : X < Y ↔ D < h * y := by
      rw [← Nat.mul_lt_mul_right (b := X) hy0, hw, e1, Nat.mul_lt_mul_right hub]; omega
    have c2 : X = Y ↔ D = h * y := by
      constructor
      · intro h5
        rw [h5, e1] at hw
        have := Nat.eq_of_mul_eq_mul_right hub hw
        omega
      · intro h5
        refine Nat.eq_of_mul_eq_mul_right hy0 ?_
        rw [hw, e1, h5]
    rw [c1, c2, ← Nat.div_lt_iff_lt_mul hy0]
    refine ⟨by omega, ?_⟩
    constructor
    · intro h5
      have h6 : D / y = h := by omega
      have h7 : D % y = 0 := hbz.1 (by omega)
      rw [h6, h7, Nat.mul_comm] at hdm
      omega
    · intro h5
      have h6 : D / y = h := by rw [h5]; exact Nat.mul_div_cancel _ hy0
      have h7 : D % y = 0 := by rw [h5]; exact Nat.mul_mod_left _ _
      have := hbz.2 h7
      omega) hl]
  congr 1
  omega
end Go.Proofs.YtnljpbpphdhnpaaGreatDoor

/- The library's exact way for short numbers, at every power: the document's Nearest. -/
namespace Go.Proofs.YtnljpbpphdhnpaaGreatDoor
open Go.RowKit Go.PlainAid

set_option maxRecDepth 1000000 in
theorem exact_longZ (d : Nat) (p : Int) (w : World) (hd : 8388608 ≤ d) (hd2 : d < 18446744073709551616) :
    Calls Tryz.prog 157 #[.int .u64 (d : Int), .int .i64 p, .bool false] w fun e w' => e = .returned (.tuple #[.float .f32 0, .bool false]) ∧ w' = w := by
  have hs : ((d : Int) / 8388608 != 0) = true := by simp; omega
  go_enter Tryz.func157, Tryz.ntmps157
  go_wp2
  go_ret2
  exact ⟨rfl, rfl⟩
set_option maxRecDepth 1000000 in
theorem exact_over (d f : Nat) (p : Int) (w : World) (hd : d < 8388608) (hp : 18 ≤ p ∧ p ≤ 40) (hc : ∀ w, (convert 65 22 (.int .u64 (d : Int))).run Tryz.prog w = .ok (.float .f32 f) w) :
    Calls Tryz.prog 157 #[.int .u64 (d : Int), .int .i64 p, .bool false] w fun e w' => e = .returned (.tuple #[.float .f32 f, .bool false]) ∧ w' = w := by
  have hs : (d : Int) / 8388608 = 0 := by omega
  obtain ⟨hp1, hp2⟩ := hp
  go_enter Tryz.func157, Tryz.ntmps157
  go_wp2
  go_ret2
  exact ⟨rfl, rfl⟩
set_option maxRecDepth 1000000 in
theorem exact_under (d f : Nat) (p : Int) (w : World) (hd : d < 8388608) (hp : -70 ≤ p ∧ p < -10) (hc : ∀ w, (convert 65 22 (.int .u64 (d : Int))).run Tryz.prog w = .ok (.float .f32 f) w) :
    Calls Tryz.prog 157 #[.int .u64 (d : Int), .int .i64 p, .bool false] w fun e w' => e = .returned (.tuple #[.float .f32 f, .bool false]) ∧ w' = w := by
  have hs : (d : Int) / 8388608 = 0 := by omega
  obtain ⟨hp1, hp2⟩ := hp
  go_enter Tryz.func157, Tryz.ntmps157
  go_wp2
  go_ret2
  exact ⟨rfl, rfl⟩
set_option maxRecDepth 1000000 in
set_option maxHeartbeats 400000 in
theorem exact_quo (d f g z b o cap q : Nat) (p : Int) (w : World) (hd : d < 8388608) (hp : -10 ≤ p ∧ p < 0) (hq : -p = (q : Int)) (hc : ∀ w, (convert 65 22 (.int .u64 (d : Int))).run Tryz.prog w = .ok (.float .f32 f) w)
    (hv : w.cell? ⟨10, 0, none⟩ = some (.slice (some ⟨b, o, none⟩) 11 cap)) (hg : w.cell? ⟨b, o + q, none⟩ = some (.float .f32 g)) (hm : ∀ w, (binOp .quo 22 (.float .f32 f) (.float .f32 g)).run Tryz.prog w = .ok (.float .f32 z) w) :
    Calls Tryz.prog 157 #[.int .u64 (d : Int), .int .i64 p, .bool false] w fun e w' => e = .returned (.tuple #[.float .f32 z, .bool true]) ∧ w' = w := by
  have hs : (d : Int) / 8388608 = 0 := by omega
  obtain ⟨hp1, hp2⟩ := hp
  go_enter Tryz.func157, Tryz.ntmps157
  go_wp2
  go_ret2
  exact ⟨rfl, rfl⟩
end Go.Proofs.YtnljpbpphdhnpaaGreatDoor
