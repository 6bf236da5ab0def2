/- The library's readFloat of a digit, a point, digits of any length and a power. -/
import Derived.Test.YtnljpbpphdhnpaaGreatDoorRdH
import Derived.Test.YtnljpbpphdhnpaaGreatDoorUzX
import Derived.Test.YtnljpbpphdhnpaaGreatDoorShelf
import Derived.Shelf.Strconv.ToErrorRange
import Derived.Test.YtnljpbpphdhnpaaGreatDoorProg

namespace Go.Proofs.YtnljpbpphdhnpaaGreatDoor
open Go.RowKit Go.PlainAid

/-- something that is no nought stands behind the nineteenth digit -/
def cutOff (cs : List UInt8) : Bool := (cs.drop 18).any fun c => decide ((c.toNat : Int) ≠ 48)
def MZ (c0 : UInt8) (cs : List UInt8) (k : Nat) : Int := if k = 0 then 0 else (dvL (c0 :: (cs.take (k - 2)).take 18) : Int)
def ndZ (k : Nat) : Int := if k = 0 then 0 else 1 + ((k - 2 : Nat) : Int)
def nmZ (k : Nat) : Int := if k = 0 then 0 else 1 + ((min (k - 2) 18 : Nat) : Int)
def dpZ (k : Nat) : Int := if k ≤ 1 then 0 else 1

theorem run_z (c0 : UInt8) (cs es : List UInt8) (h0 : 49 ≤ c0.toNat ∧ c0.toNat ≤ 57) (hc : Dig cs) (hl : cs.length ≤ 1099511627000) :
    RunZ (bl (numT c0 cs es)) (2 + cs.length) (MZ c0 cs) ndZ nmZ dpZ (fun k => decide (2 ≤ k)) (fun k => cutOff (cs.take (k - 2))) := by
  intro k hk
  have hlen := num_len c0 cs es
  rw [num_at c0 cs es k (by omega)]
  rcases Nat.lt_or_ge k 2 with h2 | h2
  · have : k = 0 ∨ k = 1 := by omega
    rcases this with rfl | rfl
    · right; left
      have e : (numT c0 cs es)[0] = c0 := rfl
      rw [e]
      simp only [MZ, ndZ, nmZ, dpZ, dvL, List.foldl_cons, cutOff]
      simp
      omega
    · left
      have e : (numT c0 cs es)[1] = 46 := rfl
      rw [e]
      simp [MZ, ndZ, nmZ, dpZ]
  · obtain ⟨j, rfl⟩ : ∃ j, k = j + 2 := ⟨k - 2, by omega⟩
    have hj : j < cs.length := by omega
    have e : (numT c0 cs es)[j + 2]'(by omega) = cs[j] := by
      unfold numT
      simp only [List.getElem_cons_succ]
      exact List.getElem_append_left hj
    rw [e]
    have hd := hc cs[j] (List.getElem_mem hj)
    have ht : cs.take (j + 1) = cs.take j ++ [cs[j]] := List.take_succ_eq_append_getElem hj
    have hlj : (cs.take j).length = j := by rw [List.length_take]; omega
    right
    unfold MZ ndZ nmZ dpZ
    simp only [show j + 2 - 2 = j by omega, show j + 2 + 1 - 2 = j + 1 by omega, show ¬ (j + 2 = 0) by omega, show ¬ (j + 2 + 1 = 0) by omega, if_false, show ¬ (j + 2 ≤ 1) by omega, show ¬ (j + 2 + 1 ≤ 1) by omega]
    by_cases h18 : j < 18
    · left
      have t1 : (cs.take j).take 18 = cs.take j := List.take_of_length_le (by omega)
      have t2 : (cs.take (j + 1)).take 18 = cs.take (j + 1) := List.take_of_length_le (by rw [List.length_take]; omega)
      have c1 : cutOff (cs.take j) = false := by unfold cutOff; rw [List.drop_eq_nil_of_le (by omega)]; rfl
      have c2 : cutOff (cs.take (j + 1)) = false := by unfold cutOff; rw [List.drop_eq_nil_of_le (by rw [List.length_take]; omega)]; rfl
      have hlt : dvL (c0 :: cs.take j) < 10 ^ (1 + j) := by
        have := dv_lt (c0 :: cs.take j) (by
          intro c hc'
          rcases List.mem_cons.1 hc' with rfl | hc'
          · omega
          · exact hc c (List.mem_of_mem_take hc'))
        simpa [Nat.min_eq_left (Nat.le_of_lt hj), Nat.add_comm] using this
      have hle : 10 ^ (1 + j) ≤ 10 ^ 18 := Nat.pow_le_pow_right (by decide) (by omega)
      have hs : dvL (c0 :: cs.take (j + 1)) = dvL (c0 :: cs.take j) * 10 + (cs[j].toNat - 48) := by
        rw [← dv_snoc, ht]; rfl
      rw [t1, t2, c1, c2, hs, Nat.min_eq_left (show j ≤ 18 by omega), Nat.min_eq_left (show j + 1 ≤ 18 by omega)]
      refine ⟨by omega, by omega, by omega, by omega, by omega, by omega, by omega, by omega, by omega, by omega, by omega, (by first | trivial | rfl), by simp, by omega, (by first | trivial | rfl)⟩
    · right
      have t2 : (cs.take (j + 1)).take 18 = (cs.take j).take 18 := by
        rw [ht, List.take_append_of_le_length (by omega)]
      have c2 : cutOff (cs.take (j + 1)) = (cutOff (cs.take j) || decide ((cs[j].toNat : Int) ≠ 48)) := by
        unfold cutOff
        rw [ht, List.drop_append_of_le_length (by omega), List.any_append]
        simp
      rw [t2, c2, Nat.min_eq_right (show 18 ≤ j by omega), Nat.min_eq_right (show 18 ≤ j + 1 by omega)]
      refine ⟨by omega, by omega, by omega, by omega, by omega, (by first | trivial | rfl), by omega, (by first | trivial | rfl), by simp, by omega, (by first | trivial | rfl)⟩

theorem run_down (c0 : UInt8) (cs es : List UInt8) (he : Dig es) (hl : es.length ≤ 2) :
    RunE (bl (numT c0 cs (45 :: es))) (2 + cs.length + 2) (bl (numT c0 cs (45 :: es))).size (fun k => (dvL (es.take (k - (2 + cs.length + 2))) : Int)) := by
  intro k h1 h2
  have hlen := num_len c0 cs (45 :: es)
  rw [List.length_cons] at hlen
  rw [bl_size] at h2
  obtain ⟨j, rfl⟩ : ∃ j, k = 2 + cs.length + 2 + j := ⟨k - (2 + cs.length + 2), by omega⟩
  have hj : j < es.length := by omega
  rw [num_at c0 cs (45 :: es) _ h2]
  have e : (numT c0 cs (45 :: es))[2 + cs.length + 2 + j] = es[j] := by
    unfold numT
    simp only [show 2 + cs.length + 2 + j = (cs.length + (j + 2)) + 1 + 1 by omega, List.getElem_cons_succ]
    rw [List.getElem_append_right (by omega)]
    simp
  rw [e]
  have hd := he es[j] (List.getElem_mem hj)
  have hlt : dvL (es.take j) < 10 ^ j := by
    have := dv_lt (es.take j) (fun c hc' => he c (List.mem_of_mem_take hc'))
    simpa [Nat.min_eq_left (Nat.le_of_lt hj)] using this
  have hle : 10 ^ j ≤ 10 ^ 2 := Nat.pow_le_pow_right (by decide) (by omega)
  have hs : dvL (es.take (j + 1)) = dvL (es.take j) * 10 + (es[j].toNat - 48) := by
    rw [← dv_snoc, List.take_succ_eq_append_getElem hj]
  simp only [show 2 + cs.length + 2 + j - (2 + cs.length + 2) = j by omega, show 2 + cs.length + 2 + j + 1 - (2 + cs.length + 2) = j + 1 by omega]
  rw [hs]
  omega

theorem dv_pos (c0 : UInt8) (cs : List UInt8) (h0 : 49 ≤ c0.toNat) : 0 < dvL (c0 :: cs) := by
  have : ∀ (l : List UInt8) (a : Nat), 0 < a → 0 < l.foldl (fun a c => a * 10 + (c.toNat - 48)) a := by
    intro l
    induction l with
    | nil => intro a h; exact h
    | cons c l ih => intro a h; exact ih _ (Nat.lt_of_lt_of_le (show 0 < a * 10 by omega) (Nat.le_add_right _ _))
  exact this cs _ (by simp; omega)
theorem num_e (c0 : UInt8) (cs es : List UInt8) (h : 2 + cs.length < (numT c0 cs es).length) : (numT c0 cs es)[2 + cs.length] = 101 := by
  unfold numT
  simp only [show 2 + cs.length = cs.length + 1 + 1 by omega, List.getElem_cons_succ]
  rw [List.getElem_append_right (by omega)]
  simp
theorem z_fin (c0 : UInt8) (cs : List UInt8) (h0 : 49 ≤ c0.toNat) : decide (2 ≤ 2 + cs.length) = true ∧ 0 < ndZ (2 + cs.length) ∧ MZ c0 cs (2 + cs.length) ≠ 0 ∧ 0 ≤ dpZ (2 + cs.length) ∧ dpZ (2 + cs.length) ≤ 100 ∧ 0 ≤ nmZ (2 + cs.length) ∧ nmZ (2 + cs.length) ≤ 19 := by
  have hp := dv_pos c0 ((cs.take (2 + cs.length - 2)).take 18) h0
  unfold ndZ MZ dpZ nmZ
  simp only [show ¬ (2 + cs.length = 0) by omega, if_false, show ¬ (2 + cs.length ≤ 1) by omega]
  have hm : min (2 + cs.length - 2) 18 ≤ 18 := Nat.min_le_right _ _
  refine ⟨by simp, by omega, by omega, by omega, by omega, by omega, by omega⟩
theorem z_end (c0 : UInt8) (cs : List UInt8) : MZ c0 cs (2 + cs.length) = (dvL (c0 :: cs.take 18) : Int) ∧ nmZ (2 + cs.length) = 1 + ((min cs.length 18 : Nat) : Int) ∧ dpZ (2 + cs.length) = 1 ∧ cutOff (cs.take (2 + cs.length - 2)) = cutOff cs := by
  unfold MZ dpZ nmZ
  simp only [show ¬ (2 + cs.length = 0) by omega, if_false, show ¬ (2 + cs.length ≤ 1) by omega, show 2 + cs.length - 2 = cs.length by omega, List.take_length]
  exact ⟨trivial, trivial, trivial, trivial⟩
theorem dv_two (es : List UInt8) (he : Dig es) (hle : es.length ≤ 2) : dvL es < 100 := by
  have h1 := dv_lt es he
  have h2 : 10 ^ es.length ≤ 10 ^ 2 := Nat.pow_le_pow_right (by decide) hle
  omega

/-- a power above -/
theorem read_up (c0 : UInt8) (cs es : List UInt8) (h0 : 49 ≤ c0.toNat ∧ c0.toNat ≤ 57) (hc : Dig cs) (hl : cs.length ≤ 1099511627000) (he : Dig es) (hle : es.length ≤ 2) (hes : 0 < es.length) (w : World) :
    Calls Tryz.prog 153 #[.string (bl (numT c0 cs es))] w fun e w' => e = .returned (.tuple #[.int .u64 (dvL (c0 :: cs.take 18) : Int), .int .i64 ((dvL es : Int) - ((min cs.length 18 : Nat) : Int)), .bool false, .bool (cutOff cs), .bool false, .int .i64 ((bl (numT c0 cs es)).size : Nat), .bool true]) ∧ w' = w := by
  have hlen := num_len c0 cs es
  have hdv := dv_two es he hle
  obtain ⟨y1, y2, y3, y4⟩ := z_end c0 cs
  have h := readFloat_pos (bl (numT c0 cs es)) (2 + cs.length) _ _ _ _ _ _ _ w (by rw [bl_size]; omega) (run_z c0 cs es h0 hc hl) ⟨rfl, rfl, rfl, rfl, rfl, rfl⟩ (by omega)
    (by rw [num_at c0 cs es 0 (by omega)]; show 49 ≤ (c0.toNat : Int) ∧ (c0.toNat : Int) ≤ 57; omega)
    (z_fin c0 cs h0.1) (by rw [num_at c0 cs es _ (by omega), num_e c0 cs es (by omega)]; rfl)
    (by rw [bl_size]; omega) (run_e c0 cs es he hle) (by simp [dvL])
    (by
      rw [bl_size, hlen, show cs.length + es.length + 3 - (2 + cs.length + 1) = es.length by omega, List.take_length]
      omega)
  rw [y1, y2, y3, y4, bl_size, hlen, show cs.length + es.length + 3 - (2 + cs.length + 1) = es.length by omega, List.take_length, show (1 : Int) + (dvL es : Int) - (1 + ((min cs.length 18 : Nat) : Int)) = (dvL es : Int) - ((min cs.length 18 : Nat) : Int) by omega] at h
  rw [bl_size, hlen]
  exact h
/-- a power below -/
theorem read_down (c0 : UInt8) (cs es : List UInt8) (h0 : 49 ≤ c0.toNat ∧ c0.toNat ≤ 57) (hc : Dig cs) (hl : cs.length ≤ 1099511627000) (he : Dig es) (hle : es.length ≤ 2) (hes : 0 < es.length) (w : World) :
    Calls Tryz.prog 153 #[.string (bl (numT c0 cs (45 :: es)))] w fun e w' => e = .returned (.tuple #[.int .u64 (dvL (c0 :: cs.take 18) : Int), .int .i64 (-(dvL es : Int) - ((min cs.length 18 : Nat) : Int)), .bool false, .bool (cutOff cs), .bool false, .int .i64 ((bl (numT c0 cs (45 :: es))).size : Nat), .bool true]) ∧ w' = w := by
  have hlen := num_len c0 cs (45 :: es)
  rw [List.length_cons] at hlen
  have hdv := dv_two es he hle
  obtain ⟨y1, y2, y3, y4⟩ := z_end c0 cs
  have h := readFloat_neg (bl (numT c0 cs (45 :: es))) (2 + cs.length) _ _ _ _ _ _ _ w (by rw [bl_size]; omega) (run_z c0 cs (45 :: es) h0 hc hl) ⟨rfl, rfl, rfl, rfl, rfl, rfl⟩ (by omega)
    (by rw [num_at c0 cs (45 :: es) 0 (by omega)]; show 49 ≤ (c0.toNat : Int) ∧ (c0.toNat : Int) ≤ 57; omega)
    (z_fin c0 cs h0.1) (by rw [num_at c0 cs (45 :: es) _ (by omega), num_e c0 cs (45 :: es) (by omega)]; rfl)
    (by
      rw [num_at c0 cs (45 :: es) _ (by omega)]
      have e : (numT c0 cs (45 :: es))[2 + cs.length + 1]'(by omega) = 45 := by
        unfold numT
        simp only [show 2 + cs.length + 1 = (cs.length + 1) + 1 + 1 by omega, List.getElem_cons_succ]
        rw [List.getElem_append_right (by omega)]
        simp
      rw [e]; rfl)
    (by rw [bl_size]; omega) (run_down c0 cs es he hle) (by simp [dvL])
    (by
      rw [bl_size, hlen, show cs.length + (es.length + 1) + 3 - (2 + cs.length + 2) = es.length by omega, List.take_length]
      omega)
  rw [y1, y2, y3, y4, bl_size, hlen, show cs.length + (es.length + 1) + 3 - (2 + cs.length + 2) = es.length by omega, List.take_length, show (1 : Int) + -(dvL es : Int) - (1 + ((min cs.length 18 : Nat) : Int)) = -(dvL es : Int) - ((min cs.length 18 : Nat) : Int) by omega] at h
  rw [bl_size, hlen]
  exact h
end Go.Proofs.YtnljpbpphdhnpaaGreatDoor

/- The library's atof32 of up to nineteen digits at every power: the document's Nearest, and whether it is too great. -/
namespace Go.Proofs.YtnljpbpphdhnpaaGreatDoor
open Go.RowKit Go.PlainAid

/-- what the exact way answers -/
def ExB (R : Nat) (e : Ending) : Prop := (∃ f, e = .returned (.tuple #[.float .f32 f, .bool false])) ∨ (e = .returned (.tuple #[.float .f32 R, .bool true]) ∧ R ≠ 2139095040)

theorem quo_whole (d q m : Nat) (h0 : 0 < d) (hd : d < 8388608) (hq : q ≤ 10) (hl : LowB d (10 ^ q) m) :
    floatBits .quo .f32 (rndR (d * P149)) (rndR (10 ^ q * P149)) = some (nearB d (10 ^ q) m) ∧ nearB d (10 ^ q) m ≠ 2139095040 := by
  obtain ⟨v1, v2⟩ := held d h0 (by omega)
  obtain ⟨w1, w2⟩ := ten_held q hq
  have hB : 0 < 10 ^ q := Nat.pow_pos (by decide)
  have r1 : rungN (rndR (d * P149)) = rndR (d * P149) := by unfold rungN; omega
  have r2 : rungN (rndR (10 ^ q * P149)) = rndR (10 ^ q * P149) := by unfold rungN; omega
  have hdv := div_num (rndR (d * P149)) (rndR (10 ^ q * P149)) d (d * 2 ^ 149) (10 ^ q) m (by rw [r1]; exact v2) (by rw [r2]; exact w2) (by rw [r2, w1]; exact Nat.ne_of_gt (Nat.mul_pos hB p149_pos)) rfl hB (by rw [r1, r2, v1, w1]; ac_rfl) hl
  have s1 : (rndR (d * P149) / 2147483648 % 2 == 1) = false := by simp; omega
  have s2 : (rndR (10 ^ q * P149) / 2147483648 % 2 == 1) = false := by simp; omega
  rw [s1, s2] at hdv
  have hm : nearB d (10 ^ q) m < 2139095040 := by
    obtain ⟨l1, l2, l3⟩ := hl
    have h1 : valN m < valN 2139095039 := by
      have h2 : valN m ≤ valN m * 10 ^ q := Nat.le_mul_of_pos_right _ hB
      have h3 : d * 2 ^ 149 < 8388608 * 2 ^ 149 := Nat.mul_lt_mul_of_pos_right hd (Nat.two_pow_pos _)
      have h4 : 8388608 * 2 ^ 149 ≤ valN 2139095039 := by decide
      exact Nat.lt_of_lt_of_le (Nat.lt_of_le_of_lt (Nat.le_trans h2 l2) h3) h4
    have h5 := valN_iff.1 h1
    unfold nearB
    split
    · omega
    · split <;> omega
  refine ⟨?_, Nat.ne_of_lt hm⟩
  show Ieee.single.div _ _ = _
  rw [hdv]
  generalize nearB d (10 ^ q) m = r at *
  unfold Ieee.Format.word
  simp

theorem near_one (A m : Nat) (hl : LowB A 1 m) : nearB A 1 m = rndR (A * P149) :=
  near_wholeQ A _ 1 (A * P149) m rfl (by decide) (by unfold P149; rw [Nat.mul_one]) hl
theorem top_exact : rndR (8388607 * 10 ^ 17 * P149) < 2139095040 := by decide

theorem exact_all (d m : Nat) (p : Int) (hd0 : 0 < d) (hd : d < 18446744073709551616) (h1 : -70 ≤ p) (h2 : p ≤ 40) (hl : LowB (d * 10 ^ p.toNat) (10 ^ (-p).toNat) m) (w : World) (hT : TabF w) :
    Calls Tryz.prog 157 #[.int .u64 (d : Int), .int .i64 p, .bool false] w fun e w' => ExB (nearB (d * 10 ^ p.toNat) (10 ^ (-p).toNat) m) e ∧ w' = w := by
  by_cases hlong : 8388608 ≤ d
  · refine (exact_longZ d p w hlong hd).mono ?_
    rintro e w' ⟨rfl, hw⟩
    exact ⟨.inl ⟨_, rfl⟩, hw⟩
  · have hc : ∀ w, (convert 65 22 (.int .u64 (d : Int))).run Tryz.prog w = .ok (.float .f32 (rndR (d * P149))) w := fun w => by
      rw [← fromI_nat, ← fromI_float]; exact run_convert_int_float w 65 22 .u64 .f32 _ (by kernel_rfl) Tryz.underlying22
    by_cases hp0 : 0 ≤ p
    · by_cases hp18 : 18 ≤ p
      · refine (exact_over d _ p w (by omega) ⟨hp18, h2⟩ hc).mono ?_
        rintro e w' ⟨rfl, hw⟩
        exact ⟨.inl ⟨_, rfl⟩, hw⟩
      · obtain ⟨n, rfl⟩ : ∃ n : Nat, p = (n : Int) := ⟨p.toNat, by omega⟩
        have e1 : (-(n : Int)).toNat = 0 := by omega
        rw [e1, Nat.pow_zero, Int.toNat_natCast] at hl ⊢
        rw [near_one _ _ hl]
        refine (exact_any d n hd0 hd (by omega) w hT).mono ?_
        rintro e w' ⟨hE, hw⟩
        refine ⟨?_, hw⟩
        rcases hE with h | h
        · exact .inl h
        · refine .inr ⟨h, Nat.ne_of_lt (Nat.lt_of_le_of_lt (rndR_mono ?_) top_exact)⟩
          exact Nat.mul_le_mul_right _ (Nat.mul_le_mul (by omega) (Nat.pow_le_pow_right (by decide) (by omega)))
    · by_cases hp10 : p < -10
      · refine (exact_under d _ p w (by omega) ⟨h1, hp10⟩ hc).mono ?_
        rintro e w' ⟨rfl, hw⟩
        exact ⟨.inl ⟨_, rfl⟩, hw⟩
      · obtain ⟨g, o, cap, hv, hk⟩ := hT
        obtain ⟨q, hq⟩ : ∃ q : Nat, -p = (q : Int) := ⟨(-p).toNat, by omega⟩
        have e1 : p.toNat = 0 := by omega
        rw [e1, hq, Nat.pow_zero, Nat.mul_one, Int.toNat_natCast] at hl ⊢
        have hkq := hk q (by omega)
        rw [fromI_nat] at hkq
        obtain ⟨z1, z2⟩ := quo_whole d q m hd0 (by omega) (by omega) hl
        refine (exact_quo d _ _ _ g o cap q p w (by omega) ⟨by omega, by omega⟩ hq hc hv hkq (fun w => run_float_arith (P := Tryz.prog) w .quo 22 .f32 _ _ _ z1)).mono ?_
        rintro e w' ⟨rfl, hw⟩
        exact ⟨.inr ⟨rfl, z2⟩, hw⟩

set_option maxRecDepth 1000000 in
set_option maxHeartbeats 1000000 in
theorem atof32_rawZ (s : ByteArray) (d R : Nat) (p : Int) (w : World) (hd : (d : Int) ≠ 0) (hp : -70 ≤ p ∧ p ≤ 40) (hS : ∀ w, Calls Tryz.prog 152 #[.string s] w fun e w' => e = .returned (.tuple #[.float .f64 0, .int .i64 0, .bool false]) ∧ w' = w)
    (hR : ∀ w, Calls Tryz.prog 153 #[.string s] w fun e w' => e = .returned (.tuple #[.int .u64 (d : Int), .int .i64 p, .bool false, .bool false, .bool false, .int .i64 (s.size : Nat), .bool true]) ∧ w' = w)
    (hX : Calls Tryz.prog 157 #[.int .u64 (d : Int), .int .i64 p, .bool false] w fun e w' => ExB R e ∧ w' = w)
    (hQ : Calls Tryz.prog 158 #[.int .u64 (d : Int), .int .i64 p, .int .u32 0] w fun e w' => e = .returned (.tuple #[.float .f32 R, erR R]) ∧ Below w.heap.size w w')
    (c2 : w.cell? ⟨5, 0, none⟩ = some (.bool true)) :
    Calls Tryz.prog 124 #[.string s] w fun e w' => e = .returned (.tuple #[.float .f32 R, .int .i64 (s.size : Nat), erR R]) ∧ Below w.heap.size w w' := by
  have hd0 : ((d : Int) == 0) = false := by simpa using hd
  clear hd
  obtain ⟨hp1, hp2⟩ := hp
  go_enter Tryz.func124, Tryz.ntmps124
  go_wp2_with fail
  refine (hS _).mono ?_
  rintro e9 w9 ⟨rfl, hw9⟩
  obtain rfl := hw9.symm
  clear hw9
  go_wp2_with fail
  refine (hR _).mono ?_
  rintro e9 w9 ⟨rfl, hw9⟩
  obtain rfl := hw9.symm
  clear hw9
  go_wp2_with fail
  refine (bool2w_p _).mono ?_
  rintro e9 w9 ⟨rfl, hw9⟩
  obtain rfl := hw9.symm
  clear hw9
  go_wp2_with fail
  refine hX.mono ?_
  rintro e9 w9 ⟨hE, hw9⟩
  obtain rfl := hw9.symm
  clear hw9 hX
  rcases hE with ⟨f, rfl⟩ | ⟨rfl, hn⟩
  · go_wp2_with fail
    refine hQ.mono ?_
    rintro e9 w9 ⟨rfl, hb⟩
    go_wp2
    go_ret3
    exact ⟨rfl, hb⟩
  · go_wp2
    go_ret3
    have e : erR R = .nilIface := by unfold erR; rw [if_neg hn]
    exact ⟨by rw [e]; rfl, Below.refl _ _⟩
/-- what the library's tables hold -/
structure TabB (w : World) : Prop where
  pw : ∀ p : Int, -70 ≤ p → p ≤ 40 → TabZ w p
  fl : TabF w
  opt : w.cell? ⟨5, 0, none⟩ = some (.bool true)
theorem TabB.below {w w' : World} (h : TabB w) (hb : Below w.heap.size w w') : TabB w' := by
  refine ⟨fun p h1 h2 => ⟨cell_next hb (h.pw p h1 h2).hi, cell_next hb (h.pw p h1 h2).lo⟩, ?_, cell_next hb h.opt⟩
  obtain ⟨g, o, cap, h1, h2⟩ := h.fl
  exact ⟨g, o, cap, cell_next hb h1, fun k hk => cell_next hb (h2 k hk)⟩
/-- atof32 of digits that fit in 64 bits, at every power that is not far off -/
theorem atof32_any (s : ByteArray) (d m : Nat) (p : Int) (w : World) (hd0 : 0 < d) (hd : d < 18446744073709551616) (h1 : -70 ≤ p) (h2 : p ≤ 40) (hl : LowB (d * 10 ^ p.toNat) (10 ^ (-p).toNat) m) (hT : TabB w)
    (hS : ∀ w, Calls Tryz.prog 152 #[.string s] w fun e w' => e = .returned (.tuple #[.float .f64 0, .int .i64 0, .bool false]) ∧ w' = w)
    (hR : ∀ w, Calls Tryz.prog 153 #[.string s] w fun e w' => e = .returned (.tuple #[.int .u64 (d : Int), .int .i64 p, .bool false, .bool false, .bool false, .int .i64 (s.size : Nat), .bool true]) ∧ w' = w) :
    Calls Tryz.prog 124 #[.string s] w fun e w' => e = .returned (.tuple #[.float .f32 (nearB (d * 10 ^ p.toNat) (10 ^ (-p).toNat) m), .int .i64 (s.size : Nat), erR (nearB (d * 10 ^ p.toNat) (10 ^ (-p).toNat) m)]) ∧ Below w.heap.size w w' :=
  atof32_rawZ s d _ p w (by omega) ⟨h1, h2⟩ hS hR (exact_all d m p hd0 hd h1 h2 hl w hT.fl) (parse32_all d m p w hd0 hd h1 h2 (hT.pw p h1 h2) hl) hT.opt
end Go.Proofs.YtnljpbpphdhnpaaGreatDoor

/- The library's ParseFloat of digits of which nothing is cut off, at every power: the document's Nearest, where that is not infinite. -/
namespace Go.Proofs.YtnljpbpphdhnpaaGreatDoor
open Go.RowKit Go.PlainAid

theorem dv_19 (c0 : UInt8) (cs : List UInt8) (h0 : 49 ≤ c0.toNat ∧ c0.toNat ≤ 57) (hc : Dig cs) : 0 < dvL (c0 :: cs.take 18) ∧ dvL (c0 :: cs.take 18) < 10000000000000000000 := by
  refine ⟨dv_pos c0 _ h0.1, ?_⟩
  have h1 := dv_lt (c0 :: cs.take 18) (by
    intro c hc'
    rcases List.mem_cons.1 hc' with rfl | hc'
    · omega
    · exact hc c (List.mem_of_mem_take hc'))
  have h2 : 10 ^ (c0 :: cs.take 18).length ≤ 10 ^ 19 := Nat.pow_le_pow_right (by decide) (by rw [List.length_cons, List.length_take]; omega)
  exact Nat.lt_of_lt_of_le h1 h2
theorem special_num (c0 : UInt8) (cs es : List UInt8) (h0 : 49 ≤ c0.toNat ∧ c0.toNat ≤ 57) (w : World) : Calls Tryz.prog 152 #[.string (bl (numT c0 cs es))] w fun e w' => e = .returned (.tuple #[.float .f64 0, .int .i64 0, .bool false]) ∧ w' = w := by
  have hlen := num_len c0 cs es
  exact special_dig (bl (numT c0 cs es)) (by rw [bl_size]; omega) (by rw [num_at c0 cs es 0 (by omega)]; show 48 ≤ (c0.toNat : Int) ∧ (c0.toNat : Int) ≤ 57; omega) w
/-- what is read of d times ten to the power p -/
abbrev nearZ (d : Nat) (p : Int) (m : Nat) : Nat := nearB (d * 10 ^ p.toNat) (10 ^ (-p).toNat) m
theorem pf_of (s : ByteArray) (R : Nat) (w : World) (hr : R < 2139095040) (hA : Calls Tryz.prog 124 #[.string s] w fun e w' => e = .returned (.tuple #[.float .f32 R, .int .i64 (s.size : Nat), erR R]) ∧ Below w.heap.size w w') :
    Calls Tryz.prog 55 #[.string s, .int .i64 32] w fun e w' => e = .returned (.tuple #[.float .f64 (fD R (atE R)), .nilIface]) ∧ Below w.heap.size w w' := by
  have e : erR R = .nilIface := by unfold erR; rw [if_neg (by omega)]
  rw [e] at hA
  exact pf_raw _ _ w (ipf_any _ _ w (prefix_any _ _ _ w hA (fun w => run_convert_float_float w 22 80 .f32 .f64 _ _ (by kernel_rfl) Tryz.underlying80 (fD_wide _ hr))))
theorem atof_up (c0 : UInt8) (cs es : List UInt8) (p : Int) (m : Nat) (h0 : 49 ≤ c0.toNat ∧ c0.toNat ≤ 57) (hc : Dig cs) (hl : cs.length ≤ 1099511627000) (he : Dig es) (hle : es.length ≤ 2) (hes : 0 < es.length) (hz : cutOff cs = false)
    (hp : (dvL es : Int) - ((min cs.length 18 : Nat) : Int) = p) (h1 : -70 ≤ p) (h2 : p ≤ 40) (hlw : LowB (dvL (c0 :: cs.take 18) * 10 ^ p.toNat) (10 ^ (-p).toNat) m) (w : World) (hT : TabB w) :
    Calls Tryz.prog 124 #[.string (bl (numT c0 cs es))] w fun e w' => e = .returned (.tuple #[.float .f32 (nearZ (dvL (c0 :: cs.take 18)) p m), .int .i64 ((bl (numT c0 cs es)).size : Nat), erR (nearZ (dvL (c0 :: cs.take 18)) p m)]) ∧ Below w.heap.size w w' := by
  obtain ⟨d0, d1⟩ := dv_19 c0 cs h0 hc
  have hR := fun w => read_up c0 cs es h0 hc hl he hle hes w
  rw [hz, hp] at hR
  exact atof32_any _ _ m p w d0 (by omega) h1 h2 hlw hT (special_num c0 cs es h0) hR
theorem atof_down (c0 : UInt8) (cs es : List UInt8) (p : Int) (m : Nat) (h0 : 49 ≤ c0.toNat ∧ c0.toNat ≤ 57) (hc : Dig cs) (hl : cs.length ≤ 1099511627000) (he : Dig es) (hle : es.length ≤ 2) (hes : 0 < es.length) (hz : cutOff cs = false)
    (hp : -(dvL es : Int) - ((min cs.length 18 : Nat) : Int) = p) (h1 : -70 ≤ p) (h2 : p ≤ 40) (hlw : LowB (dvL (c0 :: cs.take 18) * 10 ^ p.toNat) (10 ^ (-p).toNat) m) (w : World) (hT : TabB w) :
    Calls Tryz.prog 124 #[.string (bl (numT c0 cs (45 :: es)))] w fun e w' => e = .returned (.tuple #[.float .f32 (nearZ (dvL (c0 :: cs.take 18)) p m), .int .i64 ((bl (numT c0 cs (45 :: es))).size : Nat), erR (nearZ (dvL (c0 :: cs.take 18)) p m)]) ∧ Below w.heap.size w w' := by
  obtain ⟨d0, d1⟩ := dv_19 c0 cs h0 hc
  have hR := fun w => read_down c0 cs es h0 hc hl he hle hes w
  rw [hz, hp] at hR
  exact atof32_any _ _ m p w d0 (by omega) h1 h2 hlw hT (special_num c0 cs (45 :: es) h0) hR
end Go.Proofs.YtnljpbpphdhnpaaGreatDoor

/- The program's nearest: the real of digits of any length and a power. -/
namespace Go.Proofs.YtnljpbpphdhnpaaGreatDoor
open Go.RowKit Go.PlainAid

set_option maxRecDepth 1000000 in
set_option maxHeartbeats 2000000 in
theorem nearest_rawZ (E C0 C1 A1 A2 A3 A4 KT : ByteArray) (k : Int) (R r64 : Nat) (w : World) (hk0 : -46 ≤ k) (hk : k ≤ 38) (hE0 : 0 < E.size) (hE1 : E.size ≤ 1099511627000) (hne : E.toList.isEmpty = false)
    (s0 : E.extract 0 1 = C0) (s1 : E.extract 1 E.size = C1) (z0 : C0.size = 1) (z1 : C1.size ≤ 1099511627000) (zk : KT.size ≤ 3) (a1 : C0 ++ ⟨#[46]⟩ = A1) (a2 : A1 ++ C1 = A2) (a3 : A2 ++ ⟨#[101]⟩ = A3) (a4 : A3 ++ KT = A4) (q1 : A1.size = 2) (q2 : A2.size ≤ 1099511627100) (q3 : A3.size ≤ 1099511627200)
    (hF : ∀ w', Below w.heap.size w w' → Calls Tryz.prog 56 #[.int .i64 k, .int .i64 10] w' fun e w'' => e = .returned (.string KT) ∧ Below w'.heap.size w' w'')
    (hP : ∀ w', Below w.heap.size w w' → Calls Tryz.prog 55 #[.string A4, .int .i64 32] w' fun e w'' => e = .returned (.tuple #[.float .f64 r64, .nilIface]) ∧ Below w'.heap.size w' w'')
    (hC : ∀ w, (convert 80 22 (.float .f64 r64)).run Tryz.prog w = .ok (.float .f32 R) w) :
    Calls Tryz.prog 29 #[.agg #[.string E, .int .i64 k]] w fun e w' => e = .returned (.tuple #[.float .f32 R, .bool true]) ∧ Below w.heap.size w w' := by
  have hW0 : Below w.heap.size w (w.alloc (.cells #[.string E, .int .i64 k] 46)) := (Below.refl w.heap.size w).alloc (Nat.le_refl _) _
  have HP : Hid (∀ w', Below w.heap.size w w' → Calls Tryz.prog 55 #[.string A4, .int .i64 32] w' fun e w'' => e = .returned (.tuple #[.float .f64 r64, .nilIface]) ∧ Below w'.heap.size w' w'') := hP
  have HF : Hid (∀ w', Below w.heap.size w w' → Calls Tryz.prog 56 #[.int .i64 k, .int .i64 10] w' fun e w'' => e = .returned (.string KT) ∧ Below w'.heap.size w' w'') := hF
  clear hP hF
  have HW : Hid (∀ w', ((∀ b o, b < (w.alloc (.cells #[.string E, .int .i64 k] 46)).heap.size → w'.cell? ⟨b, o, none⟩ = (w.alloc (.cells #[.string E, .int .i64 k] 46)).cell? ⟨b, o, none⟩) ∧ Below (w.alloc (.cells #[.string E, .int .i64 k] 46)).heap.size (w.alloc (.cells #[.string E, .int .i64 k] 46)) w') → Below w.heap.size w w') := fun w' h => hW0.trans (h.2.mono (by simp))
  clear hW0
  have i1 : (1 : Int) ≤ (E.size : Int) := by omega
  have n2 : ¬ 9223372036854775807 < 2 + C1.size := by omega
  have n3 : ¬ 9223372036854775807 < A2.size + 1 := by omega
  have n4 : ¬ 9223372036854775807 < A3.size + KT.size := by omega
  have p46 : (⟨#[46]⟩ : ByteArray).size = 1 := rfl
  have p101 : (⟨#[101]⟩ : ByteArray).size = 1 := rfl
  go_enter Tryz.func29, Tryz.ntmps29
  go_wp2
  go_region_held3 (fun w' => (∀ b o, b < (w.alloc (.cells #[.string E, .int .i64 k] 46)).heap.size → w'.cell? ⟨b, o, none⟩ = (w.alloc (.cells #[.string E, .int .i64 k] 46)).cell? ⟨b, o, none⟩) ∧ Below (w.alloc (.cells #[.string E, .int .i64 k] 46)).heap.size (w.alloc (.cells #[.string E, .int .i64 k] 46)) w')
    (first | exact keep_start | exact keep_next (by assumption) (by assumption))
    (first | (go_at_call 56; refine (HF.out _ (HW.out _ (by assumption))).mono ?_; rintro e w1 ⟨rfl, hb⟩) | (go_at_call 55; refine (HP.out _ (HW.out _ (by assumption))).mono ?_; rintro e w1 ⟨rfl, hb⟩))
  all_goals rename_i hH
  all_goals go_wp2
  all_goals go_quiet (fail)
  all_goals go_wp2
  all_goals go_ret2
  all_goals exact ⟨rfl, below_drewN (HW.out _ hH) _⟩
end Go.Proofs.YtnljpbpphdhnpaaGreatDoor


/- The program's nearest of digits of which the library cuts nothing off, at a power above: the document's Nearest. -/
namespace Go.Proofs.YtnljpbpphdhnpaaGreatDoor
open Go.RowKit Go.PlainAid

theorem nil_false (l : List UInt8) (h : 0 < l.length) : (bl l).toList.isEmpty = false := by
  rw [ByteArray.toList_eq, bl_data]
  cases l with
  | nil => simp at h
  | cons x l => rfl
theorem two_digits (k : Nat) (h : k < 100) : Dig (Lib.decDigits k) ∧ 0 < (Lib.decDigits k).length ∧ (Lib.decDigits k).length ≤ 2 := by
  refine ⟨dec_digit k, ?_⟩
  rw [Lib.decDigits_length]
  refine ⟨Lib.nDigits_pos k, ?_⟩
  by_cases h10 : k < 10
  · rw [Lib.nDigits_small h10]; omega
  · rw [Lib.nDigits_big h10, Lib.nDigits_small (by omega)]; omega
/-- at a power above -/
theorem nearest_up (c0 : UInt8) (cs : List UInt8) (k m : Nat) (p : Int) (h0 : 49 ≤ c0.toNat ∧ c0.toNat ≤ 57) (hc : Dig cs) (hl : cs.length ≤ 1099511626000) (hk : k ≤ 38) (hz : cutOff cs = false)
    (hp : (k : Int) - ((min cs.length 18 : Nat) : Int) = p) (hlw : LowB (dvL (c0 :: cs.take 18) * 10 ^ p.toNat) (10 ^ (-p).toNat) m) (hr : nearZ (dvL (c0 :: cs.take 18)) p m < 2139095040) (w : World) (hT : TabB w) :
    Calls Tryz.prog 29 #[.agg #[.string (bl (c0 :: cs)), .int .i64 k]] w fun e w' => e = .returned (.tuple #[.float .f32 (nearZ (dvL (c0 :: cs.take 18)) p m), .bool true]) ∧ Below w.heap.size w w' := by
  obtain ⟨hes, hes0, hes2⟩ := two_digits k (by omega)
  have hm : min cs.length 18 ≤ 18 := Nat.min_le_right _ _
  have hF : ∀ w', Below w.heap.size w w' → Calls Tryz.prog 56 #[.int .i64 k, .int .i64 10] w' fun e w'' => e = .returned (.string (bl (Lib.decDigits k))) ∧ Below w'.heap.size w' w'' := fun w' _ =>
    (Tryz.strconv_FormatInt_10_small k (by omega) w').mono (by rintro e w1 ⟨rfl, rfl⟩; exact ⟨rfl, Below.refl _ _⟩)
  have hsp := bl_extract [c0] cs
  have hP := fun w' (hb : Below w.heap.size w w') => pf_of _ _ w' hr (atof_up c0 cs (Lib.decDigits k) p m h0 hc (by omega) hes hes2 hes0 hz (by rw [dv_dec]; exact hp) (by omega) (by omega) hlw w' (hT.below hb))
  refine nearest_rawZ (bl (c0 :: cs)) (bl [c0]) (bl cs) (bl [c0, 46]) (bl (c0 :: 46 :: cs)) (bl (c0 :: 46 :: (cs ++ [101]))) (bl (numT c0 cs (Lib.decDigits k))) (bl (Lib.decDigits k)) (k : Int) _ _ w (by omega) (by omega) (by rw [bl_size]; simp) (by rw [bl_size]; simp; omega) (nil_false _ (by simp)) hsp.1 (by rw [bl_size]; exact hsp.2) rfl (by rw [bl_size]; omega) (by rw [bl_size]; omega) (bl_app [c0] [46]) (bl_app [c0, 46] cs) ?_ ?_ rfl (by rw [bl_size]; simp; omega) (by rw [bl_size]; simp; omega) hF hP (fun w => run_convert_float_float w 80 22 .f64 .f32 _ _ (by kernel_rfl) Tryz.underlying22 (fD_end _ (by omega)))
  · exact bl_app (c0 :: 46 :: cs) [101]
  · have := bl_app (c0 :: 46 :: (cs ++ [101])) (Lib.decDigits k)
    simpa [numT] using this
/-- at a power below -/
theorem nearest_down (c0 : UInt8) (cs : List UInt8) (k m : Nat) (p : Int) (h0 : 49 ≤ c0.toNat ∧ c0.toNat ≤ 57) (hc : Dig cs) (hl : cs.length ≤ 1099511626000) (hk : k ≤ 46) (hz : cutOff cs = false)
    (hp : -(k : Int) - ((min cs.length 18 : Nat) : Int) = p) (hlw : LowB (dvL (c0 :: cs.take 18) * 10 ^ p.toNat) (10 ^ (-p).toNat) m) (hr : nearZ (dvL (c0 :: cs.take 18)) p m < 2139095040) (w : World) (hT : TabB w)
    (hF : ∀ w', Below w.heap.size w w' → Calls Tryz.prog 56 #[.int .i64 (-(k : Int)), .int .i64 10] w' fun e w'' => e = .returned (.string (bl (45 :: Lib.decDigits k))) ∧ Below w'.heap.size w' w'') :
    Calls Tryz.prog 29 #[.agg #[.string (bl (c0 :: cs)), .int .i64 (-(k : Int))]] w fun e w' => e = .returned (.tuple #[.float .f32 (nearZ (dvL (c0 :: cs.take 18)) p m), .bool true]) ∧ Below w.heap.size w w' := by
  obtain ⟨hes, hes0, hes2⟩ := two_digits k (by omega)
  have hm : min cs.length 18 ≤ 18 := Nat.min_le_right _ _
  have hsp := bl_extract [c0] cs
  have hP := fun w' (hb : Below w.heap.size w w') => pf_of _ _ w' hr (atof_down c0 cs (Lib.decDigits k) p m h0 hc (by omega) hes hes2 hes0 hz (by rw [dv_dec]; exact hp) (by omega) (by omega) hlw w' (hT.below hb))
  refine nearest_rawZ (bl (c0 :: cs)) (bl [c0]) (bl cs) (bl [c0, 46]) (bl (c0 :: 46 :: cs)) (bl (c0 :: 46 :: (cs ++ [101]))) (bl (numT c0 cs (45 :: Lib.decDigits k))) (bl (45 :: Lib.decDigits k)) (-(k : Int)) _ _ w (by omega) (by omega) (by rw [bl_size]; simp) (by rw [bl_size]; simp; omega) (nil_false _ (by simp)) hsp.1 (by rw [bl_size]; exact hsp.2) rfl (by rw [bl_size]; omega) (by rw [bl_size, List.length_cons]; omega) (bl_app [c0] [46]) (bl_app [c0, 46] cs) ?_ ?_ rfl (by rw [bl_size]; simp; omega) (by rw [bl_size]; simp; omega) hF hP (fun w => run_convert_float_float w 80 22 .f64 .f32 _ _ (by kernel_rfl) Tryz.underlying22 (fD_end _ (by omega)))
  · exact bl_app (c0 :: 46 :: cs) [101]
  · have := bl_app (c0 :: 46 :: (cs ++ [101])) (45 :: Lib.decDigits k)
    simpa [numT] using this
end Go.Proofs.YtnljpbpphdhnpaaGreatDoor

/- What the library makes of a number that is too great, laid at this program. -/
namespace Go.Proofs
open Go.Shelf
def Tryz.laysC245_ren : Go.Shelf.Ren := ⟨fun | 245 => 80 | 279 => 100 | 280 => 101 | 281 => 102 | 282 => 103 | 316 => 126 | 171 => 39 | 205 => 127 | 243 => 62 | 246 => 81 | 283 => 104 | 284 => 105 | 285 => 106 | 286 => 107 | 129 => 129 | 317 => 128 | 318 => 130 | 319 => 131 | 320 => 132 | 337 => 165 | 338 => 166 | n => n, fun | 9 => 9 | 3 => 3 | 75 => 82 | 167 => 124 | 4 => 4 | 168 => 125 | 210 => 149 | 37 => 72 | 0 => 0 | 127 => 138 | 145 => 202 | 143 => 200 | 2 => 2 | 171 => 128 | 53 => 65 | 5 => 5 | 173 => 131 | 212 => 152 | 51 => 33 | 20 => 20 | 213 => 153 | 46 => 92 | 232 => 160 | 233 => 225 | 80 => 116 | n => n, fun | 15 => 2 | 16 => 3 | 17 => 4 | 18 => 13 | 19 => 14 | n => n⟩
theorem Tryz.laysC245 : Go.Proofs.LaysC.n245 Tryz.prog Tryz.laysC245_ren := {
  mixed := by kernel_rfl
  f129 := Tryz.func129.trans (congrArg some (by kernel_rfl))
  f171 := Tryz.func39.trans (congrArg some (by kernel_rfl))
  f205 := Tryz.func127.trans (congrArg some (by kernel_rfl))
  f243 := Tryz.func62.trans (congrArg some (by kernel_rfl))
  f245 := Tryz.func80.trans (congrArg some (by kernel_rfl))
  f246 := Tryz.func81.trans (congrArg some (by kernel_rfl))
  f279 := Tryz.func100.trans (congrArg some (by kernel_rfl))
  f280 := Tryz.func101.trans (congrArg some (by kernel_rfl))
  f281 := Tryz.func102.trans (congrArg some (by kernel_rfl))
  f282 := Tryz.func103.trans (congrArg some (by kernel_rfl))
  f283 := Tryz.func104.trans (congrArg some (by kernel_rfl))
  f284 := Tryz.func105.trans (congrArg some (by kernel_rfl))
  f285 := Tryz.func106.trans (congrArg some (by kernel_rfl))
  f286 := Tryz.func107.trans (congrArg some (by kernel_rfl))
  f316 := Tryz.func126.trans (congrArg some (by kernel_rfl))
  f317 := Tryz.func128.trans (congrArg some (by kernel_rfl))
  f318 := Tryz.func130.trans (congrArg some (by kernel_rfl))
  f319 := Tryz.func131.trans (congrArg some (by kernel_rfl))
  f320 := Tryz.func132.trans (congrArg some (by kernel_rfl))
  f337 := Tryz.func165.trans (congrArg some (by kernel_rfl))
  f338 := Tryz.func166.trans (congrArg some (by kernel_rfl))
  t0 := Tryz.underlying0
  a0 := Tryz.isAgg0
  z0 := Tryz.sizeOf0
  v0 := Tryz.zeroValue0
  t2 := Tryz.underlying2
  a2 := Tryz.isAgg2
  z2 := Tryz.sizeOf2
  v2 := Tryz.zeroValue2
  t3 := Tryz.underlying3
  a3 := Tryz.isAgg3
  z3 := Tryz.sizeOf3
  v3 := Tryz.zeroValue3
  t4 := Tryz.underlying4
  a4 := Tryz.isAgg4
  z4 := Tryz.sizeOf4
  v4 := Tryz.zeroValue4
  t5 := Tryz.underlying5
  a5 := Tryz.isAgg5
  z5 := Tryz.sizeOf5
  v5 := Tryz.zeroValue5
  t9 := Tryz.underlying9
  a9 := Tryz.isAgg9
  z9 := Tryz.sizeOf9
  v9 := Tryz.zeroValue9
  t20 := Tryz.underlying20
  a20 := Tryz.isAgg20
  z20 := Tryz.sizeOf20
  v20 := Tryz.zeroValue20
  t37 := Tryz.underlying72
  a37 := Tryz.isAgg72
  z37 := Tryz.sizeOf72
  v37 := Tryz.zeroValue72
  t46 := Tryz.underlying92
  a46 := Tryz.isAgg92
  z46 := Tryz.sizeOf92
  v46 := Tryz.zeroValue92
  t51 := Tryz.underlying33
  a51 := Tryz.isAgg33
  z51 := Tryz.sizeOf33
  v51 := Tryz.zeroValue33
  t53 := Tryz.underlying65
  a53 := Tryz.isAgg65
  z53 := Tryz.sizeOf65
  v53 := Tryz.zeroValue65
  t75 := Tryz.underlying82
  a75 := Tryz.isAgg82
  z75 := Tryz.sizeOf82
  v75 := Tryz.zeroValue82
  t127 := Tryz.underlying138
  a127 := Tryz.isAgg138
  z127 := Tryz.sizeOf138
  v127 := Tryz.zeroValue138
  t143 := Tryz.underlying200
  a143 := Tryz.isAgg200
  z143 := Tryz.sizeOf200
  v143 := Tryz.zeroValue200
  t145 := Tryz.underlying202
  a145 := Tryz.isAgg202
  z145 := Tryz.sizeOf202
  v145 := Tryz.zeroValue202
  t167 := Tryz.underlying124
  a167 := Tryz.isAgg124
  z167 := Tryz.sizeOf124
  v167 := Tryz.zeroValue124
  t168 := Tryz.underlying125
  a168 := Tryz.isAgg125
  z168 := Tryz.sizeOf125
  v168 := Tryz.zeroValue125
  t171 := Tryz.underlying128
  a171 := Tryz.isAgg128
  z171 := Tryz.sizeOf128
  v171 := Tryz.zeroValue128
  t173 := Tryz.underlying131
  a173 := Tryz.isAgg131
  z173 := Tryz.sizeOf131
  v173 := Tryz.zeroValue131
  t210 := Tryz.underlying149
  a210 := Tryz.isAgg149
  z210 := Tryz.sizeOf149
  v210 := Tryz.zeroValue149
  t212 := Tryz.underlying152
  a212 := Tryz.isAgg152
  z212 := Tryz.sizeOf152
  v212 := Tryz.zeroValue152
  t213 := Tryz.underlying153
  a213 := Tryz.isAgg153
  z213 := Tryz.sizeOf153
  t232 := Tryz.underlying160
  a232 := Tryz.isAgg160
  z232 := Tryz.sizeOf160
  v232 := Tryz.zeroValue160
  t233 := Tryz.underlying225
  a233 := Tryz.isAgg225
  z233 := Tryz.sizeOf225
  v233 := Tryz.zeroValue225
  g15 := by kernel_rfl
  g16 := by kernel_rfl
  g17 := by kernel_rfl
  g18 := by kernel_rfl
  g19 := by kernel_rfl
  t80 := Tryz.underlying116
  a80 := Tryz.isAgg116
  z80 := Tryz.sizeOf116
  v80 := Tryz.zeroValue116
  i0 := by kernel_rfl
  i2 := by kernel_rfl
  i3 := by kernel_rfl
  i4 := by kernel_rfl
  i5 := by kernel_rfl
  i9 := by kernel_rfl
  i20 := by kernel_rfl
  i37 := by kernel_rfl
  i46 := by kernel_rfl
  i51 := by kernel_rfl
  i53 := by kernel_rfl
  i75 := by kernel_rfl
  i80 := by kernel_rfl
  i127 := by kernel_rfl
  i143 := by kernel_rfl
  i145 := by kernel_rfl
  i167 := by kernel_rfl
  i168 := by kernel_rfl
  i171 := by kernel_rfl
  i173 := by kernel_rfl
  i210 := by kernel_rfl
  i212 := by kernel_rfl
  i232 := by kernel_rfl
  i233 := by kernel_rfl
  m15 := by kernel_rfl
  m16 := by kernel_rfl
  m17 := by kernel_rfl
  m18 := by kernel_rfl
  m19 := by kernel_rfl
  c0 := by kernel_rfl
  c2 := by kernel_rfl
  c3 := by kernel_rfl
  c4 := by kernel_rfl
  c5 := by kernel_rfl
  c9 := by kernel_rfl
  c20 := by kernel_rfl
  c37 := by kernel_rfl
  c46 := by kernel_rfl
  c51 := by kernel_rfl
  c53 := by kernel_rfl
  c75 := by kernel_rfl
  c80 := by kernel_rfl
  c127 := by kernel_rfl
  c143 := by kernel_rfl
  c145 := by kernel_rfl
  c167 := by kernel_rfl
  c168 := by kernel_rfl
  c171 := by kernel_rfl
  c173 := by kernel_rfl
  c210 := by kernel_rfl
  c212 := by kernel_rfl
  c213 := by kernel_rfl
  c232 := by kernel_rfl
  c233 := by kernel_rfl }
end Go.Proofs
