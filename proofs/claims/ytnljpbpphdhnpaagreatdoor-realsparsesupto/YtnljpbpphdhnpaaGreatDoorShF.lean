/- The library's readFloat of a digit, a point, digits of any length and a power. -/
import Derived.Test.YtnljpbpphdhnpaaGreatDoorRdH
import Derived.Test.YtnljpbpphdhnpaaGreatDoorPgI
import Derived.Test.YtnljpbpphdhnpaaGreatDoorPfD
import Derived.LaidMore
import Derived.Lay
import Derived.Test.YtnljpbpphdhnpaaGreatDoorBigA

namespace Go.Proofs.YtnljpbpphdhnpaaGreatDoor
open Go.RowKit Go.PlainAid

/-- something that is no nought stands behind the nineteenth digit -/
def cutOff (cs : List UInt8) : Bool := (cs.drop 18).any fun c => decide ((c.toNat : Int) ≠ 48)
def MZ (c0 : UInt8) (cs : List UInt8) (k : Nat) : Int := if k = 0 then 0 else (dvL (c0 :: (cs.take (k - 2)).take 18) : Int)
def ndZ (k : Nat) : Int := if k = 0 then 0 else 1 + ((k - 2 : Nat) : Int)
def nmZ (k : Nat) : Int := if k = 0 then 0 else 1 + ((min (k - 2) 18 : Nat) : Int)
def dpZ (k : Nat) : Int := if k ≤ 1 then 0 else 1

theorem run_z (c0 : UInt8) (cs es : List UInt8) (h0 : 49 ≤ c0.toNat ∧ c0.toNat ≤ 57) (hc : Dig cs) (hl : cs.length ≤ 1099511627000) :
    RunZ (bl (numT c0 cs es)) (2 + cs.length) (MZ c0 cs) ndZ nmZ dpZ (fun k => decide (2 ≤ k)) (fun k => cutOff (cs.take (k - 2))) := by
  intro k hk
  have hlen := num_len c0 cs es
  rw [num_at c0 cs es k (by omega)]
  rcases Nat.lt_or_ge k 2 with h2 | h2
  · have : k = 0 ∨ k = 1 := by omega
    rcases this with rfl | rfl
    · right; left
      have e : (numT c0 cs es)[0] = c0 := rfl
      rw [e]
      simp only [MZ, ndZ, nmZ, dpZ, dvL, List.foldl_cons, cutOff]
      simp
      omega
    · left
      have e : (numT c0 cs es)[1] = 46 := rfl
      rw [e]
      simp [MZ, ndZ, nmZ, dpZ]
  · obtain ⟨j, rfl⟩ : ∃ j, k = j + 2 := ⟨k - 2, by omega⟩
    have hj : j < cs.length := by omega
    have e : (numT c0 cs es)[j + 2]'(by omega) = cs[j] := by
      unfold numT
      simp only [List.getElem_cons_succ]
      exact List.getElem_append_left hj
    rw [e]
    have hd := hc cs[j] (List.getElem_mem hj)
    have ht : cs.take (j + 1) = cs.take j ++ [cs[j]] := List.take_succ_eq_append_getElem hj
    have hlj : (cs.take j).length = j := by rw [List.length_take]; omega
    right
    unfold MZ ndZ nmZ dpZ
    simp only [show j + 2 - 2 = j by omega, show j + 2 + 1 - 2 = j + 1 by omega, show ¬ (j + 2 = 0) by omega, show ¬ (j + 2 + 1 = 0) by omega, if_false, show ¬ (j + 2 ≤ 1) by omega, show ¬ (j + 2 + 1 ≤ 1) by omega]
    by_cases h18 : j < 18
    · left
      have t1 : (cs.take j).take 18 = cs.take j := List.take_of_length_le (by omega)
      have t2 : (cs.take (j + 1)).take 18 = cs.take (j + 1) := List.take_of_length_le (by rw [List.length_take]; omega)
      have c1 : cutOff (cs.take j) = false := by unfold cutOff; rw [List.drop_eq_nil_of_le (by omega)]; rfl
      have c2 : cutOff (cs.take (j + 1)) = false := by unfold cutOff; rw [List.drop_eq_nil_of_le (by rw [List.length_take]; omega)]; rfl
      have hlt : dvL (c0 :: cs.take j) < 10 ^ (1 + j) := by
        have := dv_lt (c0 :: cs.take j) (by
          intro c hc'
          rcases List.mem_cons.1 hc' with rfl | hc'
          · omega
          · exact hc c (List.mem_of_mem_take hc'))
        simpa [Nat.min_eq_left (Nat.le_of_lt hj), Nat.add_comm] using this
      have hle : 10 ^ (1 + j) ≤ 10 ^ 18 := Nat.pow_le_pow_right (by decide) (by omega)
      have hs : dvL (c0 :: cs.take (j + 1)) = dvL (c0 :: cs.take j) * 10 + (cs[j].toNat - 48) := by
        rw [← dv_snoc, ht]; rfl
      rw [t1, t2, c1, c2, hs, Nat.min_eq_left (show j ≤ 18 by omega), Nat.min_eq_left (show j + 1 ≤ 18 by omega)]
      refine ⟨by omega, by omega, by omega, by omega, by omega, by omega, by omega, by omega, by omega, by omega, by omega, (by first | trivial | rfl), by simp, by omega, (by first | trivial | rfl)⟩
    · right
      have t2 : (cs.take (j + 1)).take 18 = (cs.take j).take 18 := by
        rw [ht, List.take_append_of_le_length (by omega)]
      have c2 : cutOff (cs.take (j + 1)) = (cutOff (cs.take j) || decide ((cs[j].toNat : Int) ≠ 48)) := by
        unfold cutOff
        rw [ht, List.drop_append_of_le_length (by omega), List.any_append]
        simp
      rw [t2, c2, Nat.min_eq_right (show 18 ≤ j by omega), Nat.min_eq_right (show 18 ≤ j + 1 by omega)]
      refine ⟨by omega, by omega, by omega, by omega, by omega, (by first | trivial | rfl), by omega, (by first | trivial | rfl), by simp, by omega, (by first | trivial | rfl)⟩

theorem run_down (c0 : UInt8) (cs es : List UInt8) (he : Dig es) (hl : es.length ≤ 2) :
    RunE (bl (numT c0 cs (45 :: es))) (2 + cs.length + 2) (bl (numT c0 cs (45 :: es))).size (fun k => (dvL (es.take (k - (2 + cs.length + 2))) : Int)) := by
  intro k h1 h2
  have hlen := num_len c0 cs (45 :: es)
  rw [List.length_cons] at hlen
  rw [bl_size] at h2
  obtain ⟨j, rfl⟩ : ∃ j, k = 2 + cs.length + 2 + j := ⟨k - (2 + cs.length + 2), by omega⟩
  have hj : j < es.length := by omega
  rw [num_at c0 cs (45 :: es) _ h2]
  have e : (numT c0 cs (45 :: es))[2 + cs.length + 2 + j] = es[j] := by
    unfold numT
    simp only [show 2 + cs.length + 2 + j = (cs.length + (j + 2)) + 1 + 1 by omega, List.getElem_cons_succ]
    rw [List.getElem_append_right (by omega)]
    simp
  rw [e]
  have hd := he es[j] (List.getElem_mem hj)
  have hlt : dvL (es.take j) < 10 ^ j := by
    have := dv_lt (es.take j) (fun c hc' => he c (List.mem_of_mem_take hc'))
    simpa [Nat.min_eq_left (Nat.le_of_lt hj)] using this
  have hle : 10 ^ j ≤ 10 ^ 2 := Nat.pow_le_pow_right (by decide) (by omega)
  have hs : dvL (es.take (j + 1)) = dvL (es.take j) * 10 + (es[j].toNat - 48) := by
    rw [← dv_snoc, List.take_succ_eq_append_getElem hj]
  simp only [show 2 + cs.length + 2 + j - (2 + cs.length + 2) = j by omega, show 2 + cs.length + 2 + j + 1 - (2 + cs.length + 2) = j + 1 by omega]
  rw [hs]
  omega

theorem dv_pos (c0 : UInt8) (cs : List UInt8) (h0 : 49 ≤ c0.toNat) : 0 < dvL (c0 :: cs) := by
  have : ∀ (l : List UInt8) (a : Nat), 0 < a → 0 < l.foldl (fun a c => a * 10 + (c.toNat - 48)) a := by
    intro l
    induction l with
    | nil => intro a h; exact h
    | cons c l ih => intro a h; exact ih _ (Nat.lt_of_lt_of_le (show 0 < a * 10 by omega) (Nat.le_add_right _ _))
  exact this cs _ (by simp; omega)
theorem num_e (c0 : UInt8) (cs es : List UInt8) (h : 2 + cs.length < (numT c0 cs es).length) : (numT c0 cs es)[2 + cs.length] = 101 := by
  unfold numT
  simp only [show 2 + cs.length = cs.length + 1 + 1 by omega, List.getElem_cons_succ]
  rw [List.getElem_append_right (by omega)]
  simp
theorem z_fin (c0 : UInt8) (cs : List UInt8) (h0 : 49 ≤ c0.toNat) : decide (2 ≤ 2 + cs.length) = true ∧ 0 < ndZ (2 + cs.length) ∧ MZ c0 cs (2 + cs.length) ≠ 0 ∧ 0 ≤ dpZ (2 + cs.length) ∧ dpZ (2 + cs.length) ≤ 100 ∧ 0 ≤ nmZ (2 + cs.length) ∧ nmZ (2 + cs.length) ≤ 19 := by
  have hp := dv_pos c0 ((cs.take (2 + cs.length - 2)).take 18) h0
  unfold ndZ MZ dpZ nmZ
  simp only [show ¬ (2 + cs.length = 0) by omega, if_false, show ¬ (2 + cs.length ≤ 1) by omega]
  have hm : min (2 + cs.length - 2) 18 ≤ 18 := Nat.min_le_right _ _
  refine ⟨by simp, by omega, by omega, by omega, by omega, by omega, by omega⟩
theorem z_end (c0 : UInt8) (cs : List UInt8) : MZ c0 cs (2 + cs.length) = (dvL (c0 :: cs.take 18) : Int) ∧ nmZ (2 + cs.length) = 1 + ((min cs.length 18 : Nat) : Int) ∧ dpZ (2 + cs.length) = 1 ∧ cutOff (cs.take (2 + cs.length - 2)) = cutOff cs := by
  unfold MZ dpZ nmZ
  simp only [show ¬ (2 + cs.length = 0) by omega, if_false, show ¬ (2 + cs.length ≤ 1) by omega, show 2 + cs.length - 2 = cs.length by omega, List.take_length]
  exact ⟨trivial, trivial, trivial, trivial⟩
theorem dv_two (es : List UInt8) (he : Dig es) (hle : es.length ≤ 2) : dvL es < 100 := by
  have h1 := dv_lt es he
  have h2 : 10 ^ es.length ≤ 10 ^ 2 := Nat.pow_le_pow_right (by decide) hle
  omega

/-- a power above -/
theorem read_up (c0 : UInt8) (cs es : List UInt8) (h0 : 49 ≤ c0.toNat ∧ c0.toNat ≤ 57) (hc : Dig cs) (hl : cs.length ≤ 1099511627000) (he : Dig es) (hle : es.length ≤ 2) (hes : 0 < es.length) (w : World) :
    Calls Tryz.prog 153 #[.string (bl (numT c0 cs es))] w fun e w' => e = .returned (.tuple #[.int .u64 (dvL (c0 :: cs.take 18) : Int), .int .i64 ((dvL es : Int) - ((min cs.length 18 : Nat) : Int)), .bool false, .bool (cutOff cs), .bool false, .int .i64 ((bl (numT c0 cs es)).size : Nat), .bool true]) ∧ w' = w := by
  have hlen := num_len c0 cs es
  have hdv := dv_two es he hle
  obtain ⟨y1, y2, y3, y4⟩ := z_end c0 cs
  have h := readFloat_pos (bl (numT c0 cs es)) (2 + cs.length) _ _ _ _ _ _ _ w (by rw [bl_size]; omega) (run_z c0 cs es h0 hc hl) ⟨rfl, rfl, rfl, rfl, rfl, rfl⟩ (by omega)
    (by rw [num_at c0 cs es 0 (by omega)]; show 49 ≤ (c0.toNat : Int) ∧ (c0.toNat : Int) ≤ 57; omega)
    (z_fin c0 cs h0.1) (by rw [num_at c0 cs es _ (by omega), num_e c0 cs es (by omega)]; rfl)
    (by rw [bl_size]; omega) (run_e c0 cs es he hle) (by simp [dvL])
    (by
      rw [bl_size, hlen, show cs.length + es.length + 3 - (2 + cs.length + 1) = es.length by omega, List.take_length]
      omega)
  rw [y1, y2, y3, y4, bl_size, hlen, show cs.length + es.length + 3 - (2 + cs.length + 1) = es.length by omega, List.take_length, show (1 : Int) + (dvL es : Int) - (1 + ((min cs.length 18 : Nat) : Int)) = (dvL es : Int) - ((min cs.length 18 : Nat) : Int) by omega] at h
  rw [bl_size, hlen]
  exact h
/-- a power below -/
theorem read_down (c0 : UInt8) (cs es : List UInt8) (h0 : 49 ≤ c0.toNat ∧ c0.toNat ≤ 57) (hc : Dig cs) (hl : cs.length ≤ 1099511627000) (he : Dig es) (hle : es.length ≤ 2) (hes : 0 < es.length) (w : World) :
    Calls Tryz.prog 153 #[.string (bl (numT c0 cs (45 :: es)))] w fun e w' => e = .returned (.tuple #[.int .u64 (dvL (c0 :: cs.take 18) : Int), .int .i64 (-(dvL es : Int) - ((min cs.length 18 : Nat) : Int)), .bool false, .bool (cutOff cs), .bool false, .int .i64 ((bl (numT c0 cs (45 :: es))).size : Nat), .bool true]) ∧ w' = w := by
  have hlen := num_len c0 cs (45 :: es)
  rw [List.length_cons] at hlen
  have hdv := dv_two es he hle
  obtain ⟨y1, y2, y3, y4⟩ := z_end c0 cs
  have h := readFloat_neg (bl (numT c0 cs (45 :: es))) (2 + cs.length) _ _ _ _ _ _ _ w (by rw [bl_size]; omega) (run_z c0 cs (45 :: es) h0 hc hl) ⟨rfl, rfl, rfl, rfl, rfl, rfl⟩ (by omega)
    (by rw [num_at c0 cs (45 :: es) 0 (by omega)]; show 49 ≤ (c0.toNat : Int) ∧ (c0.toNat : Int) ≤ 57; omega)
    (z_fin c0 cs h0.1) (by rw [num_at c0 cs (45 :: es) _ (by omega), num_e c0 cs (45 :: es) (by omega)]; rfl)
    (by
      rw [num_at c0 cs (45 :: es) _ (by omega)]
      have e : (numT c0 cs (45 :: es))[2 + cs.length + 1]'(by omega) = 45 := by
        unfold numT
        simp only [show 2 + cs.length + 1 = (cs.length + 1) + 1 + 1 by omega, List.getElem_cons_succ]
        rw [List.getElem_append_right (by omega)]
        simp
      rw [e]; rfl)
    (by rw [bl_size]; omega) (run_down c0 cs es he hle) (by simp [dvL])
    (by
      rw [bl_size, hlen, show cs.length + (es.length + 1) + 3 - (2 + cs.length + 2) = es.length by omega, List.take_length]
      omega)
  rw [y1, y2, y3, y4, bl_size, hlen, show cs.length + (es.length + 1) + 3 - (2 + cs.length + 2) = es.length by omega, List.take_length, show (1 : Int) + -(dvL es : Int) - (1 + ((min cs.length 18 : Nat) : Int)) = -(dvL es : Int) - ((min cs.length 18 : Nat) : Int) by omega] at h
  rw [bl_size, hlen]
  exact h
end Go.Proofs.YtnljpbpphdhnpaaGreatDoor

/- The library's scaling for float32: the powers of ten from -31 to 45 as they are laid, and that the scaling is exact wherever nothing comes too near. -/
namespace Go.Proofs.YtnljpbpphdhnpaaGreatDoor
open Go.RowKit Go.PlainAid

/-- the table's row of ten to the power j - 31 -/
def hiR (j : Nat) : Nat := (Go.Pinned.pow10Rows.getD (317 + j) (0, 0)).1
def loR (j : Nat) : Nat := (Go.Pinned.pow10Rows.getD (317 + j) (0, 0)).2
/-- the places of that power, less one -/
def lpR (j : Nat) : Int := ((j : Int) - 31) * 108853 / 32768
theorem row_facts : ∀ j, j < 77 → hiR j < 18446744073709551616 ∧ loR j < 18446744073709551616 ∧ loR j ≤ hiR j * 18446744073709551616 ∧ -103 ≤ lpR j ∧ lpR j ≤ 149 ∧
    (hiR j * 18446744073709551616 - loR j) * (4194304 * 10 ^ (31 - j)) ≤ 10 ^ (j - 31) * 2 ^ (149 - lpR j).toNat + 4194304 * 10 ^ (31 - j) ∧ 10 ^ (j - 31) * 2 ^ (149 - lpR j).toNat ≤ (hiR j * 18446744073709551616 - loR j) * (4194304 * 10 ^ (31 - j)) + 4194304 * 10 ^ (31 - j) ∧ lpR j - (j - 31 : Nat) ≤ 104 ∧ (j ≤ 74 → lpR j - (j - 31 : Nat) ≤ 99) := by
  decide +kernel

theorem reord (A P u c k : Nat) : A * P * (u * c) * k = A * u * (P * (k * c)) := by ac_rfl
theorem reord2 (A u c k : Nat) : A * u * (k * c) = A * (u * c) * k := by ac_rfl
theorem reord3 (X v q d k : Nat) : X * v * q * d * k = X * q * (v * (d * k)) := by ac_rfl
theorem reord4 (X q t u l : Nat) : X * q * (t * u * l) = X * t * u * (q * l) := by ac_rfl
theorem usc_f32 (E : Int) (j X t s : Nat) (hj : j < 77) (hx : X * 2 ^ t + 4 ≤ 18446744073709551616) (hs : (s : Int) = (t : Int) - 1 - E - lpR j)
    (hg : (X * 2 ^ E.toNat * 10 ^ (j - 31)) % (2 ^ (-E).toNat * 10 ^ (31 - j)) = 0 ∨
      (3 * 18446744073709551616 * (2 ^ (-E).toNat * 10 ^ (31 - j)) ≤ (X * 2 ^ E.toNat * 10 ^ (j - 31)) % (2 ^ (-E).toNat * 10 ^ (31 - j)) * 2 ^ (128 + s) ∧
        3 * 18446744073709551616 * (2 ^ (-E).toNat * 10 ^ (31 - j)) ≤ (2 ^ (-E).toNat * 10 ^ (31 - j) - (X * 2 ^ E.toNat * 10 ^ (j - 31)) % (2 ^ (-E).toNat * 10 ^ (31 - j))) * 2 ^ (128 + s))) :
    uscN (X * 2 ^ t) (hiR j) (loR j) s = uN (X * 2 ^ E.toNat * 10 ^ (j - 31)) (2 ^ (-E).toNat * 10 ^ (31 - j)) := by
  obtain ⟨a1, a2, a3, a4, a5, a6, a7, _, _⟩ := row_facts j hj
  have hden : 0 < 2 ^ (-E).toNat * 10 ^ (31 - j) := Nat.mul_pos (Nat.two_pow_pos _) (Nat.pow_pos (by decide))
  have hle : X * 2 ^ t * loR j ≤ X * 2 ^ t * hiR j * 18446744073709551616 := by
    rw [Nat.mul_assoc (X * 2 ^ t)]
    exact Nat.mul_le_mul_left _ a3
  have hN : X * 2 ^ t * hiR j * 18446744073709551616 - X * 2 ^ t * loR j = X * 2 ^ t * (hiR j * 18446744073709551616 - loR j) := by
    rw [Nat.mul_assoc (X * 2 ^ t), Nat.mul_sub]
  have e1 : X * 2 ^ E.toNat * 10 ^ (j - 31) * 2 ^ (128 + s) * 4194304 = X * 2 ^ t * 2 ^ (-E).toNat * (10 ^ (j - 31) * 2 ^ (149 - lpR j).toNat) := by
    have e2 : (2 : Nat) ^ E.toNat * (2 ^ (128 + s) * 4194304) = 2 ^ t * 2 ^ (-E).toNat * 2 ^ (149 - lpR j).toNat := by
      rw [show (4194304 : Nat) = 2 ^ 22 by decide, ← Nat.pow_add, ← Nat.pow_add, ← Nat.pow_add, ← Nat.pow_add]
      congr 1
      omega
    rw [reord3, e2, reord4]
  have e3 : X * 2 ^ t * (hiR j * 18446744073709551616 - loR j) * (2 ^ (-E).toNat * 10 ^ (31 - j)) * 4194304 = X * 2 ^ t * 2 ^ (-E).toNat * ((hiR j * 18446744073709551616 - loR j) * (4194304 * 10 ^ (31 - j))) := reord _ _ _ _ _
  have e4 : X * 2 ^ t * 2 ^ (-E).toNat * (4194304 * 10 ^ (31 - j)) = X * 2 ^ t * (2 ^ (-E).toNat * 10 ^ (31 - j)) * 4194304 := reord2 _ _ _ _
  have e5 : X * 2 ^ t * (2 ^ (-E).toNat * 10 ^ (31 - j)) * 4194304 < 2 ^ (-E).toNat * 10 ^ (31 - j) * 18446744073709551616 * 4194304 := by
    refine Nat.mul_lt_mul_of_pos_right ?_ (by decide)
    rw [Nat.mul_comm]
    exact Nat.mul_lt_mul_of_pos_left (by omega) hden
  have m6 := Nat.mul_le_mul_left (X * 2 ^ t * 2 ^ (-E).toNat) a6
  have m7 := Nat.mul_le_mul_left (X * 2 ^ t * 2 ^ (-E).toNat) a7
  rw [Nat.mul_add, e4, ← e1, ← e3] at m6 m7
  refine usc_core _ _ _ _ _ _ hx a2 hle hden ?_ ?_ hg
  · rw [hN]
    generalize X * 2 ^ t * (hiR j * 18446744073709551616 - loR j) * (2 ^ (-E).toNat * 10 ^ (31 - j)) = z1 at *
    generalize X * 2 ^ E.toNat * 10 ^ (j - 31) * 2 ^ (128 + s) = z2 at *
    generalize X * 2 ^ t * (2 ^ (-E).toNat * 10 ^ (31 - j)) = z3 at *
    generalize 2 ^ (-E).toNat * 10 ^ (31 - j) = z4 at *
    omega
  · rw [hN]
    generalize X * 2 ^ t * (hiR j * 18446744073709551616 - loR j) * (2 ^ (-E).toNat * 10 ^ (31 - j)) = z1 at *
    generalize X * 2 ^ E.toNat * 10 ^ (j - 31) * 2 ^ (128 + s) = z2 at *
    generalize X * 2 ^ t * (2 ^ (-E).toNat * 10 ^ (31 - j)) = z3 at *
    generalize 2 ^ (-E).toNat * 10 ^ (31 - j) = z4 at *
    omega
end Go.Proofs.YtnljpbpphdhnpaaGreatDoor

/- The library's scaling for float32: nothing comes too near, whatever the float; so it is exact. -/
namespace Go.Proofs.YtnljpbpphdhnpaaGreatDoor
open Go.RowKit Go.PlainAid

/-- the row of the power that brings one place of 2 to the power E to 1 or more, less than 10 (jS: three quarters of it) -/
def jN (E : Int) : Nat := (31 - E * 78913 / 262144).toNat
def jS (E : Int) : Nat := (31 - (E * 631305 - 261663) / 2097152).toNat
def rowOk (E : Int) (j : Nat) : Prop := j < 77 ∧ (j < 31 → (31 : Int) - j ≤ E) ∧ 34 ≤ 37 - E - lpR j ∧ (75 ≤ j → j = 75 ∧ 99 ≤ -E - 44 ∧ -E - 44 ≤ 102 ∨ j = 76 ∧ 101 ≤ -E - 45 ∧ -E - 45 ≤ 104)
instance (E : Int) (j : Nat) : Decidable (rowOk E j) := by unfold rowOk; infer_instance
theorem rows_ok : ∀ n : Nat, n < 254 → rowOk ((n : Int) - 149) (jN ((n : Int) - 149)) ∧ (1 ≤ n → rowOk ((n : Int) - 149) (jS ((n : Int) - 149))) := by
  decide +kernel

def inv5 (p : Nat) : Nat := if p = 45 then 11652860451967362934349200961085 else 2487675849794721005891063768881
def missOk (p K : Nat) : Prop := 5 ^ p * inv5 p % 2 ^ K = 1 ∧ ∀ c, c < 24 → c ≠ 0 → 67108867 ≤ c * inv5 p % 2 ^ K ∧ 67108867 ≤ (2 ^ K - c) * inv5 p % 2 ^ K
instance (p K : Nat) : Decidable (missOk p K) := by unfold missOk; infer_instance
theorem miss_ok : missOk 45 104 ∧ missOk 45 103 ∧ missOk 45 102 ∧ missOk 45 101 ∧ missOk 44 102 ∧ missOk 44 101 ∧ missOk 44 100 ∧ missOk 44 99 := by
  decide +kernel
theorem miss (p K X : Nat) (h : missOk p K) (hK : 27 ≤ K) (hX : X < 67108867) (h0 : X * 5 ^ p % 2 ^ K ≠ 0) : 24 ≤ X * 5 ^ p % 2 ^ K ∧ X * 5 ^ p % 2 ^ K + 24 ≤ 2 ^ K := by
  obtain ⟨h1, h2⟩ := h
  have hP : 0 < 2 ^ K := Nat.two_pow_pos K
  have hbig : 2 ^ 27 ≤ 2 ^ K := Nat.pow_le_pow_right (by decide) hK
  have hlt := Nat.mod_lt (X * 5 ^ p) hP
  have hinv : X * 5 ^ p % 2 ^ K * inv5 p % 2 ^ K = X := by
    rw [Nat.mod_mul_mod, Nat.mul_assoc, Nat.mul_mod, h1, Nat.mul_one, Nat.mod_mod]
    exact Nat.mod_eq_of_lt (by omega)
  generalize X * 5 ^ p % 2 ^ K = c at *
  generalize 2 ^ K = P at *
  refine ⟨?_, ?_⟩
  · rcases Nat.lt_or_ge c 24 with h | h
    · have := (h2 c h h0).1
      omega
    · exact h
  · rcases Nat.lt_or_ge P (c + 24) with h | h
    · have := (h2 (P - c) (by omega) (by omega)).2
      rw [show P - (P - c) = c by omega] at this
      omega
    · exact h

theorem two_mul_pow (a b c d : Nat) (h : a + b = c + d) : (2 : Nat) ^ a * 2 ^ b = 2 ^ c * 2 ^ d := by rw [← Nat.pow_add, ← Nat.pow_add, h]
theorem ten_split (n : Nat) : 10 ^ n = 2 ^ n * 5 ^ n := by rw [← Nat.mul_pow]
theorem five_le {q : Nat} (h : q ≤ 31) : 5 ^ q ≤ 2 ^ 72 := Nat.le_trans (Nat.pow_le_pow_right (by decide) h) (by decide +kernel)
/-- what the scaling asks: nothing that isn't whole stands nearer than three last places -/
def Gap (E : Int) (j X s : Nat) : Prop := (X * 2 ^ E.toNat * 10 ^ (j - 31)) % (2 ^ (-E).toNat * 10 ^ (31 - j)) = 0 ∨
      (3 * 18446744073709551616 * (2 ^ (-E).toNat * 10 ^ (31 - j)) ≤ (X * 2 ^ E.toNat * 10 ^ (j - 31)) % (2 ^ (-E).toNat * 10 ^ (31 - j)) * 2 ^ (128 + s) ∧
        3 * 18446744073709551616 * (2 ^ (-E).toNat * 10 ^ (31 - j)) ≤ (2 ^ (-E).toNat * 10 ^ (31 - j) - (X * 2 ^ E.toNat * 10 ^ (j - 31)) % (2 ^ (-E).toNat * 10 ^ (31 - j))) * 2 ^ (128 + s))
/-- the same, of a number with the factor a taken out: what is left of it, and how near it may come -/
theorem gap_of (num den a Y B m D : Nat) (hn : num = a * Y) (hd : den = a * B) (hr : Y % B ≠ 0 → m ≤ Y % B ∧ Y % B + m ≤ B) (hD : 3 * 18446744073709551616 * B ≤ m * D) :
    num % den = 0 ∨ (3 * 18446744073709551616 * den ≤ num % den * D ∧ 3 * 18446744073709551616 * den ≤ (den - num % den) * D) := by
  subst hn hd
  rw [Nat.mul_mod_mul_left]
  by_cases h : Y % B = 0
  · exact .inl (by rw [h, Nat.mul_zero])
  · obtain ⟨h1, h2⟩ := hr h
    refine .inr ⟨?_, ?_⟩
    · calc 3 * 18446744073709551616 * (a * B) = a * (3 * 18446744073709551616 * B) := by rw [Nat.mul_left_comm]
        _ ≤ a * (m * D) := Nat.mul_le_mul_left _ hD
        _ ≤ a * (Y % B * D) := Nat.mul_le_mul_left _ (Nat.mul_le_mul_right _ h1)
        _ = a * (Y % B) * D := by rw [Nat.mul_assoc]
    · calc 3 * 18446744073709551616 * (a * B) = a * (3 * 18446744073709551616 * B) := by rw [Nat.mul_left_comm]
        _ ≤ a * (m * D) := Nat.mul_le_mul_left _ hD
        _ ≤ a * ((B - Y % B) * D) := Nat.mul_le_mul_left _ (Nat.mul_le_mul_right _ (by omega))
        _ = (a * B - a * (Y % B)) * D := by rw [← Nat.mul_assoc, Nat.mul_sub]
set_option maxRecDepth 100000 in
theorem gap_any (E : Int) (j X s t : Nat) (hX : X < 67108867) (ht : 38 ≤ t) (hs : (s : Int) = (t : Int) - 1 - E - lpR j) (hr : rowOk E j) : Gap E j X s := by
  obtain ⟨r1, r2, r3, r4⟩ := hr
  obtain ⟨_, _, _, l1, l2, _, _, l3, l4⟩ := row_facts j r1
  have h34 : 34 ≤ s := by omega
  unfold Gap
  by_cases hj : j < 31
  · have hE := r2 hj
    have hz : (-E).toNat = 0 := by omega
    rw [hz, show j - 31 = 0 by omega]
    simp only [Nat.pow_zero, Nat.one_mul, Nat.mul_one]
    refine gap_of _ _ (2 ^ (31 - j)) (X * 2 ^ (E.toNat - (31 - j))) (5 ^ (31 - j)) 1 _ ?_ (ten_split _) (fun h => ⟨by omega, ?_⟩) ?_
    · have e := two_mul_pow (31 - j) (E.toNat - (31 - j)) E.toNat 0 (by omega)
      rw [Nat.pow_zero, Nat.mul_one] at e
      rw [← e, Nat.mul_left_comm]
    · have := Nat.mod_lt (X * 2 ^ (E.toNat - (31 - j))) (show 0 < 5 ^ (31 - j) from Nat.pow_pos (by decide))
      omega
    · have h5 := five_le (show 31 - j ≤ 31 by omega)
      have h2 : (2 : Nat) ^ 162 ≤ 2 ^ (128 + s) := Nat.pow_le_pow_right (by decide) (by omega)
      have h3 : 3 * 18446744073709551616 * 2 ^ 72 ≤ 2 ^ 162 := by decide +kernel
      rw [Nat.one_mul]
      exact Nat.le_trans (Nat.mul_le_mul_left _ h5) (Nat.le_trans h3 h2)
  · rw [show 31 - j = 0 by omega, Nat.pow_zero, Nat.mul_one]
    by_cases he : (-E).toNat ≤ j - 31
    · refine .inl (Nat.mod_eq_zero_of_dvd ?_)
      rw [ten_split]
      exact Nat.dvd_trans (Nat.pow_dvd_pow 2 he) (Nat.dvd_trans (Nat.dvd_mul_right _ _) (Nat.dvd_mul_left _ _))
    · rw [show E.toNat = 0 by omega, Nat.pow_zero, Nat.mul_one]
      have hnum : X * 10 ^ (j - 31) = 2 ^ (j - 31) * (X * 5 ^ (j - 31)) := by rw [ten_split, Nat.mul_left_comm]
      have hden : 2 ^ (-E).toNat = 2 ^ (j - 31) * 2 ^ ((-E).toNat - (j - 31)) := by rw [← Nat.pow_add]; congr 1; omega
      by_cases h7 : j ≤ 74
      · refine gap_of _ _ _ _ _ 1 _ hnum hden (fun h => ⟨by omega, ?_⟩) ?_
        · have := Nat.mod_lt (X * 5 ^ (j - 31)) (Nat.two_pow_pos ((-E).toNat - (j - 31)))
          omega
        · have h2 : (2 : Nat) ^ (66 + ((-E).toNat - (j - 31))) ≤ 2 ^ (128 + s) := Nat.pow_le_pow_right (by decide) (by have := l4 h7; omega)
          rw [Nat.pow_add] at h2
          rw [Nat.one_mul]
          have h3 : 3 * 18446744073709551616 ≤ 2 ^ 66 := by decide +kernel
          exact Nat.le_trans (Nat.mul_le_mul_right _ h3) h2
      · have hm : missOk (j - 31) ((-E).toNat - (j - 31)) := by
          obtain ⟨m1, m2, m3, m4, m5, m6, m7, m8⟩ := miss_ok
          rcases r4 (by omega) with ⟨rfl, h1, h2⟩ | ⟨rfl, h1, h2⟩
          · rcases (show E = -143 ∨ E = -144 ∨ E = -145 ∨ E = -146 by omega) with rfl | rfl | rfl | rfl
            · exact m8
            · exact m7
            · exact m6
            · exact m5
          · rcases (show E = -146 ∨ E = -147 ∨ E = -148 ∨ E = -149 by omega) with rfl | rfl | rfl | rfl
            · exact m4
            · exact m3
            · exact m2
            · exact m1
        refine gap_of _ _ _ _ _ 24 _ hnum hden (fun h => miss _ _ X hm ?_ hX h) ?_
        · clear hnum hden hm h
          rcases r4 (by omega) with ⟨h0, h1, h2⟩ | ⟨h0, h1, h2⟩ <;> omega
        · have h2 : (2 : Nat) ^ (64 + ((-E).toNat - (j - 31))) ≤ 2 ^ (3 + (128 + s)) := Nat.pow_le_pow_right (by decide) (by omega)
          rw [Nat.pow_add, Nat.pow_add 2 3] at h2
          have h3 := Nat.mul_le_mul_left 3 h2
          have h4 : (2 : Nat) ^ 64 = 18446744073709551616 := by decide +kernel
          rw [h4] at h3
          have h6 : (2 : Nat) ^ 3 = 8 := by decide
          rw [h6] at h3
          generalize 2 ^ ((-E).toNat - (j - 31)) = z at *
          generalize 2 ^ (128 + s) = y at *
          omega
/-- the library's scaling of a float32's halves and quarters, exact -/
theorem usc_any (E : Int) (j X s t : Nat) (hX : X < 67108867) (ht : 38 ≤ t) (hx : X * 2 ^ t + 4 ≤ 18446744073709551616) (hs : (s : Int) = (t : Int) - 1 - E - lpR j) (hr : rowOk E j) :
    uscN (X * 2 ^ t) (hiR j) (loR j) s = uN (X * 2 ^ E.toNat * 10 ^ (j - 31)) (2 ^ (-E).toNat * 10 ^ (31 - j)) :=
  usc_f32 E j X t s hr.1 hx hs (gap_any E j X s t hX ht hs hr)
end Go.Proofs.YtnljpbpphdhnpaaGreatDoor

/- The library's fmtEFG, where the digits are written with a power of ten of one digit. -/
namespace Go.Proofs.YtnljpbpphdhnpaaGreatDoor
open Go.RowKit Go.PlainAid

/-- what is being written, beside the digits -/
structure Fm (w0 w : World) (v : Value) (l : List UInt8) (b cap : Nat) (D : List UInt8) : Prop where
  row : Row w v l
  bs : Bs w (.slice (some ⟨b, 0, none⟩) D.length cap) D
  ne : D ≠ []
  off : b ∉ v.ownBlock.toList
  keep : Keep [] w0 w
  fresh : Fresh w0 w v
theorem Fm.blt {w0 w : World} {v : Value} {l : List UInt8} {b cap : Nat} {D : List UInt8} (h : Fm w0 w v l b cap D) : b < w.heap.size := h.bs.lt h.ne b rfl
theorem Fm.app {w0 w w1 : World} {v v' : Value} {l r : List UInt8} {b cap : Nat} {D : List UInt8} (h : Fm w0 w v l b cap D) (g1 : Row w1 v' (l ++ r)) (g2 : Keep v.ownBlock.toList w w1) (g3 : v'.ownBlock = v.ownBlock ∨ Fresh w w1 v') : Fm w0 w1 v' (l ++ r) b cap D := by
  have hb := h.blt
  refine ⟨g1, h.bs.keep g2 (fun k hk => by simp [Value.ownBlock] at hk; subst hk; exact h.off), h.ne, ?_, ?_, ?_⟩
  · rcases g3 with g | g
    · rw [g]; exact h.off
    · intro hm
      simp at hm
      have := (g b hm).1
      omega
  · exact h.keep.more g2 (fun x hx => .inr (by simp at hx; exact (h.fresh x hx).1))
  · rcases g3 with g | g
    · intro k hk
      rw [g] at hk
      have := h.fresh k hk
      exact ⟨this.1, Nat.lt_of_lt_of_le this.2 g2.size⟩
    · exact g.earlier h.keep.size
theorem Fm.alloc {w0 w : World} {v : Value} {l : List UInt8} {b cap : Nat} {D : List UInt8} (h : Fm w0 w v l b cap D) (o : Obj) : Fm w0 (w.alloc o) v l b cap D :=
  ⟨h.row.keep (Keep.alloc1 w o) (Off.nil _), h.bs.keep (Keep.alloc1 w o) (Off.nil _), h.ne, h.off, h.keep.alloc o, h.fresh.later (by simp)⟩
theorem Bs.two (w : World) (x y : UInt8) : Bs (w.alloc (.cells #[.int .u8 (x.toNat : Int), .int .u8 (y.toNat : Int)] TB)) (.slice (some ⟨w.heap.size, 0, none⟩) 2 2) [x, y] := by
  refine ⟨some ⟨w.heap.size, 0, none⟩, 2, rfl, by simp, by simp [maxLen], (by intro h; cases h), fun _ => ⟨w.heap.size, 0, rfl, fun j hj => ?_⟩⟩
  rw [Nat.zero_add, World.cell?_alloc_new]
  have : j = 0 ∨ j = 1 := by simp at hj; omega
  rcases this with rfl | rfl <;> rfl

set_option maxRecDepth 1000000 in
set_option maxHeartbeats 4000000 in
theorem fmtE_any (w0 w : World) (v : Value) (l : List UInt8) (b cap : Nat) (D : List UInt8) (nd dp : Nat) (hF : Fm w0 w v l b cap D) (hl : l.length ≤ 1000) (hD : D.length ≤ 1000) (hn1 : 2 ≤ nd) (hn2 : nd ≤ D.length) (hc : cap ≤ 1000) (hd1 : 1 ≤ dp) (hd2 : dp ≤ 10) :
    Calls Tryz.prog 137 #[v, .bool false, .slice (some ⟨b, 0, none⟩) D.length cap, .int .i64 dp, .int .i64 nd, .int .i64 ((nd : Int) - 1), .int .u8 101, .bool true] w fun e w' =>
      ∃ v', e = .returned v' ∧ Fm w0 w' v' (l ++ [D.getD 0 0] ++ [46] ++ (D.take nd).drop 1 ++ [101] ++ [43] ++ [48, UInt8.ofNat (48 + (dp - 1))]) b cap D := by
  have h0 : 0 < D.length := by omega
  obtain ⟨ao, cp, he, hb1, hb2, hb3, hb4⟩ := hF.bs.ex
  obtain ⟨b', o', hbo, hcell⟩ := hb4 hF.ne
  simp at he
  obtain ⟨rfl, rfl⟩ := he
  simp at hbo
  obtain ⟨rfl, rfl⟩ := hbo
  have hc0 := hcell 0 h0
  rw [Nat.add_zero] at hc0
  clear hb1 hb2 hb3 hb4
  have HC : Hid (∀ j, j < D.length → w.cell? ⟨b, 0 + j, none⟩ = some (.int .u8 ((D.getD j 0).toNat : Int))) := hcell
  clear hcell
  generalize hx0 : D.getD 0 0 = x0 at *
  have HF : Hid (Fm w0 w v l b cap D) := hF
  have hF1 := hF.alloc (.cells #[.int .u8 (x0.toNat : Int)] TB)
  have hr1 := hF1.row
  have hs1 := (Bs.byte w x0).src
  have HB1 : Hid (l.length + [x0].length ≤ 140737488355328) := show l.length + [x0].length ≤ 140737488355328 by simp; omega
  have HF1 : Hid (Fm w0 (w.alloc (.cells #[.int .u8 (x0.toNat : Int)] TB)) v l b cap D) := hF1
  have t1 : ((nd : Int) != 0) = true := by simp; omega
  have t2 : (0 : Int) < (nd : Int) - 1 := by omega
  have hDi : (0 : Int) < (D.length : Int) := by omega
  clear hF hF1
  go_enter Tryz.func137, Tryz.ntmps137
  go_wp2_with (at_builtin; refine wp_app rfl (.tmp 87) (.tmp 89) 72 72 rfl underS _ l rfl hr1 _ [x0] rfl hs1 HB1.out ?_)
  intro v1 w1 g1 g2 g3 g4
  obtain ⟨L1, HL1, HG1⟩ : ∃ L, Hid (L = l ++ [x0] ∧ L.length ≤ 2010) ∧ Hid (Fm w0 w1 v1 L b cap D) := ⟨_, ⟨rfl, by simp; omega⟩, HF1.out.app g1 g2 g3⟩
  clear g1 g2 g3 g4 hr1 hs1 HB1 HF1 HF HC hc0 t1
  have HF1 := HG1
  clear HG1
  have hl2 : L1.length ≤ 2010 := HL1.out.2
  have hr := (HF1.out.alloc (.cells #[.int .u8 46] TB)).row
  have hs := (show Bs (w1.alloc (.cells #[.int .u8 46] TB)) (.slice (some ⟨w1.heap.size, 0, none⟩) 1 1) [46] from Bs.byte w1 46).src
  have HB : Hid (L1.length + [(46 : UInt8)].length ≤ 140737488355328) := show L1.length + [(46 : UInt8)].length ≤ 140737488355328 by simp; omega
  go_wp2_with (at_builtin; refine wp_app rfl (.tmp 93) (.tmp 94) 72 72 rfl underS _ L1 rfl hr _ [46] rfl hs HB.out ?_)
  intro v2 w2 g1 g2 g3 g4
  obtain ⟨L2, HL2, HF2⟩ : ∃ L, Hid (L = L1 ++ [46] ∧ L.length ≤ 3020) ∧ Hid (Fm w0 w2 v2 L b cap D) := ⟨_, ⟨rfl, by simp; omega⟩, (HF1.out.alloc _).app g1 g2 g3⟩
  clear g1 g2 g3 g4 hr hs HB HF1
  have hl3 : L2.length ≤ 3020 := HL2.out.2
  have hcap : D.length ≤ cap := by
    obtain ⟨ao, cp, he, hb1, _, _, _⟩ := HF2.out.bs.ex
    simp at he
    omega
  have u1 : nd ≤ cap := by omega
  have u2 : ¬ cap = 1 := by omega
  have hr := HF2.out.row
  have hs : Src Tryz.prog 1 72 (.slice (some ⟨b, 1, none⟩) (nd - 1) (cap - 1)) ((D.take nd).drop 1).length (bv ((D.take nd).drop 1)) w2 := by
    have h1 := Bs.take nd hn2 HF2.out.bs
    have h2 : (D.take nd).length = nd := by simp; omega
    have h3 := Bs.drop (b := b) (o := 0) (l := D.take nd) (cap := cap) 1 (by omega) (by rw [h2]; exact h1)
    rw [h2] at h3
    exact h3.src
  have hlr : ((D.take nd).drop 1).length = nd - 1 := by simp; omega
  have HB : Hid (L2.length + ((D.take nd).drop 1).length ≤ 140737488355328) := show L2.length + ((D.take nd).drop 1).length ≤ 140737488355328 by omega
  have HD : Hid (((D.take nd).drop 1).length ≤ 1000) := show ((D.take nd).drop 1).length ≤ 1000 by omega
  clear hlr
  generalize hEE : (D.take nd).drop 1 = E at *
  have HEE : Hid ((D.take nd).drop 1 = E) := hEE
  clear hEE
  go_wp2_with (at_builtin; refine wp_app rfl (.tmp 103) (.tmp 107) 72 72 rfl underS _ L2 rfl hr _ E rfl hs HB.out ?_)
  intro v3 w3 g1 g2 g3 g4
  have hE : E.length ≤ 1000 := HD.out
  obtain ⟨L3, HL3, HF3⟩ : ∃ L, Hid (L = L2 ++ E ∧ L.length ≤ 4030) ∧ Hid (Fm w0 w3 v3 L b cap D) := ⟨_, ⟨rfl, by simp; omega⟩, HF2.out.app g1 g2 g3⟩
  clear g1 g2 g3 g4 hr hs HB HF2 u1 u2
  go_wp2
  refine wp_loop_rounds 1 ?_
  rw [rounds_succ]
  have hl4 : L3.length ≤ 4030 := HL3.out.2
  have hr := (HF3.out.alloc (.cells #[.int .u8 101] TB)).row
  have hs := (show Bs (w3.alloc (.cells #[.int .u8 101] TB)) (.slice (some ⟨w3.heap.size, 0, none⟩) 1 1) [101] from Bs.byte w3 101).src
  have HB : Hid (L3.length + [(101 : UInt8)].length ≤ 140737488355328) := show L3.length + [(101 : UInt8)].length ≤ 140737488355328 by simp; omega
  go_wp2_with (at_builtin; refine wp_app rfl (.tmp 120) (.tmp 122) 72 72 rfl underS _ L3 rfl hr _ [101] rfl hs HB.out ?_)
  intro v4 w4 g1 g2 g3 g4
  obtain ⟨L4, HL4, HF4⟩ : ∃ L, Hid (L = L3 ++ [101] ∧ L.length ≤ 5040) ∧ Hid (Fm w0 w4 v4 L b cap D) := ⟨_, ⟨rfl, by simp; omega⟩, (HF3.out.alloc _).app g1 g2 g3⟩
  clear g1 g2 g3 g4 hr hs HB HF3
  have hl5 : L4.length ≤ 5040 := HL4.out.2
  have hr := (HF4.out.alloc (.cells #[.int .u8 43] TB)).row
  have hs := (show Bs (w4.alloc (.cells #[.int .u8 43] TB)) (.slice (some ⟨w4.heap.size, 0, none⟩) 1 1) [43] from Bs.byte w4 43).src
  have HB : Hid (L4.length + [(43 : UInt8)].length ≤ 140737488355328) := show L4.length + [(43 : UInt8)].length ≤ 140737488355328 by simp; omega
  go_wp2_with (at_builtin; refine wp_app rfl (.tmp 132) (.tmp 134) 72 72 rfl underS _ L4 rfl hr _ [43] rfl hs HB.out ?_)
  intro v5 w5 g1 g2 g3 g4
  obtain ⟨L5, HL5, HF5⟩ : ∃ L, Hid (L = L4 ++ [43] ∧ L.length ≤ 6050) ∧ Hid (Fm w0 w5 v5 L b cap D) := ⟨_, ⟨rfl, by simp; omega⟩, (HF4.out.alloc _).app g1 g2 g3⟩
  clear g1 g2 g3 g4 hr hs HB HF4
  have hl6 : L5.length ≤ 6050 := HL5.out.2
  obtain ⟨y, HY⟩ : ∃ y, Hid (y = UInt8.ofNat (48 + (dp - 1))) := ⟨_, rfl⟩
  have hy : (y.toNat : Int) = (dp : Int) - 1 + 48 := by
    rw [HY.out]
    simp [UInt8.toNat_ofNat]; omega
  have hr := (HF5.out.alloc (.cells #[.int .u8 48, .int .u8 ((dp : Int) - 1 + 48)] TB)).row
  have hs : Src Tryz.prog 1 72 (.slice (some ⟨w5.heap.size, 0, none⟩) 2 2) 2 (bv [48, y]) (w5.alloc (.cells #[.int .u8 48, .int .u8 ((dp : Int) - 1 + 48)] TB)) := by
    have := (Bs.two w5 48 y).src
    rw [hy] at this
    exact this
  have HB : Hid (L5.length + [(48 : UInt8), y].length ≤ 140737488355328) := show L5.length + [(48 : UInt8), y].length ≤ 140737488355328 by simp; omega
  clear hy
  go_wp2_with (at_builtin; refine wp_app rfl (.tmp 155) (.tmp 159) 72 72 rfl underS _ L5 rfl hr _ [48, y] rfl hs HB.out ?_)
  intro v6 w6 g1 g2 g3 g4
  have HF6 : Hid (Fm w0 w6 v6 (L5 ++ [48, y]) b cap D) := (HF5.out.alloc _).app g1 g2 g3
  clear g1 g2 g3 g4 hr hs HB HF5
  go_wp2
  go_ret
  refine ⟨_, rfl, ?_⟩
  have e := HF6.out
  rw [HY.out, HL5.out.1, HL4.out.1, HL3.out.1, HL2.out.1, HL1.out.1] at e
  rw [HEE.out]
  exact e
end Go.Proofs.YtnljpbpphdhnpaaGreatDoor



/- The library's setDigits, of a number whose last digit is no nought. -/
namespace Go.Proofs.YtnljpbpphdhnpaaGreatDoor
open Go.RowKit Go.PlainAid Go.Sort

abbrev encB (b : UInt8) : Value := Value.int .u8 (b.toNat : Int)

theorem putRow_keep (w : World) (b off : Nat) (d : Array UInt8) (n : Nat) : Keep [b] w ((putRow encB w b off d).drewN n) := by
  refine ⟨rfl, rfl, rfl, ?_, fun k hk hn => ?_⟩
  · show w.heap.size ≤ (putRow encB w b off d).heap.size
    rw [size_putRow]; exact Nat.le_refl _
  · show (putRow encB w b off d).heap[k]? = w.heap[k]?
    have hne : ¬ b = k := by intro e; exact hn (by simp [e])
    simp [putRow, mapBlock, Array.getElem?_modify, hne]

set_option maxRecDepth 1000000 in
set_option maxHeartbeats 1000000 in
theorem setDigits_any (b nd u : Nat) (p : Int) (w : World) (hn1 : 1 ≤ nd) (hn2 : nd ≤ 32) (hu : u < 10 ^ nd) (hu64 : u < 18446744073709551616) (h10 : u % 10 ≠ 0) (hp1 : -1000 ≤ p) (hp2 : p ≤ 1000)
    (hZ : ∀ j, j < 32 → w.cell? ⟨b, j, none⟩ = some (.int .u8 0) ∧ w.frozen? ⟨b, j, none⟩ = false) :
    Calls Tryz.prog 139 #[.slice (some ⟨b, 0, none⟩) 32 32, .int .u64 (u : Nat), .int .i64 p, .int .i64 (nd : Nat)] w fun e w' =>
      e = .returned (.tuple #[.int .i64 ((nd : Int) + p), .int .i64 (nd : Nat)]) ∧ Keep [b] w w' ∧ (∀ j, j < nd → w'.cell? ⟨b, j, none⟩ = some (.int .u8 ((Lib.dg u (nd - 1 - j)).toNat : Int))) ∧ (∀ j, nd ≤ j → j < 32 → w'.cell? ⟨b, j, none⟩ = some (.int .u8 0)) := by
  have hH : Holds encB w b 0 (Array.replicate nd (0 : UInt8)) := fun j hj => by
    have hj' : j < nd := by simpa using hj
    rw [Nat.zero_add]
    obtain ⟨z1, z2⟩ := hZ j (by omega)
    refine ⟨?_, z2⟩
    rw [z1, getElem!_pos _ j (by simpa using hj)]
    simp
  have hC := Tryz.internal_strconv_formatBase10 b 0 32 u (Array.replicate nd (0 : UInt8)) w hH (by simpa using hu) hu64 (by simp; omega)
  rw [Array.size_replicate] at hC
  have HZ : Hid (∀ j, j < 32 → w.cell? ⟨b, j, none⟩ = some (.int .u8 0) ∧ w.frozen? ⟨b, j, none⟩ = false) := hZ
  have HH : Hid (Holds encB w b 0 (Array.replicate nd (0 : UInt8))) := hH
  clear hZ hH
  have hndi : (nd : Int) ≤ 32 := by omega
  go_enter Tryz.func139, Tryz.ntmps139
  go_wp2_with (first | (go_at_call 106; refine hC.mono ?_; rintro e9 w9 ⟨rfl, n9, v9, dk, hw9, hI⟩; have HW : Hid (w9 = (putRow encB w b 0 dk).drewN n9 ∧ Lib.FmtInv nd u 0 v9 dk) := ⟨hw9, hI⟩; clear hw9 hI))
  obtain ⟨hw9, hI⟩ := HW.out
  obtain ⟨m, rfl⟩ : ∃ m, nd = m + 1 := ⟨nd - 1, by omega⟩
  have hdone : ∀ j, j < m + 1 → w9.cell? ⟨b, j, none⟩ = some (.int .u8 ((Lib.dg u (m + 1 - 1 - j)).toNat : Int)) := by
    intro j hj
    have hsz : dk.size = (Array.replicate (m + 1) (0 : UInt8)).size := by rw [hI.size]; simp
    have := cell?_putRow encB w b 0 (Array.replicate (m + 1) (0 : UInt8)) dk HH.out hsz j (by rw [hI.size]; exact hj)
    rw [Nat.zero_add] at this
    rw [hw9]
    show (putRow encB w b 0 dk).cell? ⟨b, j, none⟩ = _
    rw [this, hI.done j (Nat.zero_le _) hj]
  have hrest : ∀ j, m + 1 ≤ j → j < 32 → w9.cell? ⟨b, j, none⟩ = some (.int .u8 0) := by
    intro j h1 h2
    rw [hw9]
    show (putRow encB w b 0 dk).cell? ⟨b, j, none⟩ = _
    rw [cell?_putRow_other encB w b 0 dk ⟨b, j, none⟩ (.inr (.inr (by rw [hI.size]; simpa using h1)))]
    exact (HZ.out j h2).1
  have HK : Hid (Keep [b] w w9) := by rw [hw9]; exact putRow_keep w b 0 dk n9
  have hlast := hdone m (by omega)
  have h48 : ((Lib.dg u (m + 1 - 1 - m)).toNat : Int) ≠ 48 := by
    rw [show m + 1 - 1 - m = 0 by omega]
    unfold Lib.dg
    rw [Nat.pow_zero, Nat.div_one, UInt8.toNat_ofNat']
    omega
  generalize ((Lib.dg u (m + 1 - 1 - m)).toNat : Int) = c at hlast h48
  have t1 : (c == 48) = false := by simpa using h48
  have HD : Hid ((∀ j, j < m + 1 → w9.cell? ⟨b, j, none⟩ = some (.int .u8 ((Lib.dg u (m + 1 - 1 - j)).toNat : Int))) ∧ ∀ j, m + 1 ≤ j → j < 32 → w9.cell? ⟨b, j, none⟩ = some (.int .u8 0)) := ⟨hdone, hrest⟩
  clear hdone hrest hw9 hI HW h48 HZ HH hC hu hu64 h10
  refine wp_loop_rounds 1 ?_
  rw [rounds_succ]
  go_wp2
  go_ret2
  exact ⟨by simp, HK.out, HD.out.1, HD.out.2⟩
end Go.Proofs.YtnljpbpphdhnpaaGreatDoor



/- The library's shortFloat and numDigits at the one number that is asked for. -/
namespace Go.Proofs.YtnljpbpphdhnpaaGreatDoor
open Go.RowKit Go.PlainAid

abbrev preW : Obj := .cells #[.int .u64 9223372036854775808, .int .u64 0, .int .i64 36] 208

theorem alloc_drewN (w : World) (o : Obj) (n : Nat) : (w.drewN n).alloc o = (w.alloc o).drewN n := rfl
theorem usc_s (x a u : Int) (hx : 0 ≤ x ∧ x < 18446744073709551616) (ha : x * 9223372036854775808 / 18446744073709551616 = a) (hb : x * 9223372036854775808 % 18446744073709551616 = 0) (hne : (IntKind.u64.wrap (a / 2 ^ (36 : Int).toNat * 2 ^ (36 : Int).toNat) != a) = false)
    (hu : bits .or .u64 (IntKind.u64.wrap (a - 0) / 2 ^ (36 : Int).toNat) 0 = u) (w : World) (n : Nat) :
    Calls Tryz.prog 173 #[.int .u64 x, .pointer (some ⟨w.heap.size, 0, none⟩)] ((w.alloc preW).drewN n) fun e w' => e = .returned (.int .u64 u) ∧ ∃ m, w' = (w.alloc preW).drewN m := by
  have h := uscale_all x 9223372036854775808 0 36 a 0 0 0 0 0 (w.drewN n) (by decide) (by decide) (by decide) hx (by decide) (by decide) ha hb (by simp) (by simp) hne (by decide) (by decide)
  rw [hu, alloc_drewN] at h
  refine h.mono ?_
  rintro e w' ⟨rfl, m, rfl⟩
  exact ⟨rfl, n + m, by simp [World.drewN]; omega⟩

theorem skew_p (w : World) : Calls Tryz.prog 170 #[.int .i64 1] w fun e w' => e = .returned (.int .i64 0) ∧ w' = w := by
  go_enter Tryz.func170, Tryz.ntmps170
  go_wp2
  go_ret
  exact ⟨rfl, rfl⟩
theorem nudge_p (u : Int) (h0 : 0 ≤ u) (h1 : u ≤ 18446744073709551615) (w : World) : Calls Tryz.prog 174 #[.int .u64 u, .int .i64 0] w fun e w' => e = .returned (.int .u64 u) ∧ w' = w := by
  go_enter Tryz.func174, Tryz.ntmps174
  go_wp2
  go_ret
  exact ⟨rfl, rfl⟩
theorem ceil_p (w : World) : Calls Tryz.prog 175 #[.int .u64 67108862] w fun e w' => e = .returned (.int .u64 16777216) ∧ w' = w := by
  go_enter Tryz.func175, Tryz.ntmps175
  go_wp2
  go_ret
  exact ⟨rfl, rfl⟩
theorem floor_p (w : World) : Calls Tryz.prog 176 #[.int .u64 67108868] w fun e w' => e = .returned (.int .u64 16777217) ∧ w' = w := by
  go_enter Tryz.func176, Tryz.ntmps176
  go_wp2
  go_ret
  exact ⟨rfl, rfl⟩
theorem round_q (w : World) : Calls Tryz.prog 177 #[.int .u64 67108864] w fun e w' => e = .returned (.int .u64 16777216) ∧ w' = w := by
  have e : bits .and .u64 16777216 1 = 0 := by decide
  go_enter Tryz.func177, Tryz.ntmps177
  go_wp2
  go_ret
  exact ⟨rfl, rfl⟩

set_option maxRecDepth 1000000 in
set_option maxHeartbeats 1000000 in
theorem short_p (w : World) (c0 : w.cell? ⟨15, 696, none⟩ = some (.int .u64 9223372036854775808)) (c1 : w.cell? ⟨15, 697, none⟩ = some (.int .u64 0)) :
    Calls Tryz.prog 138 #[.int .u64 9223372036854775808, .int .i64 (-39)] w fun e w' => e = .returned (.tuple #[.int .u64 16777216, .int .i64 0]) ∧ ∃ n, w' = (w.alloc preW).drewN n := by
  have hP := fun x0 x1 x2 => prescale_any 348 (-39) 0 0 9223372036854775808 0 x0 x1 x2 208 w (by decide) (by decide) (by decide) (by decide) c0 c1
  have hU1 := usc_s 9223371761976868864 4611685880988434432 67108862 (by decide) (by decide) (by decide) (by decide) (by decide) w 0
  have hU2 := usc_s 9223372586610589696 4611686293305294848 67108868 (by decide) (by decide) (by decide) (by decide) (by decide) w
  have hU3 := usc_s 9223372036854775808 4611686018427387904 67108864 (by decide) (by decide) (by decide) (by decide) (by decide) w
  have hN1 := nudge_p 67108862 (by decide) (by decide)
  have hN2 := nudge_p 67108868 (by decide) (by decide)
  have e1 : bits .and .i64 8388608 1 = 0 := by decide
  clear c0 c1
  go_enter Tryz.func138, Tryz.ntmps138
  go_wp2_with (first
    | (go_at_call 170; refine (skew_p _).mono ?_; rintro e9 w9 ⟨rfl, hw9⟩; obtain rfl := hw9.symm)
    | (go_at_call 172; refine (log2_p _).mono ?_; rintro e9 w9 ⟨rfl, hw9⟩; obtain rfl := hw9.symm)
    | (go_at_call 171; refine (hP _ _ _).mono ?_; rintro e9 w9 ⟨rfl, hw9⟩; obtain rfl := hw9.symm)
    | (go_at_call_of 173 (Value.int IntKind.u64 9223371761976868864); refine (hU1).mono ?_; rintro e9 w9 ⟨rfl, n9, rfl⟩)
    | (go_at_call_of 173 (Value.int IntKind.u64 9223372586610589696); refine (hU2 _).mono ?_; rintro e9 w9 ⟨rfl, n8, rfl⟩)
    | (go_at_call 173; refine (hU3 _).mono ?_; rintro e9 w9 ⟨rfl, n7, rfl⟩)
    | (go_at_call_of 174 (Value.int IntKind.u64 67108862); refine (hN1 _).mono ?_; rintro e9 w9 ⟨rfl, hw9⟩; obtain rfl := hw9.symm)
    | (go_at_call 174; refine (hN2 _).mono ?_; rintro e9 w9 ⟨rfl, hw9⟩; obtain rfl := hw9.symm)
    | (go_at_call 175; refine (ceil_p _).mono ?_; rintro e9 w9 ⟨rfl, hw9⟩; obtain rfl := hw9.symm)
    | (go_at_call 176; refine (floor_p _).mono ?_; rintro e9 w9 ⟨rfl, hw9⟩; obtain rfl := hw9.symm)
    | (go_at_call 177; refine (round_q _).mono ?_; rintro e9 w9 ⟨rfl, hw9⟩; obtain rfl := hw9.symm))
  go_ret2
  exact ⟨rfl, _, rfl⟩

theorem log10_p (w : World) : Calls Tryz.prog 128 #[.int .i64 25] w fun e w' => e = .returned (.int .i64 7) ∧ w' = w := by
  go_enter Tryz.func128, Tryz.ntmps128
  go_wp2
  go_ret
  exact ⟨rfl, rfl⟩
theorem numDigits_p (w : World) (c : w.cell? ⟨4, 7, none⟩ = some (.int .u64 10000000)) : Calls Tryz.prog 105 #[.int .u64 16777216] w fun e w' => e = .returned (.int .i64 8) ∧ w' = w := by
  have hL := len64_at 16777216 (by decide) (by decide) 25 (by decide)
  have hB : ∀ w, Calls Tryz.prog 130 #[.bool true] w fun e w' => e = .returned (.int .i64 1) ∧ w' = w := fun w => bool2i_any true w
  go_enter Tryz.func105, Tryz.ntmps105
  go_wp2_with (first
    | (go_at_call 129; refine (hL _).mono ?_; rintro e9 w9 ⟨rfl, hw9⟩; obtain rfl := hw9.symm)
    | (go_at_call 128; refine (log10_p _).mono ?_; rintro e9 w9 ⟨rfl, hw9⟩; obtain rfl := hw9.symm)
    | (go_at_call 130; refine (hB _).mono ?_; rintro e9 w9 ⟨rfl, hw9⟩; obtain rfl := hw9.symm))
  go_ret
  exact ⟨rfl, rfl⟩
end Go.Proofs.YtnljpbpphdhnpaaGreatDoor


