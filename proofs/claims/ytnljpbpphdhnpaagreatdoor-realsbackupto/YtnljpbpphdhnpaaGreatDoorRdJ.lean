/- The program's cut of a whole number's text. -/
import Derived.Test.YtnljpbpphdhnpaaGreatDoorPgI
import Derived.Test.YtnljpbpphdhnpaaGreatDoorPsC
import Derived.Test.YtnljpbpphdhnpaaGreatDoorRdH
import Derived.Test.YtnljpbpphdhnpaaGreatDoorUzV
import Derived.Test.YtnljpbpphdhnpaaGreatDoorUzT
import Derived.Test.YtnljpbpphdhnpaaGreatDoorNearW

namespace Go.Proofs.YtnljpbpphdhnpaaGreatDoor
open Go.RowKit Go.PlainAid

theorem index_none (l : List UInt8) (c : UInt8) (h : ∀ x ∈ l, x ≠ c) : Lib.indexByte l c = -1 := by
  induction l with
  | nil => rfl
  | cons x l ih =>
    have h1 : x ≠ c := h x (List.mem_cons_self ..)
    have h2 := ih (fun y hy => h y (List.mem_cons_of_mem _ hy))
    unfold Lib.indexByte
    simp [h1, h2]
theorem index_some (a b : List UInt8) (c : UInt8) (h : ∀ x ∈ a, x ≠ c) : Lib.indexByte (a ++ c :: b) c = (a.length : Int) := by
  induction a with
  | nil => simp [Lib.indexByte]
  | cons x a ih =>
    have h1 : x ≠ c := h x (List.mem_cons_self ..)
    have h2 := ih (fun y hy => h y (List.mem_cons_of_mem _ hy))
    rw [List.cons_append]
    unfold Lib.indexByte
    simp [h1, h2]
theorem bl_extract (a b : List UInt8) : (bl (a ++ b)).extract 0 a.length = bl a ∧ (bl (a ++ b)).extract a.length (a ++ b).length = bl b := by
  constructor
  · apply ByteArray.ext
    unfold bl
    simp
  · apply ByteArray.ext
    unfold bl
    simp

theorem dig_not (l : List UInt8) (h : Dig l) (c : UInt8) (hc : c.toNat < 48 ∨ 57 < c.toNat) : ∀ x ∈ l, x ≠ c := by
  intro x hx e
  have := h x hx
  rw [e] at this
  omega
theorem dig_yes (l : List UInt8) (h : Dig l) (h0 : 0 < l.length) (hl : l.length ≤ 100) (w : World) : Calls Tryz.prog 51 #[.string (bl l)] w fun e w' => e = .returned (.bool true) ∧ w' = w :=
  allDigits_yes (bl l) (by rw [bl_size]; exact h0) (fun j hj => by
    rw [bl_size] at hj
    rw [bl_bt l j hj]
    have := h l[j] (List.getElem_mem hj)
    omega) (by rw [bl_size]; unfold maxLen; omega) w

set_option maxRecDepth 1000000 in
set_option maxHeartbeats 1000000 in
theorem cut_raw (s D Z A T : ByteArray) (k : Int) (w : World) (hz : Z.size = 1) (hD : D.size ≤ 19) (h1 : ∀ w, Calls Tryz.prog 50 #[.string s, .string ⟨#[101]⟩] w fun e w' => e = .returned (.tuple #[.string s, .string ⟨#[]⟩, .bool false]) ∧ w' = w)
    (h2 : ∀ w, Calls Tryz.prog 50 #[.string s, .string ⟨#[46]⟩] w fun e w' => e = .returned (.tuple #[.string D, .string Z, .bool true]) ∧ ∃ n, w' = w.drewN n)
    (h4 : ∀ w, Calls Tryz.prog 51 #[.string D] w fun e w' => e = .returned (.bool true) ∧ w' = w) (h5 : ∀ w, Calls Tryz.prog 51 #[.string Z] w fun e w' => e = .returned (.bool true) ∧ w' = w)
    (hA : D ++ Z = A) (h6 : ∀ w, Calls Tryz.prog 53 #[.string A, .string ⟨#[48]⟩] w fun e w' => e = .returned (.string A) ∧ w' = w)
    (h7 : ∀ w, Calls Tryz.prog 54 #[.string A, .string ⟨#[48]⟩] w fun e w' => e = .returned (.string T) ∧ w' = w) (hk : (D.size : Int) - 1 = k) :
    Calls Tryz.prog 28 #[.string s] w fun e w' => e = .returned (.tuple #[.agg #[.string T, .int .i64 k], .bool true]) ∧ Below w.heap.size w w' := by
  have h3 := cutPrefix_no ⟨#[]⟩ (by decide)
  have hsz : D.size + Z.size ≤ 9223372036854775807 := by omega
  go_enter Tryz.func28, Tryz.ntmps28
  go_wp2_with fail
  refine (h1 _).mono ?_
  rintro e9 w9 ⟨rfl, hw9⟩
  obtain rfl := hw9.symm
  clear hw9
  go_wp2_with fail
  refine (h2 _).mono ?_
  rintro e9 w9 ⟨rfl, n9, rfl⟩
  go_wp2_with fail
  refine (h3 _).mono ?_
  rintro e9 w9 ⟨rfl, hw9⟩
  obtain rfl := hw9.symm
  clear hw9
  go_wp2_with fail
  refine (h4 _).mono ?_
  rintro e9 w9 ⟨rfl, hw9⟩
  obtain rfl := hw9.symm
  clear hw9
  go_wp2_with fail
  refine (h5 _).mono ?_
  rintro e9 w9 ⟨rfl, hw9⟩
  obtain rfl := hw9.symm
  clear hw9
  go_wp2_with fail
  refine (atMostFar_none _).mono ?_
  rintro e9 w9 ⟨rfl, hw9⟩
  obtain rfl := hw9.symm
  clear hw9
  go_wp2_with fail
  refine (h6 _).mono ?_
  rintro e9 w9 ⟨rfl, hw9⟩
  obtain rfl := hw9.symm
  clear hw9
  go_wp2_with fail
  refine (h7 _).mono ?_
  rintro e9 w9 ⟨rfl, hw9⟩
  obtain rfl := hw9.symm
  clear hw9
  go_wp2
  refine bodyPost_ret (v := .tuple #[.agg #[.string T, .int .i64 k], .bool true]) (by simp [results, Tryz.results28, go_sem]) rfl ⟨rfl, by go_grown; exact below_drewN (by go_grown) _⟩
end Go.Proofs.YtnljpbpphdhnpaaGreatDoor


/- The library's readFloat of a digit, a point, digits of any length and a power. -/
namespace Go.Proofs.YtnljpbpphdhnpaaGreatDoor
open Go.RowKit Go.PlainAid

/-- something that is no nought stands behind the nineteenth digit -/
def cutOff (cs : List UInt8) : Bool := (cs.drop 18).any fun c => decide ((c.toNat : Int) ≠ 48)
def MZ (c0 : UInt8) (cs : List UInt8) (k : Nat) : Int := if k = 0 then 0 else (dvL (c0 :: (cs.take (k - 2)).take 18) : Int)
def ndZ (k : Nat) : Int := if k = 0 then 0 else 1 + ((k - 2 : Nat) : Int)
def nmZ (k : Nat) : Int := if k = 0 then 0 else 1 + ((min (k - 2) 18 : Nat) : Int)
def dpZ (k : Nat) : Int := if k ≤ 1 then 0 else 1

theorem run_z (c0 : UInt8) (cs es : List UInt8) (h0 : 49 ≤ c0.toNat ∧ c0.toNat ≤ 57) (hc : Dig cs) (hl : cs.length ≤ 1099511627000) :
    RunZ (bl (numT c0 cs es)) (2 + cs.length) (MZ c0 cs) ndZ nmZ dpZ (fun k => decide (2 ≤ k)) (fun k => cutOff (cs.take (k - 2))) := by
  intro k hk
  have hlen := num_len c0 cs es
  rw [num_at c0 cs es k (by omega)]
  rcases Nat.lt_or_ge k 2 with h2 | h2
  · have : k = 0 ∨ k = 1 := by omega
    rcases this with rfl | rfl
    · right; left
      have e : (numT c0 cs es)[0] = c0 := rfl
      rw [e]
      simp only [MZ, ndZ, nmZ, dpZ, dvL, List.foldl_cons, cutOff]
      simp
      omega
    · left
      have e : (numT c0 cs es)[1] = 46 := rfl
      rw [e]
      simp [MZ, ndZ, nmZ, dpZ]
  · obtain ⟨j, rfl⟩ : ∃ j, k = j + 2 := ⟨k - 2, by omega⟩
    have hj : j < cs.length := by omega
    have e : (numT c0 cs es)[j + 2]'(by omega) = cs[j] := by
      unfold numT
      simp only [List.getElem_cons_succ]
      exact List.getElem_append_left hj
    rw [e]
    have hd := hc cs[j] (List.getElem_mem hj)
    have ht : cs.take (j + 1) = cs.take j ++ [cs[j]] := List.take_succ_eq_append_getElem hj
    have hlj : (cs.take j).length = j := by rw [List.length_take]; omega
    right
    unfold MZ ndZ nmZ dpZ
    simp only [show j + 2 - 2 = j by omega, show j + 2 + 1 - 2 = j + 1 by omega, show ¬ (j + 2 = 0) by omega, show ¬ (j + 2 + 1 = 0) by omega, if_false, show ¬ (j + 2 ≤ 1) by omega, show ¬ (j + 2 + 1 ≤ 1) by omega]
    by_cases h18 : j < 18
    · left
      have t1 : (cs.take j).take 18 = cs.take j := List.take_of_length_le (by omega)
      have t2 : (cs.take (j + 1)).take 18 = cs.take (j + 1) := List.take_of_length_le (by rw [List.length_take]; omega)
      have c1 : cutOff (cs.take j) = false := by unfold cutOff; rw [List.drop_eq_nil_of_le (by omega)]; rfl
      have c2 : cutOff (cs.take (j + 1)) = false := by unfold cutOff; rw [List.drop_eq_nil_of_le (by rw [List.length_take]; omega)]; rfl
      have hlt : dvL (c0 :: cs.take j) < 10 ^ (1 + j) := by
        have := dv_lt (c0 :: cs.take j) (by
          intro c hc'
          rcases List.mem_cons.1 hc' with rfl | hc'
          · omega
          · exact hc c (List.mem_of_mem_take hc'))
        simpa [Nat.min_eq_left (Nat.le_of_lt hj), Nat.add_comm] using this
      have hle : 10 ^ (1 + j) ≤ 10 ^ 18 := Nat.pow_le_pow_right (by decide) (by omega)
      have hs : dvL (c0 :: cs.take (j + 1)) = dvL (c0 :: cs.take j) * 10 + (cs[j].toNat - 48) := by
        rw [← dv_snoc, ht]; rfl
      rw [t1, t2, c1, c2, hs, Nat.min_eq_left (show j ≤ 18 by omega), Nat.min_eq_left (show j + 1 ≤ 18 by omega)]
      refine ⟨by omega, by omega, by omega, by omega, by omega, by omega, by omega, by omega, by omega, by omega, by omega, (by first | trivial | rfl), by simp, by omega, (by first | trivial | rfl)⟩
    · right
      have t2 : (cs.take (j + 1)).take 18 = (cs.take j).take 18 := by
        rw [ht, List.take_append_of_le_length (by omega)]
      have c2 : cutOff (cs.take (j + 1)) = (cutOff (cs.take j) || decide ((cs[j].toNat : Int) ≠ 48)) := by
        unfold cutOff
        rw [ht, List.drop_append_of_le_length (by omega), List.any_append]
        simp
      rw [t2, c2, Nat.min_eq_right (show 18 ≤ j by omega), Nat.min_eq_right (show 18 ≤ j + 1 by omega)]
      refine ⟨by omega, by omega, by omega, by omega, by omega, (by first | trivial | rfl), by omega, (by first | trivial | rfl), by simp, by omega, (by first | trivial | rfl)⟩

theorem run_down (c0 : UInt8) (cs es : List UInt8) (he : Dig es) (hl : es.length ≤ 2) :
    RunE (bl (numT c0 cs (45 :: es))) (2 + cs.length + 2) (bl (numT c0 cs (45 :: es))).size (fun k => (dvL (es.take (k - (2 + cs.length + 2))) : Int)) := by
  intro k h1 h2
  have hlen := num_len c0 cs (45 :: es)
  rw [List.length_cons] at hlen
  rw [bl_size] at h2
  obtain ⟨j, rfl⟩ : ∃ j, k = 2 + cs.length + 2 + j := ⟨k - (2 + cs.length + 2), by omega⟩
  have hj : j < es.length := by omega
  rw [num_at c0 cs (45 :: es) _ h2]
  have e : (numT c0 cs (45 :: es))[2 + cs.length + 2 + j] = es[j] := by
    unfold numT
    simp only [show 2 + cs.length + 2 + j = (cs.length + (j + 2)) + 1 + 1 by omega, List.getElem_cons_succ]
    rw [List.getElem_append_right (by omega)]
    simp
  rw [e]
  have hd := he es[j] (List.getElem_mem hj)
  have hlt : dvL (es.take j) < 10 ^ j := by
    have := dv_lt (es.take j) (fun c hc' => he c (List.mem_of_mem_take hc'))
    simpa [Nat.min_eq_left (Nat.le_of_lt hj)] using this
  have hle : 10 ^ j ≤ 10 ^ 2 := Nat.pow_le_pow_right (by decide) (by omega)
  have hs : dvL (es.take (j + 1)) = dvL (es.take j) * 10 + (es[j].toNat - 48) := by
    rw [← dv_snoc, List.take_succ_eq_append_getElem hj]
  simp only [show 2 + cs.length + 2 + j - (2 + cs.length + 2) = j by omega, show 2 + cs.length + 2 + j + 1 - (2 + cs.length + 2) = j + 1 by omega]
  rw [hs]
  omega

theorem dv_pos (c0 : UInt8) (cs : List UInt8) (h0 : 49 ≤ c0.toNat) : 0 < dvL (c0 :: cs) := by
  have : ∀ (l : List UInt8) (a : Nat), 0 < a → 0 < l.foldl (fun a c => a * 10 + (c.toNat - 48)) a := by
    intro l
    induction l with
    | nil => intro a h; exact h
    | cons c l ih => intro a h; exact ih _ (Nat.lt_of_lt_of_le (show 0 < a * 10 by omega) (Nat.le_add_right _ _))
  exact this cs _ (by simp; omega)
theorem num_e (c0 : UInt8) (cs es : List UInt8) (h : 2 + cs.length < (numT c0 cs es).length) : (numT c0 cs es)[2 + cs.length] = 101 := by
  unfold numT
  simp only [show 2 + cs.length = cs.length + 1 + 1 by omega, List.getElem_cons_succ]
  rw [List.getElem_append_right (by omega)]
  simp
theorem z_fin (c0 : UInt8) (cs : List UInt8) (h0 : 49 ≤ c0.toNat) : decide (2 ≤ 2 + cs.length) = true ∧ 0 < ndZ (2 + cs.length) ∧ MZ c0 cs (2 + cs.length) ≠ 0 ∧ 0 ≤ dpZ (2 + cs.length) ∧ dpZ (2 + cs.length) ≤ 100 ∧ 0 ≤ nmZ (2 + cs.length) ∧ nmZ (2 + cs.length) ≤ 19 := by
  have hp := dv_pos c0 ((cs.take (2 + cs.length - 2)).take 18) h0
  unfold ndZ MZ dpZ nmZ
  simp only [show ¬ (2 + cs.length = 0) by omega, if_false, show ¬ (2 + cs.length ≤ 1) by omega]
  have hm : min (2 + cs.length - 2) 18 ≤ 18 := Nat.min_le_right _ _
  refine ⟨by simp, by omega, by omega, by omega, by omega, by omega, by omega⟩
theorem z_end (c0 : UInt8) (cs : List UInt8) : MZ c0 cs (2 + cs.length) = (dvL (c0 :: cs.take 18) : Int) ∧ nmZ (2 + cs.length) = 1 + ((min cs.length 18 : Nat) : Int) ∧ dpZ (2 + cs.length) = 1 ∧ cutOff (cs.take (2 + cs.length - 2)) = cutOff cs := by
  unfold MZ dpZ nmZ
  simp only [show ¬ (2 + cs.length = 0) by omega, if_false, show ¬ (2 + cs.length ≤ 1) by omega, show 2 + cs.length - 2 = cs.length by omega, List.take_length]
  exact ⟨trivial, trivial, trivial, trivial⟩
theorem dv_two (es : List UInt8) (he : Dig es) (hle : es.length ≤ 2) : dvL es < 100 := by
  have h1 := dv_lt es he
  have h2 : 10 ^ es.length ≤ 10 ^ 2 := Nat.pow_le_pow_right (by decide) hle
  omega

/-- a power above -/
theorem read_up (c0 : UInt8) (cs es : List UInt8) (h0 : 49 ≤ c0.toNat ∧ c0.toNat ≤ 57) (hc : Dig cs) (hl : cs.length ≤ 1099511627000) (he : Dig es) (hle : es.length ≤ 2) (hes : 0 < es.length) (w : World) :
    Calls Tryz.prog 153 #[.string (bl (numT c0 cs es))] w fun e w' => e = .returned (.tuple #[.int .u64 (dvL (c0 :: cs.take 18) : Int), .int .i64 ((dvL es : Int) - ((min cs.length 18 : Nat) : Int)), .bool false, .bool (cutOff cs), .bool false, .int .i64 ((bl (numT c0 cs es)).size : Nat), .bool true]) ∧ w' = w := by
  have hlen := num_len c0 cs es
  have hdv := dv_two es he hle
  obtain ⟨y1, y2, y3, y4⟩ := z_end c0 cs
  have h := readFloat_pos (bl (numT c0 cs es)) (2 + cs.length) _ _ _ _ _ _ _ w (by rw [bl_size]; omega) (run_z c0 cs es h0 hc hl) ⟨rfl, rfl, rfl, rfl, rfl, rfl⟩ (by omega)
    (by rw [num_at c0 cs es 0 (by omega)]; show 49 ≤ (c0.toNat : Int) ∧ (c0.toNat : Int) ≤ 57; omega)
    (z_fin c0 cs h0.1) (by rw [num_at c0 cs es _ (by omega), num_e c0 cs es (by omega)]; rfl)
    (by rw [bl_size]; omega) (run_e c0 cs es he hle) (by simp [dvL])
    (by
      rw [bl_size, hlen, show cs.length + es.length + 3 - (2 + cs.length + 1) = es.length by omega, List.take_length]
      omega)
  rw [y1, y2, y3, y4, bl_size, hlen, show cs.length + es.length + 3 - (2 + cs.length + 1) = es.length by omega, List.take_length, show (1 : Int) + (dvL es : Int) - (1 + ((min cs.length 18 : Nat) : Int)) = (dvL es : Int) - ((min cs.length 18 : Nat) : Int) by omega] at h
  rw [bl_size, hlen]
  exact h
/-- a power below -/
theorem read_down (c0 : UInt8) (cs es : List UInt8) (h0 : 49 ≤ c0.toNat ∧ c0.toNat ≤ 57) (hc : Dig cs) (hl : cs.length ≤ 1099511627000) (he : Dig es) (hle : es.length ≤ 2) (hes : 0 < es.length) (w : World) :
    Calls Tryz.prog 153 #[.string (bl (numT c0 cs (45 :: es)))] w fun e w' => e = .returned (.tuple #[.int .u64 (dvL (c0 :: cs.take 18) : Int), .int .i64 (-(dvL es : Int) - ((min cs.length 18 : Nat) : Int)), .bool false, .bool (cutOff cs), .bool false, .int .i64 ((bl (numT c0 cs (45 :: es))).size : Nat), .bool true]) ∧ w' = w := by
  have hlen := num_len c0 cs (45 :: es)
  rw [List.length_cons] at hlen
  have hdv := dv_two es he hle
  obtain ⟨y1, y2, y3, y4⟩ := z_end c0 cs
  have h := readFloat_neg (bl (numT c0 cs (45 :: es))) (2 + cs.length) _ _ _ _ _ _ _ w (by rw [bl_size]; omega) (run_z c0 cs (45 :: es) h0 hc hl) ⟨rfl, rfl, rfl, rfl, rfl, rfl⟩ (by omega)
    (by rw [num_at c0 cs (45 :: es) 0 (by omega)]; show 49 ≤ (c0.toNat : Int) ∧ (c0.toNat : Int) ≤ 57; omega)
    (z_fin c0 cs h0.1) (by rw [num_at c0 cs (45 :: es) _ (by omega), num_e c0 cs (45 :: es) (by omega)]; rfl)
    (by
      rw [num_at c0 cs (45 :: es) _ (by omega)]
      have e : (numT c0 cs (45 :: es))[2 + cs.length + 1]'(by omega) = 45 := by
        unfold numT
        simp only [show 2 + cs.length + 1 = (cs.length + 1) + 1 + 1 by omega, List.getElem_cons_succ]
        rw [List.getElem_append_right (by omega)]
        simp
      rw [e]; rfl)
    (by rw [bl_size]; omega) (run_down c0 cs es he hle) (by simp [dvL])
    (by
      rw [bl_size, hlen, show cs.length + (es.length + 1) + 3 - (2 + cs.length + 2) = es.length by omega, List.take_length]
      omega)
  rw [y1, y2, y3, y4, bl_size, hlen, show cs.length + (es.length + 1) + 3 - (2 + cs.length + 2) = es.length by omega, List.take_length, show (1 : Int) + -(dvL es : Int) - (1 + ((min cs.length 18 : Nat) : Int)) = -(dvL es : Int) - ((min cs.length 18 : Nat) : Int) by omega] at h
  rw [bl_size, hlen]
  exact h
end Go.Proofs.YtnljpbpphdhnpaaGreatDoor

/- The library's parseFloat32, told: of every number of 64 bits by ten to -70 .. 40 it is the document's Nearest, and whether it is too great. -/
namespace Go.Proofs.YtnljpbpphdhnpaaGreatDoor
open Go.RowKit Go.PlainAid

theorem lpZ_bounds (p : Int) (h1 : -70 ≤ p) (h2 : p ≤ 40) : -233 ≤ lpZ p ∧ lpZ p ≤ 132 := by
  unfold lpZ; omega
theorem row_z (p : Int) (h1 : -70 ≤ p) (h2 : p ≤ 40) : hiZ p < 18446744073709551616 ∧ loZ p < 18446744073709551616 ∧ loZ p ≤ hiZ p * 18446744073709551616 := by
  obtain ⟨a1, a2, a3, a6, a7⟩ : rowZ p := by
    have := rows_z (p + 70).toNat (by omega)
    rwa [show (((p + 70).toNat : Nat) : Int) - 70 = p by omega] at this
  exact ⟨a1, a2, a3⟩
set_option maxHeartbeats 1000000 in
theorem parse32_all (d m : Nat) (p : Int) (w : World) (h0 : 0 < d) (hd : d < 18446744073709551616) (h1 : -70 ≤ p) (h2 : p ≤ 40) (hT : TabZ w p) (hl : LowB (d * 10 ^ p.toNat) (10 ^ (-p).toNat) m) :
    Calls Tryz.prog 158 #[.int .u64 (d : Int), .int .i64 p, .int .u32 0] w fun e w' => e = .returned (.tuple #[.float .f32 (nearB (d * 10 ^ p.toNat) (10 ^ (-p).toNat) m), erR (nearB (d * 10 ^ p.toNat) (10 ^ (-p).toNat) m)]) ∧ Below w.heap.size w w' := by
  obtain ⟨b1, b2⟩ := lpZ_bounds p h1 h2
  obtain ⟨r1, r2, r3⟩ := row_z p h1 h2
  have hL2 : d.log2 < 64 := by rw [Nat.log2_lt (by omega)]; exact hd
  have d2 : d < 2 ^ (d.log2 + 1) := Nat.lt_log2_self
  have hB : 0 < 10 ^ (-p).toNat := Nat.pow_pos (by decide)
  obtain ⟨l, hl2⟩ : ∃ l : Nat, (l : Int) = lpZ p + 400 := ⟨(lpZ p + 400).toNat, by omega⟩
  obtain ⟨z1, z2⟩ := z_bounds d p l h0 h1 h2 hl2
  have hLen := fun w => len64_at (d : Int) (by omega) (by omega) ((d.log2 + 1 : Nat) : Int) (by rw [Int.toNat_natCast, bitLen_log d h0 hd]) w
  have hLg := fun w => log2_z p (lpZ p) (by omega) (by omega) rfl w
  obtain ⟨L, hL⟩ : ∃ L, d.log2 = L := ⟨_, rfl⟩
  rw [hL] at z1 z2 hLen hL2 d2
  have hxlt : d * 2 ^ (63 - L) < 18446744073709551616 := by
    have e : (18446744073709551616 : Nat) = 2 ^ (L + 1) * 2 ^ (63 - L) := by
      rw [← Nat.pow_add, show L + 1 + (63 - L) = 64 by omega]
    rw [e]
    exact Nat.mul_lt_mul_of_pos_right d2 (Nat.two_pow_pos _)
  obtain ⟨E, hE⟩ : ∃ E : Int, min (149 : Int) (24 - ((L + 1 : Nat) : Int) - lpZ p) = E := ⟨_, rfl⟩
  have hEc : (E = 149 ∧ 149 ≤ 24 - ((L + 1 : Nat) : Int) - lpZ p) ∨ (E = 24 - ((L + 1 : Nat) : Int) - lpZ p ∧ 24 - ((L + 1 : Nat) : Int) - lpZ p ≤ 149) := by
    rw [← hE, Int.min_def]; split <;> omega
  obtain ⟨D, hD⟩ : ∃ D : Nat, (D : Int) = 149 - E := ⟨(149 - E).toNat, by omega⟩
  obtain ⟨S, hS⟩ : ∃ S : Nat, (S : Int) = 60 - E - L - lpZ p := ⟨(60 - E - L - lpZ p).toNat, by omega⟩
  have hPre := fun x0 x1 x2 : Int => prescale_any (348 + p).toNat (E - (64 - ((L + 1 : Nat) : Int))) p (lpZ p) ((hiZ p : Nat) : Int) ((loZ p : Nat) : Int) x0 x1 x2 208 w (by omega) (by omega) (by omega) (by omega) hT.hi hT.lo
  rw [show -(E - (64 - ((L + 1 : Nat) : Int)) + lpZ p + 3) = (S : Int) by omega] at hPre
  by_cases hS64 : 64 ≤ S
  · have hz := z_nought (d * 10 ^ p.toNat) (10 ^ (-p).toNat) m (L + l + 2) hB hl z2 (by omega)
    rw [hz]
    exact parse32_nought d (L + 1) _ _ (S : Int) p (lpZ p) E _ w ⟨by omega, by omega⟩ ⟨by omega, by omega⟩ (by omega) hLen hLg hPre hE rfl ⟨by omega, by omega⟩
  · obtain ⟨g1, g2⟩ := z_place d D L l (d * 10 ^ p.toNat) (10 ^ (-p).toNat) hL z1 z2 hB (by omega) (by omega)
    have hu := z_scaled d D L S p E hL hL2 hxlt h1 h2 hD hS (by omega)
    obtain ⟨k0, kA, kB⟩ := near_u (d * 10 ^ p.toNat) (10 ^ (-p).toNat) D m _ hB hl g1 g2 hu.symm
    have hle : d * 2 ^ (63 - L) * loZ p ≤ d * 2 ^ (63 - L) * hiZ p * 18446744073709551616 := by
      rw [Nat.mul_assoc (d * 2 ^ (63 - L))]
      exact Nat.mul_le_mul_left _ r3
    have hU := usc_natZ (d * 2 ^ (63 - L)) (hiZ p) (loZ p) S hxlt r1 r2 (by omega) hle w 0
    have hxw : IntKind.u64.wrap ((d : Int) * 2 ^ (64 - (L + 1))) = ((d * 2 ^ (63 - L) : Nat) : Int) := by
      have e8 : (d : Int) * 2 ^ (64 - (L + 1)) = ((d * 2 ^ (63 - L) : Nat) : Int) := by
        rw [Int.natCast_mul, Int.natCast_pow, show 64 - (L + 1) = 63 - L by omega]; rfl
      rw [e8, IntKind.wrap_u64]
      omega
    clear z1 z2 g1 g2 hu hle hT hl hL d2
    generalize nearB (d * 10 ^ p.toNat) (10 ^ (-p).toNat) m = R at *
    generalize uscN (d * 2 ^ (63 - L)) (hiZ p) (loZ p) S = u at *
    generalize d * 2 ^ (63 - L) = x at *
    by_cases hc : u < 67108862
    · obtain ⟨q1, q2, q3⟩ := kA hc
      refine parse32_z d (L + 1) x u (rndU u) R (erR R) _ _ (S : Int) p (lpZ p) E _ u 0 false w ⟨by omega, by omega⟩ ⟨by omega, by omega⟩ (by omega) hLen hLg hPre hU hE rfl ⟨by omega, by omega⟩ hxw (decide_eq_false (by omega)) rfl (and_one u (by omega)) (by simpa using or_self u (by omega)) (round_nat u (by omega)) q2 (or32_zero _ (by omega)) ?_
      exact fun w => pack_all (rndU u) D _ (by omega) q3 q2 R q1 w
    · obtain ⟨q1, q2, q3⟩ := kB (by omega)
      have hlu : lessU u < 67108864 := by unfold lessU; split <;> omega
      refine parse32_z d (L + 1) x u (rndU (lessU u)) R (erR R) _ _ (S : Int) p (lpZ p) E _ (lessU u) 1 true w ⟨by omega, by omega⟩ ⟨by omega, by omega⟩ (by omega) hLen hLg hPre hU hE rfl ⟨by omega, by omega⟩ hxw (decide_eq_true (by omega)) rfl (and_one u (by omega)) (by simpa using or_less u (by omega)) (round_nat _ (by omega)) q2 (or32_zero _ (by omega)) ?_
      exact fun w => pack_all (rndU (lessU u)) (D + 1) _ (by omega) (Or.inl q3) q2 R q1 w
end Go.Proofs.YtnljpbpphdhnpaaGreatDoor

/- Products and quotients of reals of 32 bits: those of their worths, rounded to the nearest float as the document finds it. -/
namespace Go.Proofs.YtnljpbpphdhnpaaGreatDoor
open Go.RowKit Go.PlainAid

/-- a rung by its digits and its place -/
theorem valN_atQ (e t : Nat) (h1 : t < 16777216) (h2 : e = 0 ∨ 8388608 ≤ t) : valN (e * 8388608 + t) = t * 2 ^ e := by
  unfold valN
  rcases h2 with rfl | h2
  · by_cases h : t < 8388608
    · rw [if_pos (by omega)]; simp
    · rw [if_neg (by omega), show (0 * 8388608 + t) / 8388608 = 1 by omega, show (0 * 8388608 + t) % 8388608 = t - 8388608 by omega]
      simp; omega
  · rw [if_neg (by omega), show (e * 8388608 + t) / 8388608 - 1 = e by omega, show 8388608 + (e * 8388608 + t) % 8388608 = t by omega]
theorem valN_nextQ (e t : Nat) (h1 : t < 16777216) (h2 : e = 0 ∨ 8388608 ≤ t) : valN (e * 8388608 + t + 1) = (t + 1) * 2 ^ e := by
  rw [valN_succ, valN_atQ e t h1 h2, Nat.succ_mul]
  congr 1
  rcases h2 with rfl | h2
  · by_cases h : t < 8388608
    · rw [if_pos (by omega)]
    · rw [if_neg (by omega), show (0 * 8388608 + t) / 8388608 = 1 by omega]
  · rw [if_neg (by omega), show (e * 8388608 + t) / 8388608 - 1 = e by omega]

/-- the rung below V over B is one alone -/
theorem near_floor (V B L n : Nat) (l1 : n ≤ 2139095040) (l2 : valN n * B ≤ V) (l3 : n = 2139095040 ∨ V < valN (n + 1) * B) (lo : valN L * B ≤ V) (hi : V < valN (L + 1) * B) :
    (if n = 2139095040 then n else if (decide ((valN n + valN (n + 1)) * B < 2 * V) || (decide (2 * V = (valN n + valN (n + 1)) * B) && decide (n % 2 = 1))) = true then n + 1 else n) =
      min (L + (decide ((valN L + valN (L + 1)) * B < 2 * V) || (decide (2 * V = (valN L + valN (L + 1)) * B) && decide (L % 2 = 1))).toNat) 2139095040 := by
  have a1 : n < L + 1 := by
    have := Nat.lt_of_le_of_lt l2 hi
    exact valN_iff.1 (Nat.lt_of_mul_lt_mul_right this)
  by_cases ho : n = 2139095040
  · rw [if_pos ho, Nat.min_eq_right (by omega)]; exact ho
  · rw [if_neg ho]
    have l3' : V < valN (n + 1) * B := by rcases l3 with h | h; exact absurd h ho; exact h
    have a2 : L < n + 1 := by
      have := Nat.lt_of_le_of_lt lo l3'
      exact valN_iff.1 (Nat.lt_of_mul_lt_mul_right this)
    obtain rfl : n = L := by omega
    have l1' : n + 1 ≤ 2139095040 := by omega
    generalize (decide ((valN n + valN (n + 1)) * B < 2 * V) || (decide (2 * V = (valN n + valN (n + 1)) * B) && decide (n % 2 = 1))) = b
    cases b
    · rw [if_neg (by decide), Nat.min_eq_left (by simp; omega)]; rfl
    · rw [if_pos rfl, Nat.min_eq_left (by simp; omega)]; rfl

/-- the float nearest to V over B, by the digits that are kept -/
theorem near_at (A V B t e n : Nat) (hV : A * 2 ^ 149 = V) (h1 : t < 16777216) (h2 : e = 0 ∨ 8388608 ≤ t) (lo : t * 2 ^ e * B ≤ V) (hi : V < (t + 1) * 2 ^ e * B) (hl : LowB A B n) :
    nearB A B n = min (e * 8388608 + (t + (decide ((2 * t + 1) * 2 ^ e * B < 2 * V) || (decide (2 * V = (2 * t + 1) * 2 ^ e * B) && decide (t % 2 = 1))).toNat)) 2139095040 := by
  obtain ⟨l1, l2, l3⟩ := hl
  have f1 := valN_atQ e t h1 h2
  have f2 := valN_nextQ e t h1 h2
  rw [← f1] at lo
  rw [← f2] at hi
  have fs : (2 * t + 1) * 2 ^ e * B = (valN (e * 8388608 + t) + valN (e * 8388608 + t + 1)) * B := by
    rw [f1, f2, ← Nat.add_mul]; congr 2; omega
  rw [fs]
  have hpar : (e * 8388608 + t) % 2 = t % 2 := by omega
  rw [← hpar, ← Nat.add_assoc]
  unfold nearB upB
  rw [hV] at l2 l3 ⊢
  exact near_floor V B _ n l1 l2 l3 lo hi

/-- what is rounded (mag, at the place -149 + u - k) stands to all even numbers as V over B does -/
theorem near_core (neg ex : Bool) (mag u k A V B n : Nat) (hV : A * 2 ^ 149 = V) (hB : 0 < B) (hm : 0 < mag) (hb : (u = 0 ∧ ex = true) ∨ 25 ≤ mag.log2)
    (hc : ∀ z, (ex = true ∨ z % 2 = 0) → (mag < z ↔ V * 2 ^ k < z * 2 ^ u * B) ∧ (mag = z ↔ V * 2 ^ k = z * 2 ^ u * B)) (hl : LowB A B n) :
    Ieee.single.nearest neg mag (-149 + (u : Int) - k) = Ieee.single.word neg (nearB A B n) := by
  have e2 : Ieee.single.binade = 8388608 := by decide
  have e3 : Ieee.single.infRung = 2139095040 := by decide
  have e4 : Ieee.single.leastPlace = -149 := by decide
  have e5 : Ieee.single.fractionBits = 23 := rfl
  unfold Ieee.Format.nearest
  rw [if_neg (by omega)]
  simp only [e2, e3, e4, e5, cut_even]
  have g1 : 2 ^ mag.log2 ≤ mag := Nat.log2_self_le (by omega)
  have g2 : mag < 2 ^ (mag.log2 + 1) := Nat.lt_log2_self
  generalize mag.log2 = L at *
  obtain ⟨e, d, hed, he, hs, hd, hd3, hL, hLe⟩ : ∃ e d : Nat, e + k = d + u ∧ (max (-149 + (u : Int) - k + L - (23 : Nat)) (-149) - -149).toNat = e ∧ (-149 + (u : Int) - k - max (-149 + (u : Int) - k + L - (23 : Nat)) (-149)).toNat = 0 ∧ (max (-149 + (u : Int) - k + L - (23 : Nat)) (-149) - (-149 + (u : Int) - k)).toNat = d ∧ (ex = true ∨ 2 ≤ d) ∧ L ≤ d + 23 ∧ (e = 0 ∨ L = d + 23) := by
    refine ⟨(max (-149 + (u : Int) - k + L - (23 : Nat)) (-149) - -149).toNat, (max (-149 + (u : Int) - k + L - (23 : Nat)) (-149) - (-149 + (u : Int) - k)).toNat, ?_, rfl, ?_, rfl, ?_, ?_, ?_⟩
    · omega
    · omega
    · rcases hb with ⟨h1, h2⟩ | h
      · exact .inl h2
      · exact .inr (by omega)
    · omega
    · omega
  rw [he, hs, hd, Nat.shiftLeft_zero]
  clear he hs hd
  have hpow : 2 ^ e * 2 ^ k = 2 ^ d * 2 ^ u := by rw [← Nat.pow_add, ← Nat.pow_add, hed]
  have hp : 0 < 2 ^ d := Nat.two_pow_pos d
  have hk : 0 < 2 ^ k := Nat.two_pow_pos k
  have hdm := Nat.div_add_mod mag (2 ^ d)
  have hlt := Nat.mod_lt mag hp
  have ht1 : mag / 2 ^ d < 16777216 := by
    rw [Nat.div_lt_iff_lt_mul hp, show (16777216 : Nat) = 2 ^ 24 from rfl, ← Nat.pow_add]
    exact Nat.lt_of_lt_of_le g2 (Nat.pow_le_pow_right (by decide) (by omega))
  have ht2 : e = 0 ∨ 8388608 ≤ mag / 2 ^ d := by
    rcases hLe with h | h
    · exact .inl h
    · refine .inr ?_
      rw [Nat.le_div_iff_mul_le hp, show (8388608 : Nat) = 2 ^ 23 from rfl, ← Nat.pow_add]
      exact Nat.le_trans (Nat.pow_le_pow_right (by decide) (by omega)) g1
  -- a whole number of units, put in parts
  have hz : ∀ z, z * 2 ^ e * B * 2 ^ k = z * 2 ^ d * 2 ^ u * B := fun z => by
    rw [Nat.mul_right_comm, Nat.mul_assoc z, hpow, ← Nat.mul_assoc]
  have hev : ∀ z, ex = true ∨ z * 2 ^ d % 2 = 0 := fun z => by
    rcases hd3 with h | h
    · exact .inl h
    · obtain ⟨d', rfl⟩ : ∃ d', d = d' + 1 := ⟨d - 1, by omega⟩
      refine .inr ?_
      rw [Nat.pow_succ, ← Nat.mul_assoc]; omega
  have hcmp : ∀ z, (mag < z * 2 ^ d ↔ V < z * 2 ^ e * B) ∧ (mag = z * 2 ^ d ↔ V = z * 2 ^ e * B) := fun z => by
    obtain ⟨c1, c2⟩ := hc (z * 2 ^ d) (hev z)
    rw [← hz] at c1 c2
    exact ⟨c1.trans (Nat.mul_lt_mul_right hk), c2.trans ⟨fun h => Nat.eq_of_mul_eq_mul_right hk h, fun h => by rw [h]⟩⟩
  -- the middle
  have hmid : ∀ t, (2 * mag < (2 * t + 1) * 2 ^ d ↔ 2 * V < (2 * t + 1) * 2 ^ e * B) ∧ (2 * mag = (2 * t + 1) * 2 ^ d ↔ 2 * V = (2 * t + 1) * 2 ^ e * B) := fun t => by
    have hy := hz (2 * t + 1)
    rcases hd3 with h | h
    · -- exact
      have hx : V * 2 ^ k = mag * 2 ^ u * B := ((hc mag (.inl h)).2).1 rfl
      have hu : 0 < 2 ^ u := Nat.two_pow_pos u
      have hbu : 0 < 2 ^ u * B := Nat.mul_pos hu hB
      have hl : 2 * V * 2 ^ k = 2 * mag * (2 ^ u * B) := by rw [Nat.mul_assoc, hx]; simp only [Nat.mul_assoc]
      have hr : (2 * t + 1) * 2 ^ e * B * 2 ^ k = (2 * t + 1) * 2 ^ d * (2 ^ u * B) := by rw [hy]; simp only [Nat.mul_assoc]
      generalize (2 * t + 1) * 2 ^ e * B = S at *
      generalize (2 * t + 1) * 2 ^ d = T at *
      generalize 2 * V = V2 at *
      generalize 2 * mag = M2 at *
      constructor
      · rw [← Nat.mul_lt_mul_right (b := M2) hbu, ← Nat.mul_lt_mul_right (b := V2) hk, hl, hr]
      · constructor
        · intro h5
          refine Nat.eq_of_mul_eq_mul_right hk ?_
          rw [hl, hr, h5]
        · intro h5
          refine Nat.eq_of_mul_eq_mul_right hbu ?_
          rw [← hl, ← hr, h5]
    · obtain ⟨d', rfl⟩ : ∃ d', d = d' + 2 := ⟨d - 2, by omega⟩
      have hq : (2 * t + 1) * 2 ^ (d' + 2) = 2 * ((2 * t + 1) * 2 ^ (d' + 1)) := by
        rw [Nat.pow_succ 2 (d' + 1), ← Nat.mul_assoc, Nat.mul_comm]
      obtain ⟨c1, c2⟩ := hc ((2 * t + 1) * 2 ^ (d' + 1)) (.inr (by rw [Nat.pow_succ, ← Nat.mul_assoc]; omega))
      rw [hq, Nat.mul_assoc 2, Nat.mul_assoc 2] at hy
      rw [hq]
      generalize (2 * t + 1) * 2 ^ (d' + 1) = Z at *
      generalize Z * 2 ^ u * B = Y at *
      generalize (2 * t + 1) * 2 ^ e * B = S at *
      have y1 : V * 2 ^ k < Y ↔ 2 * V < S := by
        rw [← Nat.mul_lt_mul_right (b := 2 * V) hk, hy, Nat.mul_assoc]; omega
      have y2 : V * 2 ^ k = Y ↔ 2 * V = S := by
        constructor
        · intro h5
          refine Nat.eq_of_mul_eq_mul_right hk ?_
          rw [hy, Nat.mul_assoc, h5]
        · intro h5
          rw [← h5, Nat.mul_assoc] at hy; omega
      exact ⟨Iff.trans (by omega) (c1.trans y1), Iff.trans (by omega) (c2.trans y2)⟩
  have lo : mag / 2 ^ d * 2 ^ e * B ≤ V := by
    refine Nat.le_of_not_lt fun h => ?_
    have := ((hcmp (mag / 2 ^ d)).1).2 h
    rw [Nat.mul_comm] at this; omega
  have hi : V < (mag / 2 ^ d + 1) * 2 ^ e * B := by
    refine ((hcmp (mag / 2 ^ d + 1)).1).1 ?_
    rw [Nat.succ_mul, Nat.mul_comm (mag / 2 ^ d)]; omega
  rw [near_at A V B (mag / 2 ^ d) e n hV ht1 ht2 lo hi hl]
  refine congrArg (fun x => Ieee.single.word neg (min (e * 8388608 + x) 2139095040)) ?_
  unfold rne rneB
  obtain ⟨m1, m2⟩ := hmid (mag / 2 ^ d)
  have hx : (2 * (mag / 2 ^ d) + 1) * 2 ^ d = 2 * (2 ^ d * (mag / 2 ^ d)) + 2 ^ d := by
    rw [Nat.succ_mul, Nat.mul_assoc, Nat.mul_comm (mag / 2 ^ d)]
  rw [hx] at m1 m2
  have q1 : decide (2 ^ d < 2 * (mag % 2 ^ d)) = decide ((2 * (mag / 2 ^ d) + 1) * 2 ^ e * B < 2 * V) := by
    apply decide_eq_decide.2
    generalize (2 * (mag / 2 ^ d) + 1) * 2 ^ e * B = S at *
    generalize mag % 2 ^ d = r at *
    generalize 2 ^ d * (mag / 2 ^ d) = q at *
    generalize 2 ^ d = p at *
    omega
  have q2 : (2 ^ d == 2 * (mag % 2 ^ d)) = decide (2 * V = (2 * (mag / 2 ^ d) + 1) * 2 ^ e * B) := by
    rw [Bool.eq_iff_iff]
    simp only [beq_iff_eq, decide_eq_true_eq]
    rw [← m2]
    generalize mag % 2 ^ d = r at *
    generalize 2 ^ d * (mag / 2 ^ d) = q at *
    generalize 2 ^ d = p at *
    omega
  have q3 : (mag / 2 ^ d % 2 == 1) = decide (mag / 2 ^ d % 2 = 1) := by
    rw [Bool.eq_iff_iff]
    simp only [beq_iff_eq, decide_eq_true_eq]
  rw [q1, q2, q3]

theorem near_nought (B n : Nat) (hB : 0 < B) (hl : LowB 0 B n) : nearB 0 B n = 0 := by
  obtain ⟨l1, l2, l3⟩ := hl
  rw [Nat.zero_mul] at l2
  have h0 : n = 0 := by
    refine Decidable.byContradiction fun h => ?_
    have h1 : valN 0 < valN n := valN_lt (by omega)
    have := Nat.mul_pos (show 0 < valN n by omega) hB
    omega
  subst h0
  unfold nearB upB
  have h1 : 0 < (valN 0 + valN (0 + 1)) * B := Nat.mul_pos (by decide) hB
  have h2 : 2 * (0 * 2 ^ 149) = 0 := by rw [Nat.zero_mul]
  rw [if_neg (by decide), decide_eq_false (show ¬ (valN 0 + valN (0 + 1)) * B < 2 * (0 * 2 ^ 149) by rw [h2]; omega), decide_eq_false (show ¬ 2 * (0 * 2 ^ 149) = (valN 0 + valN (0 + 1)) * B by rw [h2]; omega)]
  rfl

theorem near_wholeQ (A V B X n : Nat) (hV : A * 2 ^ 149 = V) (hB : 0 < B) (hx : V = X * B) (hl : LowB A B n) : nearB A B n = rndR X := by
  obtain ⟨l1, l2, l3⟩ := hl
  rw [hV, hx] at l2 l3
  have hlow : Low X n := ⟨l1, Nat.le_of_mul_le_mul_right l2 hB, by
    rcases l3 with h | h
    · exact .inl h
    · exact .inr (Nat.lt_of_mul_lt_mul_right h)⟩
  rw [← near_rnd X n hlow]
  unfold nearB nearN upB
  rw [hV, hx, ← Nat.mul_assoc]
  have c1 : decide ((valN n + valN (n + 1)) * B < 2 * X * B) = decide (valN n + valN (n + 1) < 2 * X) := by
    apply decide_eq_decide.2; exact Nat.mul_lt_mul_right hB
  have c2 : decide (2 * X * B = (valN n + valN (n + 1)) * B) = decide (2 * X = valN n + valN (n + 1)) := by
    apply decide_eq_decide.2; exact ⟨fun h => Nat.eq_of_mul_eq_mul_right hB h, fun h => by rw [h]⟩
  rw [c1, c2]

/-- a product of two finite reals: that of their worths, rounded -/
theorem mul_num (a c A V B n : Nat) (ha : rungN a < 2139095040) (hc : rungN c < 2139095040) (hV : A * 2 ^ 149 = V) (hB : 0 < B) (hx : V * 2 ^ 149 = valN (rungN a) * valN (rungN c) * B) (hl : LowB A B n) :
    Ieee.single.mul a c = some (Ieee.single.word ((a / 2147483648 % 2 == 1) ^^ (c / 2147483648 % 2 == 1)) (nearB A B n)) := by
  obtain ⟨m, i, ra, va⟩ := read_num a ha
  obtain ⟨m', j, rc, vc⟩ := read_num c hc
  unfold Ieee.Format.mul
  rw [ra, rc]
  simp only [Ieee.Datum.product, Option.map_some, Ieee.Format.write]
  generalize ((a / 2147483648 % 2 == 1) ^^ (c / 2147483648 % 2 == 1)) = neg
  have hx2 : V * 2 ^ 149 = m * m' * B * 2 ^ (i + j) := by
    rw [hx, ← va, ← vc, Nat.pow_add]
    rw [Nat.mul_mul_mul_comm m, Nat.mul_right_comm]
  clear hx va vc
  generalize m * m' = mag at *
  congr 1
  by_cases h0 : mag = 0
  · have hA : A = 0 := by
      have h1 : V * 2 ^ 149 = 0 := by rw [hx2, h0]; simp
      have h2 : V = 0 := by
        rcases Nat.mul_eq_zero.1 h1 with h | h
        · exact h
        · exact absurd h (Nat.pos_iff_ne_zero.1 (Nat.two_pow_pos 149))
      rw [h2] at hV
      rcases Nat.mul_eq_zero.1 hV with h | h
      · exact h
      · exact absurd h (Nat.pos_iff_ne_zero.1 (Nat.two_pow_pos 149))
    rw [hA] at hl ⊢
    rw [near_nought B n hB hl]
    unfold Ieee.Format.nearest
    rw [if_pos h0]
  by_cases hij : 149 ≤ i + j
  · obtain ⟨u, hu⟩ : ∃ u, i + j = u + 149 := ⟨i + j - 149, by omega⟩
    rw [hu, Nat.pow_add, ← Nat.mul_assoc] at hx2
    have h1 := Nat.eq_of_mul_eq_mul_right (Nat.two_pow_pos 149) hx2
    rw [Nat.mul_right_comm] at h1
    rw [near_wholeQ A V B (mag * 2 ^ u) n hV hB h1 hl, ← nearest_rnd]
    congr 1
    omega
  · obtain ⟨k, hk⟩ : ∃ k, 149 = k + (i + j) := ⟨149 - (i + j), by omega⟩
    have h1 : V * 2 ^ k = mag * B := by
      refine Nat.eq_of_mul_eq_mul_right (Nat.two_pow_pos (i + j)) ?_
      rw [← hx2, Nat.mul_assoc, ← Nat.pow_add, ← hk]
    rw [← near_core neg true mag 0 k A V B n hV hB (by omega) (.inl ⟨rfl, rfl⟩) (fun z _ => by
      rw [h1, Nat.pow_zero, Nat.mul_one]
      exact ⟨(Nat.mul_lt_mul_right hB).symm, ⟨fun h => by rw [h], fun h => Nat.eq_of_mul_eq_mul_right hB h⟩⟩) hl]
    congr 1
    omega

/-- a quotient of two finite reals: that of their worths, rounded -/
theorem div_num (a c A V B n : Nat) (ha : rungN a < 2139095040) (hc : rungN c < 2139095040) (hc0 : valN (rungN c) ≠ 0) (hV : A * 2 ^ 149 = V) (hB : 0 < B) (hx : A * valN (rungN c) = valN (rungN a) * B) (hl : LowB A B n) :
    Ieee.single.div a c = some (Ieee.single.word ((a / 2147483648 % 2 == 1) ^^ (c / 2147483648 % 2 == 1)) (nearB A B n)) := by
  obtain ⟨m, i, ra, va⟩ := read_num a ha
  obtain ⟨y, j, rc, vc⟩ := read_num c hc
  unfold Ieee.Format.div
  rw [ra, rc]
  have hy : y ≠ 0 := fun h => hc0 (by rw [← vc, h, Nat.zero_mul])
  simp only [Ieee.Datum.quotient]
  rw [if_neg hy]
  simp only [Option.map_some, Ieee.Format.write]
  generalize ((a / 2147483648 % 2 == 1) ^^ (c / 2147483648 % 2 == 1)) = neg
  rw [show Ieee.single.fractionBits + 2 = 25 from rfl, Nat.shiftLeft_eq]
  obtain ⟨more, hmore⟩ : ∃ more, 25 + y.log2 - m.log2 = more := ⟨_, rfl⟩
  rw [hmore]
  have hx2 : A * (y * 2 ^ j) = m * 2 ^ i * B := by rw [vc, va]; exact hx
  clear hx va vc
  congr 1
  by_cases h0 : m = 0
  · have hA : A = 0 := by
      have h1 : A * (y * 2 ^ j) = 0 := by rw [hx2, h0]; simp
      rcases Nat.mul_eq_zero.1 h1 with h | h
      · exact h
      · exact absurd h (Nat.pos_iff_ne_zero.1 (Nat.mul_pos (by omega) (Nat.two_pow_pos j)))
    rw [hA] at hl ⊢
    rw [near_nought B n hB hl]
    unfold Ieee.Format.nearest
    rw [if_pos (by rw [h0]; simp)]
  have l1 : 2 ^ m.log2 ≤ m := Nat.log2_self_le h0
  have l2 : y < 2 ^ (y.log2 + 1) := Nat.lt_log2_self
  have hD : 2 ^ (25 + y.log2) ≤ m * 2 ^ more := by
    refine Nat.le_trans (Nat.pow_le_pow_right (by decide) (show 25 + y.log2 ≤ m.log2 + more by omega)) ?_
    rw [Nat.pow_add]; exact Nat.mul_le_mul_right _ l1
  have hq : 16777216 ≤ m * 2 ^ more / y := by
    rw [Nat.le_div_iff_mul_le (by omega)]
    refine Nat.le_trans ?_ hD
    rw [show 25 + y.log2 = 24 + (y.log2 + 1) by omega, Nat.pow_add 2 24]
    exact Nat.mul_le_mul (Nat.le_refl _) (Nat.le_of_lt l2)
  generalize hDD : m * 2 ^ more = D at *
  have hdm := Nat.div_add_mod D y
  have hlt := Nat.mod_lt D (show y > 0 by omega)
  obtain ⟨mag, hmag⟩ : ∃ mag, 2 * (D / y) + (D % y != 0).toNat = mag := ⟨_, rfl⟩
  rw [hmag]
  have hb : (D % y != 0).toNat ≤ 1 := Bool.toNat_le _
  have hbz : (D % y != 0).toNat = 0 ↔ D % y = 0 := by
    by_cases h : D % y = 0
    · simp [h]
    · simp [h]
  have hlog : 25 ≤ mag.log2 := by
    refine Nat.le_of_not_lt fun h => ?_
    have := (Nat.log2_lt (by omega : mag ≠ 0)).1 h
    omega
  have hw : V * 2 ^ (j + more + 1) * y = 2 * D * (2 ^ (149 + i) * B) := by
    rw [← hV, ← hDD, Nat.pow_succ 2 (j + more), Nat.pow_add 2 j, Nat.pow_add 2 149]
    have : A * 2 ^ 149 * (2 ^ j * 2 ^ more * 2) * y = A * (y * 2 ^ j) * (2 ^ 149 * 2 ^ more * 2) := by
      simp only [Nat.mul_assoc, Nat.mul_comm, Nat.mul_left_comm]
    rw [this, hx2]
    simp only [Nat.mul_assoc, Nat.mul_comm, Nat.mul_left_comm]
  rw [← near_core neg false mag (149 + i) (j + more + 1) A V B n hV hB (by omega) (.inr hlog) (fun z hz => by
    have hz2 : z % 2 = 0 := by rcases hz with h | h; cases h; exact h
    obtain ⟨h, rfl⟩ : ∃ h, z = 2 * h := ⟨z / 2, by omega⟩
    have hy0 : 0 < y := by omega
    have hub : 0 < 2 ^ (149 + i) * B := Nat.mul_pos (Nat.two_pow_pos _) hB
    have e1 : 2 * h * 2 ^ (149 + i) * B * y = 2 * (h * y) * (2 ^ (149 + i) * B) := by
      simp only [Nat.mul_assoc, Nat.mul_comm, Nat.mul_left_comm]
    generalize 2 * h * 2 ^ (149 + i) * B = Y at *
    generalize V * 2 ^ (j + more + 1) = X at *
    generalize 2 ^ (149 + i) * B = U at *
    have c1 : X < Y ↔ D < h * y := by
      rw [← Nat.mul_lt_mul_right (b := X) hy0, hw, e1, Nat.mul_lt_mul_right hub]; omega
    have c2 : X = Y ↔ D = h * y := by
      constructor
      · intro h5
        rw [h5, e1] at hw
        have := Nat.eq_of_mul_eq_mul_right hub hw
        omega
      · intro h5
        refine Nat.eq_of_mul_eq_mul_right hy0 ?_
        rw [hw, e1, h5]
    rw [c1, c2, ← Nat.div_lt_iff_lt_mul hy0]
    refine ⟨by omega, ?_⟩
    constructor
    · intro h5
      have h6 : D / y = h := by omega
      have h7 : D % y = 0 := hbz.1 (by omega)
      rw [h6, h7, Nat.mul_comm] at hdm
      omega
    · intro h5
      have h6 : D / y = h := by rw [h5]; exact Nat.mul_div_cancel _ hy0
      have h7 : D % y = 0 := by rw [h5]; exact Nat.mul_mod_left _ _
      have := hbz.2 h7
      omega) hl]
  congr 1
  omega
end Go.Proofs.YtnljpbpphdhnpaaGreatDoor

/- The library's exact way for short numbers, at every power: the document's Nearest. -/
namespace Go.Proofs.YtnljpbpphdhnpaaGreatDoor
open Go.RowKit Go.PlainAid

set_option maxRecDepth 1000000 in
theorem exact_longZ (d : Nat) (p : Int) (w : World) (hd : 8388608 ≤ d) (hd2 : d < 18446744073709551616) :
    Calls Tryz.prog 157 #[.int .u64 (d : Int), .int .i64 p, .bool false] w fun e w' => e = .returned (.tuple #[.float .f32 0, .bool false]) ∧ w' = w := by
  have hs : ((d : Int) / 8388608 != 0) = true := by simp; omega
  go_enter Tryz.func157, Tryz.ntmps157
  go_wp2
  go_ret2
  exact ⟨rfl, rfl⟩
set_option maxRecDepth 1000000 in
theorem exact_over (d f : Nat) (p : Int) (w : World) (hd : d < 8388608) (hp : 18 ≤ p ∧ p ≤ 40) (hc : ∀ w, (convert 65 22 (.int .u64 (d : Int))).run Tryz.prog w = .ok (.float .f32 f) w) :
    Calls Tryz.prog 157 #[.int .u64 (d : Int), .int .i64 p, .bool false] w fun e w' => e = .returned (.tuple #[.float .f32 f, .bool false]) ∧ w' = w := by
  have hs : (d : Int) / 8388608 = 0 := by omega
  obtain ⟨hp1, hp2⟩ := hp
  go_enter Tryz.func157, Tryz.ntmps157
  go_wp2
  go_ret2
  exact ⟨rfl, rfl⟩
set_option maxRecDepth 1000000 in
theorem exact_under (d f : Nat) (p : Int) (w : World) (hd : d < 8388608) (hp : -70 ≤ p ∧ p < -10) (hc : ∀ w, (convert 65 22 (.int .u64 (d : Int))).run Tryz.prog w = .ok (.float .f32 f) w) :
    Calls Tryz.prog 157 #[.int .u64 (d : Int), .int .i64 p, .bool false] w fun e w' => e = .returned (.tuple #[.float .f32 f, .bool false]) ∧ w' = w := by
  have hs : (d : Int) / 8388608 = 0 := by omega
  obtain ⟨hp1, hp2⟩ := hp
  go_enter Tryz.func157, Tryz.ntmps157
  go_wp2
  go_ret2
  exact ⟨rfl, rfl⟩
set_option maxRecDepth 1000000 in
set_option maxHeartbeats 400000 in
theorem exact_quo (d f g z b o cap q : Nat) (p : Int) (w : World) (hd : d < 8388608) (hp : -10 ≤ p ∧ p < 0) (hq : -p = (q : Int)) (hc : ∀ w, (convert 65 22 (.int .u64 (d : Int))).run Tryz.prog w = .ok (.float .f32 f) w)
    (hv : w.cell? ⟨10, 0, none⟩ = some (.slice (some ⟨b, o, none⟩) 11 cap)) (hg : w.cell? ⟨b, o + q, none⟩ = some (.float .f32 g)) (hm : ∀ w, (binOp .quo 22 (.float .f32 f) (.float .f32 g)).run Tryz.prog w = .ok (.float .f32 z) w) :
    Calls Tryz.prog 157 #[.int .u64 (d : Int), .int .i64 p, .bool false] w fun e w' => e = .returned (.tuple #[.float .f32 z, .bool true]) ∧ w' = w := by
  have hs : (d : Int) / 8388608 = 0 := by omega
  obtain ⟨hp1, hp2⟩ := hp
  go_enter Tryz.func157, Tryz.ntmps157
  go_wp2
  go_ret2
  exact ⟨rfl, rfl⟩
end Go.Proofs.YtnljpbpphdhnpaaGreatDoor

/- The library's atof32 of up to nineteen digits at every power: the document's Nearest, and whether it is too great. -/
namespace Go.Proofs.YtnljpbpphdhnpaaGreatDoor
open Go.RowKit Go.PlainAid

/-- what the exact way answers -/
def ExB (R : Nat) (e : Ending) : Prop := (∃ f, e = .returned (.tuple #[.float .f32 f, .bool false])) ∨ (e = .returned (.tuple #[.float .f32 R, .bool true]) ∧ R ≠ 2139095040)

theorem quo_whole (d q m : Nat) (h0 : 0 < d) (hd : d < 8388608) (hq : q ≤ 10) (hl : LowB d (10 ^ q) m) :
    floatBits .quo .f32 (rndR (d * P149)) (rndR (10 ^ q * P149)) = some (nearB d (10 ^ q) m) ∧ nearB d (10 ^ q) m ≠ 2139095040 := by
  obtain ⟨v1, v2⟩ := held d h0 (by omega)
  obtain ⟨w1, w2⟩ := ten_held q hq
  have hB : 0 < 10 ^ q := Nat.pow_pos (by decide)
  have r1 : rungN (rndR (d * P149)) = rndR (d * P149) := by unfold rungN; omega
  have r2 : rungN (rndR (10 ^ q * P149)) = rndR (10 ^ q * P149) := by unfold rungN; omega
  have hdv := div_num (rndR (d * P149)) (rndR (10 ^ q * P149)) d (d * 2 ^ 149) (10 ^ q) m (by rw [r1]; exact v2) (by rw [r2]; exact w2) (by rw [r2, w1]; exact Nat.ne_of_gt (Nat.mul_pos hB p149_pos)) rfl hB (by rw [r1, r2, v1, w1]; ac_rfl) hl
  have s1 : (rndR (d * P149) / 2147483648 % 2 == 1) = false := by simp; omega
  have s2 : (rndR (10 ^ q * P149) / 2147483648 % 2 == 1) = false := by simp; omega
  rw [s1, s2] at hdv
  have hm : nearB d (10 ^ q) m < 2139095040 := by
    obtain ⟨l1, l2, l3⟩ := hl
    have h1 : valN m < valN 2139095039 := by
      have h2 : valN m ≤ valN m * 10 ^ q := Nat.le_mul_of_pos_right _ hB
      have h3 : d * 2 ^ 149 < 8388608 * 2 ^ 149 := Nat.mul_lt_mul_of_pos_right hd (Nat.two_pow_pos _)
      have h4 : 8388608 * 2 ^ 149 ≤ valN 2139095039 := by decide
      exact Nat.lt_of_lt_of_le (Nat.lt_of_le_of_lt (Nat.le_trans h2 l2) h3) h4
    have h5 := valN_iff.1 h1
    unfold nearB
    split
    · omega
    · split <;> omega
  refine ⟨?_, Nat.ne_of_lt hm⟩
  show Ieee.single.div _ _ = _
  rw [hdv]
  generalize nearB d (10 ^ q) m = r at *
  unfold Ieee.Format.word
  simp

theorem near_one (A m : Nat) (hl : LowB A 1 m) : nearB A 1 m = rndR (A * P149) :=
  near_wholeQ A _ 1 (A * P149) m rfl (by decide) (by unfold P149; rw [Nat.mul_one]) hl
theorem top_exact : rndR (8388607 * 10 ^ 17 * P149) < 2139095040 := by decide

theorem exact_all (d m : Nat) (p : Int) (hd0 : 0 < d) (hd : d < 18446744073709551616) (h1 : -70 ≤ p) (h2 : p ≤ 40) (hl : LowB (d * 10 ^ p.toNat) (10 ^ (-p).toNat) m) (w : World) (hT : TabF w) :
    Calls Tryz.prog 157 #[.int .u64 (d : Int), .int .i64 p, .bool false] w fun e w' => ExB (nearB (d * 10 ^ p.toNat) (10 ^ (-p).toNat) m) e ∧ w' = w := by
  by_cases hlong : 8388608 ≤ d
  · refine (exact_longZ d p w hlong hd).mono ?_
    rintro e w' ⟨rfl, hw⟩
    exact ⟨.inl ⟨_, rfl⟩, hw⟩
  · have hc : ∀ w, (convert 65 22 (.int .u64 (d : Int))).run Tryz.prog w = .ok (.float .f32 (rndR (d * P149))) w := fun w => by
      rw [← fromI_nat, ← fromI_float]; exact run_convert_int_float w 65 22 .u64 .f32 _ (by kernel_rfl) Tryz.underlying22
    by_cases hp0 : 0 ≤ p
    · by_cases hp18 : 18 ≤ p
      · refine (exact_over d _ p w (by omega) ⟨hp18, h2⟩ hc).mono ?_
        rintro e w' ⟨rfl, hw⟩
        exact ⟨.inl ⟨_, rfl⟩, hw⟩
      · obtain ⟨n, rfl⟩ : ∃ n : Nat, p = (n : Int) := ⟨p.toNat, by omega⟩
        have e1 : (-(n : Int)).toNat = 0 := by omega
        rw [e1, Nat.pow_zero, Int.toNat_natCast] at hl ⊢
        rw [near_one _ _ hl]
        refine (exact_any d n hd0 hd (by omega) w hT).mono ?_
        rintro e w' ⟨hE, hw⟩
        refine ⟨?_, hw⟩
        rcases hE with h | h
        · exact .inl h
        · refine .inr ⟨h, Nat.ne_of_lt (Nat.lt_of_le_of_lt (rndR_mono ?_) top_exact)⟩
          exact Nat.mul_le_mul_right _ (Nat.mul_le_mul (by omega) (Nat.pow_le_pow_right (by decide) (by omega)))
    · by_cases hp10 : p < -10
      · refine (exact_under d _ p w (by omega) ⟨h1, hp10⟩ hc).mono ?_
        rintro e w' ⟨rfl, hw⟩
        exact ⟨.inl ⟨_, rfl⟩, hw⟩
      · obtain ⟨g, o, cap, hv, hk⟩ := hT
        obtain ⟨q, hq⟩ : ∃ q : Nat, -p = (q : Int) := ⟨(-p).toNat, by omega⟩
        have e1 : p.toNat = 0 := by omega
        rw [e1, hq, Nat.pow_zero, Nat.mul_one, Int.toNat_natCast] at hl ⊢
        have hkq := hk q (by omega)
        rw [fromI_nat] at hkq
        obtain ⟨z1, z2⟩ := quo_whole d q m hd0 (by omega) (by omega) hl
        refine (exact_quo d _ _ _ g o cap q p w (by omega) ⟨by omega, by omega⟩ hq hc hv hkq (fun w => run_float_arith (P := Tryz.prog) w .quo 22 .f32 _ _ _ z1)).mono ?_
        rintro e w' ⟨rfl, hw⟩
        exact ⟨.inr ⟨rfl, z2⟩, hw⟩

set_option maxRecDepth 1000000 in
set_option maxHeartbeats 1000000 in
theorem atof32_rawZ (s : ByteArray) (d R : Nat) (p : Int) (w : World) (hd : (d : Int) ≠ 0) (hp : -70 ≤ p ∧ p ≤ 40) (hS : ∀ w, Calls Tryz.prog 152 #[.string s] w fun e w' => e = .returned (.tuple #[.float .f64 0, .int .i64 0, .bool false]) ∧ w' = w)
    (hR : ∀ w, Calls Tryz.prog 153 #[.string s] w fun e w' => e = .returned (.tuple #[.int .u64 (d : Int), .int .i64 p, .bool false, .bool false, .bool false, .int .i64 (s.size : Nat), .bool true]) ∧ w' = w)
    (hX : Calls Tryz.prog 157 #[.int .u64 (d : Int), .int .i64 p, .bool false] w fun e w' => ExB R e ∧ w' = w)
    (hQ : Calls Tryz.prog 158 #[.int .u64 (d : Int), .int .i64 p, .int .u32 0] w fun e w' => e = .returned (.tuple #[.float .f32 R, erR R]) ∧ Below w.heap.size w w')
    (c2 : w.cell? ⟨5, 0, none⟩ = some (.bool true)) :
    Calls Tryz.prog 124 #[.string s] w fun e w' => e = .returned (.tuple #[.float .f32 R, .int .i64 (s.size : Nat), erR R]) ∧ Below w.heap.size w w' := by
  have hd0 : ((d : Int) == 0) = false := by simpa using hd
  clear hd
  obtain ⟨hp1, hp2⟩ := hp
  go_enter Tryz.func124, Tryz.ntmps124
  go_wp2_with fail
  refine (hS _).mono ?_
  rintro e9 w9 ⟨rfl, hw9⟩
  obtain rfl := hw9.symm
  clear hw9
  go_wp2_with fail
  refine (hR _).mono ?_
  rintro e9 w9 ⟨rfl, hw9⟩
  obtain rfl := hw9.symm
  clear hw9
  go_wp2_with fail
  refine (bool2w_p _).mono ?_
  rintro e9 w9 ⟨rfl, hw9⟩
  obtain rfl := hw9.symm
  clear hw9
  go_wp2_with fail
  refine hX.mono ?_
  rintro e9 w9 ⟨hE, hw9⟩
  obtain rfl := hw9.symm
  clear hw9 hX
  rcases hE with ⟨f, rfl⟩ | ⟨rfl, hn⟩
  · go_wp2_with fail
    refine hQ.mono ?_
    rintro e9 w9 ⟨rfl, hb⟩
    go_wp2
    go_ret3
    exact ⟨rfl, hb⟩
  · go_wp2
    go_ret3
    have e : erR R = .nilIface := by unfold erR; rw [if_neg hn]
    exact ⟨by rw [e]; rfl, Below.refl _ _⟩
/-- what the library's tables hold -/
structure TabB (w : World) : Prop where
  pw : ∀ p : Int, -70 ≤ p → p ≤ 40 → TabZ w p
  fl : TabF w
  opt : w.cell? ⟨5, 0, none⟩ = some (.bool true)
theorem TabB.below {w w' : World} (h : TabB w) (hb : Below w.heap.size w w') : TabB w' := by
  refine ⟨fun p h1 h2 => ⟨cell_next hb (h.pw p h1 h2).hi, cell_next hb (h.pw p h1 h2).lo⟩, ?_, cell_next hb h.opt⟩
  obtain ⟨g, o, cap, h1, h2⟩ := h.fl
  exact ⟨g, o, cap, cell_next hb h1, fun k hk => cell_next hb (h2 k hk)⟩
/-- atof32 of digits that fit in 64 bits, at every power that is not far off -/
theorem atof32_any (s : ByteArray) (d m : Nat) (p : Int) (w : World) (hd0 : 0 < d) (hd : d < 18446744073709551616) (h1 : -70 ≤ p) (h2 : p ≤ 40) (hl : LowB (d * 10 ^ p.toNat) (10 ^ (-p).toNat) m) (hT : TabB w)
    (hS : ∀ w, Calls Tryz.prog 152 #[.string s] w fun e w' => e = .returned (.tuple #[.float .f64 0, .int .i64 0, .bool false]) ∧ w' = w)
    (hR : ∀ w, Calls Tryz.prog 153 #[.string s] w fun e w' => e = .returned (.tuple #[.int .u64 (d : Int), .int .i64 p, .bool false, .bool false, .bool false, .int .i64 (s.size : Nat), .bool true]) ∧ w' = w) :
    Calls Tryz.prog 124 #[.string s] w fun e w' => e = .returned (.tuple #[.float .f32 (nearB (d * 10 ^ p.toNat) (10 ^ (-p).toNat) m), .int .i64 (s.size : Nat), erR (nearB (d * 10 ^ p.toNat) (10 ^ (-p).toNat) m)]) ∧ Below w.heap.size w w' :=
  atof32_rawZ s d _ p w (by omega) ⟨h1, h2⟩ hS hR (exact_all d m p hd0 hd h1 h2 hl w hT.fl) (parse32_all d m p w hd0 hd h1 h2 (hT.pw p h1 h2) hl) hT.opt
end Go.Proofs.YtnljpbpphdhnpaaGreatDoor

/- The library's ParseFloat of digits of which nothing is cut off, at every power: the document's Nearest, where that is not infinite. -/
namespace Go.Proofs.YtnljpbpphdhnpaaGreatDoor
open Go.RowKit Go.PlainAid

theorem dv_19 (c0 : UInt8) (cs : List UInt8) (h0 : 49 ≤ c0.toNat ∧ c0.toNat ≤ 57) (hc : Dig cs) : 0 < dvL (c0 :: cs.take 18) ∧ dvL (c0 :: cs.take 18) < 10000000000000000000 := by
  refine ⟨dv_pos c0 _ h0.1, ?_⟩
  have h1 := dv_lt (c0 :: cs.take 18) (by
    intro c hc'
    rcases List.mem_cons.1 hc' with rfl | hc'
    · omega
    · exact hc c (List.mem_of_mem_take hc'))
  have h2 : 10 ^ (c0 :: cs.take 18).length ≤ 10 ^ 19 := Nat.pow_le_pow_right (by decide) (by rw [List.length_cons, List.length_take]; omega)
  exact Nat.lt_of_lt_of_le h1 h2
theorem special_num (c0 : UInt8) (cs es : List UInt8) (h0 : 49 ≤ c0.toNat ∧ c0.toNat ≤ 57) (w : World) : Calls Tryz.prog 152 #[.string (bl (numT c0 cs es))] w fun e w' => e = .returned (.tuple #[.float .f64 0, .int .i64 0, .bool false]) ∧ w' = w := by
  have hlen := num_len c0 cs es
  exact special_dig (bl (numT c0 cs es)) (by rw [bl_size]; omega) (by rw [num_at c0 cs es 0 (by omega)]; show 48 ≤ (c0.toNat : Int) ∧ (c0.toNat : Int) ≤ 57; omega) w
/-- what is read of d times ten to the power p -/
abbrev nearZ (d : Nat) (p : Int) (m : Nat) : Nat := nearB (d * 10 ^ p.toNat) (10 ^ (-p).toNat) m
theorem pf_of (s : ByteArray) (R : Nat) (w : World) (hr : R < 2139095040) (hA : Calls Tryz.prog 124 #[.string s] w fun e w' => e = .returned (.tuple #[.float .f32 R, .int .i64 (s.size : Nat), erR R]) ∧ Below w.heap.size w w') :
    Calls Tryz.prog 55 #[.string s, .int .i64 32] w fun e w' => e = .returned (.tuple #[.float .f64 (fD R (atE R)), .nilIface]) ∧ Below w.heap.size w w' := by
  have e : erR R = .nilIface := by unfold erR; rw [if_neg (by omega)]
  rw [e] at hA
  exact pf_raw _ _ w (ipf_any _ _ w (prefix_any _ _ _ w hA (fun w => run_convert_float_float w 22 80 .f32 .f64 _ _ (by kernel_rfl) Tryz.underlying80 (fD_wide _ hr))))
theorem atof_up (c0 : UInt8) (cs es : List UInt8) (p : Int) (m : Nat) (h0 : 49 ≤ c0.toNat ∧ c0.toNat ≤ 57) (hc : Dig cs) (hl : cs.length ≤ 1099511627000) (he : Dig es) (hle : es.length ≤ 2) (hes : 0 < es.length) (hz : cutOff cs = false)
    (hp : (dvL es : Int) - ((min cs.length 18 : Nat) : Int) = p) (h1 : -70 ≤ p) (h2 : p ≤ 40) (hlw : LowB (dvL (c0 :: cs.take 18) * 10 ^ p.toNat) (10 ^ (-p).toNat) m) (w : World) (hT : TabB w) :
    Calls Tryz.prog 124 #[.string (bl (numT c0 cs es))] w fun e w' => e = .returned (.tuple #[.float .f32 (nearZ (dvL (c0 :: cs.take 18)) p m), .int .i64 ((bl (numT c0 cs es)).size : Nat), erR (nearZ (dvL (c0 :: cs.take 18)) p m)]) ∧ Below w.heap.size w w' := by
  obtain ⟨d0, d1⟩ := dv_19 c0 cs h0 hc
  have hR := fun w => read_up c0 cs es h0 hc hl he hle hes w
  rw [hz, hp] at hR
  exact atof32_any _ _ m p w d0 (by omega) h1 h2 hlw hT (special_num c0 cs es h0) hR
theorem atof_down (c0 : UInt8) (cs es : List UInt8) (p : Int) (m : Nat) (h0 : 49 ≤ c0.toNat ∧ c0.toNat ≤ 57) (hc : Dig cs) (hl : cs.length ≤ 1099511627000) (he : Dig es) (hle : es.length ≤ 2) (hes : 0 < es.length) (hz : cutOff cs = false)
    (hp : -(dvL es : Int) - ((min cs.length 18 : Nat) : Int) = p) (h1 : -70 ≤ p) (h2 : p ≤ 40) (hlw : LowB (dvL (c0 :: cs.take 18) * 10 ^ p.toNat) (10 ^ (-p).toNat) m) (w : World) (hT : TabB w) :
    Calls Tryz.prog 124 #[.string (bl (numT c0 cs (45 :: es)))] w fun e w' => e = .returned (.tuple #[.float .f32 (nearZ (dvL (c0 :: cs.take 18)) p m), .int .i64 ((bl (numT c0 cs (45 :: es))).size : Nat), erR (nearZ (dvL (c0 :: cs.take 18)) p m)]) ∧ Below w.heap.size w w' := by
  obtain ⟨d0, d1⟩ := dv_19 c0 cs h0 hc
  have hR := fun w => read_down c0 cs es h0 hc hl he hle hes w
  rw [hz, hp] at hR
  exact atof32_any _ _ m p w d0 (by omega) h1 h2 hlw hT (special_num c0 cs (45 :: es) h0) hR
end Go.Proofs.YtnljpbpphdhnpaaGreatDoor
