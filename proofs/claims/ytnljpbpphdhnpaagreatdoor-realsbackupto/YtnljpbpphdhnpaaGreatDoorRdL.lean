/- The program's nearest: the real of digits of any length and a power. -/
import Derived.Test.YtnljpbpphdhnpaaGreatDoorRdJ
import Derived.Test.YtnljpbpphdhnpaaGreatDoorShelf

namespace Go.Proofs.YtnljpbpphdhnpaaGreatDoor
open Go.RowKit Go.PlainAid

set_option maxRecDepth 1000000 in
set_option maxHeartbeats 2000000 in
theorem nearest_rawZ (E C0 C1 A1 A2 A3 A4 KT : ByteArray) (k : Int) (R r64 : Nat) (w : World) (hk0 : -46 ≤ k) (hk : k ≤ 38) (hE0 : 0 < E.size) (hE1 : E.size ≤ 1099511627000) (hne : E.toList.isEmpty = false)
    (s0 : E.extract 0 1 = C0) (s1 : E.extract 1 E.size = C1) (z0 : C0.size = 1) (z1 : C1.size ≤ 1099511627000) (zk : KT.size ≤ 3) (a1 : C0 ++ ⟨#[46]⟩ = A1) (a2 : A1 ++ C1 = A2) (a3 : A2 ++ ⟨#[101]⟩ = A3) (a4 : A3 ++ KT = A4) (q1 : A1.size = 2) (q2 : A2.size ≤ 1099511627100) (q3 : A3.size ≤ 1099511627200)
    (hF : ∀ w', Below w.heap.size w w' → Calls Tryz.prog 56 #[.int .i64 k, .int .i64 10] w' fun e w'' => e = .returned (.string KT) ∧ Below w'.heap.size w' w'')
    (hP : ∀ w', Below w.heap.size w w' → Calls Tryz.prog 55 #[.string A4, .int .i64 32] w' fun e w'' => e = .returned (.tuple #[.float .f64 r64, .nilIface]) ∧ Below w'.heap.size w' w'')
    (hC : ∀ w, (convert 80 22 (.float .f64 r64)).run Tryz.prog w = .ok (.float .f32 R) w) :
    Calls Tryz.prog 29 #[.agg #[.string E, .int .i64 k]] w fun e w' => e = .returned (.tuple #[.float .f32 R, .bool true]) ∧ Below w.heap.size w w' := by
  have hW0 : Below w.heap.size w (w.alloc (.cells #[.string E, .int .i64 k] 46)) := (Below.refl w.heap.size w).alloc (Nat.le_refl _) _
  have HP : Hid (∀ w', Below w.heap.size w w' → Calls Tryz.prog 55 #[.string A4, .int .i64 32] w' fun e w'' => e = .returned (.tuple #[.float .f64 r64, .nilIface]) ∧ Below w'.heap.size w' w'') := hP
  have HF : Hid (∀ w', Below w.heap.size w w' → Calls Tryz.prog 56 #[.int .i64 k, .int .i64 10] w' fun e w'' => e = .returned (.string KT) ∧ Below w'.heap.size w' w'') := hF
  clear hP hF
  have HW : Hid (∀ w', ((∀ b o, b < (w.alloc (.cells #[.string E, .int .i64 k] 46)).heap.size → w'.cell? ⟨b, o, none⟩ = (w.alloc (.cells #[.string E, .int .i64 k] 46)).cell? ⟨b, o, none⟩) ∧ Below (w.alloc (.cells #[.string E, .int .i64 k] 46)).heap.size (w.alloc (.cells #[.string E, .int .i64 k] 46)) w') → Below w.heap.size w w') := fun w' h => hW0.trans (h.2.mono (by simp))
  clear hW0
  have i1 : (1 : Int) ≤ (E.size : Int) := by omega
  have n2 : ¬ 9223372036854775807 < 2 + C1.size := by omega
  have n3 : ¬ 9223372036854775807 < A2.size + 1 := by omega
  have n4 : ¬ 9223372036854775807 < A3.size + KT.size := by omega
  have p46 : (⟨#[46]⟩ : ByteArray).size = 1 := rfl
  have p101 : (⟨#[101]⟩ : ByteArray).size = 1 := rfl
  go_enter Tryz.func29, Tryz.ntmps29
  go_wp2
  go_region_held3 (fun w' => (∀ b o, b < (w.alloc (.cells #[.string E, .int .i64 k] 46)).heap.size → w'.cell? ⟨b, o, none⟩ = (w.alloc (.cells #[.string E, .int .i64 k] 46)).cell? ⟨b, o, none⟩) ∧ Below (w.alloc (.cells #[.string E, .int .i64 k] 46)).heap.size (w.alloc (.cells #[.string E, .int .i64 k] 46)) w')
    (first | exact keep_start | exact keep_next (by assumption) (by assumption))
    (first | (go_at_call 56; refine (HF.out _ (HW.out _ (by assumption))).mono ?_; rintro e w1 ⟨rfl, hb⟩) | (go_at_call 55; refine (HP.out _ (HW.out _ (by assumption))).mono ?_; rintro e w1 ⟨rfl, hb⟩))
  all_goals rename_i hH
  all_goals go_wp2
  all_goals go_quiet (fail)
  all_goals go_wp2
  all_goals go_ret2
  all_goals exact ⟨rfl, below_drewN (HW.out _ hH) _⟩
end Go.Proofs.YtnljpbpphdhnpaaGreatDoor


/- The program's nearest of digits of which the library cuts nothing off, at a power above: the document's Nearest. -/
namespace Go.Proofs.YtnljpbpphdhnpaaGreatDoor
open Go.RowKit Go.PlainAid

theorem nil_false (l : List UInt8) (h : 0 < l.length) : (bl l).toList.isEmpty = false := by
  rw [ByteArray.toList_eq, bl_data]
  cases l with
  | nil => simp at h
  | cons x l => rfl
theorem two_digits (k : Nat) (h : k < 100) : Dig (Lib.decDigits k) ∧ 0 < (Lib.decDigits k).length ∧ (Lib.decDigits k).length ≤ 2 := by
  refine ⟨dec_digit k, ?_⟩
  rw [Lib.decDigits_length]
  refine ⟨Lib.nDigits_pos k, ?_⟩
  by_cases h10 : k < 10
  · rw [Lib.nDigits_small h10]; omega
  · rw [Lib.nDigits_big h10, Lib.nDigits_small (by omega)]; omega
/-- at a power above -/
theorem nearest_up (c0 : UInt8) (cs : List UInt8) (k m : Nat) (p : Int) (h0 : 49 ≤ c0.toNat ∧ c0.toNat ≤ 57) (hc : Dig cs) (hl : cs.length ≤ 1099511626000) (hk : k ≤ 38) (hz : cutOff cs = false)
    (hp : (k : Int) - ((min cs.length 18 : Nat) : Int) = p) (hlw : LowB (dvL (c0 :: cs.take 18) * 10 ^ p.toNat) (10 ^ (-p).toNat) m) (hr : nearZ (dvL (c0 :: cs.take 18)) p m < 2139095040) (w : World) (hT : TabB w) :
    Calls Tryz.prog 29 #[.agg #[.string (bl (c0 :: cs)), .int .i64 k]] w fun e w' => e = .returned (.tuple #[.float .f32 (nearZ (dvL (c0 :: cs.take 18)) p m), .bool true]) ∧ Below w.heap.size w w' := by
  obtain ⟨hes, hes0, hes2⟩ := two_digits k (by omega)
  have hm : min cs.length 18 ≤ 18 := Nat.min_le_right _ _
  have hF : ∀ w', Below w.heap.size w w' → Calls Tryz.prog 56 #[.int .i64 k, .int .i64 10] w' fun e w'' => e = .returned (.string (bl (Lib.decDigits k))) ∧ Below w'.heap.size w' w'' := fun w' _ =>
    (Tryz.strconv_FormatInt_10_small k (by omega) w').mono (by rintro e w1 ⟨rfl, rfl⟩; exact ⟨rfl, Below.refl _ _⟩)
  have hsp := bl_extract [c0] cs
  have hP := fun w' (hb : Below w.heap.size w w') => pf_of _ _ w' hr (atof_up c0 cs (Lib.decDigits k) p m h0 hc (by omega) hes hes2 hes0 hz (by rw [dv_dec]; exact hp) (by omega) (by omega) hlw w' (hT.below hb))
  refine nearest_rawZ (bl (c0 :: cs)) (bl [c0]) (bl cs) (bl [c0, 46]) (bl (c0 :: 46 :: cs)) (bl (c0 :: 46 :: (cs ++ [101]))) (bl (numT c0 cs (Lib.decDigits k))) (bl (Lib.decDigits k)) (k : Int) _ _ w (by omega) (by omega) (by rw [bl_size]; simp) (by rw [bl_size]; simp; omega) (nil_false _ (by simp)) hsp.1 (by rw [bl_size]; exact hsp.2) rfl (by rw [bl_size]; omega) (by rw [bl_size]; omega) (bl_app [c0] [46]) (bl_app [c0, 46] cs) ?_ ?_ rfl (by rw [bl_size]; simp; omega) (by rw [bl_size]; simp; omega) hF hP (fun w => run_convert_float_float w 80 22 .f64 .f32 _ _ (by kernel_rfl) Tryz.underlying22 (fD_end _ (by omega)))
  · exact bl_app (c0 :: 46 :: cs) [101]
  · have := bl_app (c0 :: 46 :: (cs ++ [101])) (Lib.decDigits k)
    simpa [numT] using this
/-- at a power below -/
theorem nearest_down (c0 : UInt8) (cs : List UInt8) (k m : Nat) (p : Int) (h0 : 49 ≤ c0.toNat ∧ c0.toNat ≤ 57) (hc : Dig cs) (hl : cs.length ≤ 1099511626000) (hk : k ≤ 46) (hz : cutOff cs = false)
    (hp : -(k : Int) - ((min cs.length 18 : Nat) : Int) = p) (hlw : LowB (dvL (c0 :: cs.take 18) * 10 ^ p.toNat) (10 ^ (-p).toNat) m) (hr : nearZ (dvL (c0 :: cs.take 18)) p m < 2139095040) (w : World) (hT : TabB w)
    (hF : ∀ w', Below w.heap.size w w' → Calls Tryz.prog 56 #[.int .i64 (-(k : Int)), .int .i64 10] w' fun e w'' => e = .returned (.string (bl (45 :: Lib.decDigits k))) ∧ Below w'.heap.size w' w'') :
    Calls Tryz.prog 29 #[.agg #[.string (bl (c0 :: cs)), .int .i64 (-(k : Int))]] w fun e w' => e = .returned (.tuple #[.float .f32 (nearZ (dvL (c0 :: cs.take 18)) p m), .bool true]) ∧ Below w.heap.size w w' := by
  obtain ⟨hes, hes0, hes2⟩ := two_digits k (by omega)
  have hm : min cs.length 18 ≤ 18 := Nat.min_le_right _ _
  have hsp := bl_extract [c0] cs
  have hP := fun w' (hb : Below w.heap.size w w') => pf_of _ _ w' hr (atof_down c0 cs (Lib.decDigits k) p m h0 hc (by omega) hes hes2 hes0 hz (by rw [dv_dec]; exact hp) (by omega) (by omega) hlw w' (hT.below hb))
  refine nearest_rawZ (bl (c0 :: cs)) (bl [c0]) (bl cs) (bl [c0, 46]) (bl (c0 :: 46 :: cs)) (bl (c0 :: 46 :: (cs ++ [101]))) (bl (numT c0 cs (45 :: Lib.decDigits k))) (bl (45 :: Lib.decDigits k)) (-(k : Int)) _ _ w (by omega) (by omega) (by rw [bl_size]; simp) (by rw [bl_size]; simp; omega) (nil_false _ (by simp)) hsp.1 (by rw [bl_size]; exact hsp.2) rfl (by rw [bl_size]; omega) (by rw [bl_size, List.length_cons]; omega) (bl_app [c0] [46]) (bl_app [c0, 46] cs) ?_ ?_ rfl (by rw [bl_size]; simp; omega) (by rw [bl_size]; simp; omega) hF hP (fun w => run_convert_float_float w 80 22 .f64 .f32 _ _ (by kernel_rfl) Tryz.underlying22 (fD_end _ (by omega)))
  · exact bl_app (c0 :: 46 :: cs) [101]
  · have := bl_app (c0 :: 46 :: (cs ++ [101])) (45 :: Lib.decDigits k)
    simpa [numT] using this
end Go.Proofs.YtnljpbpphdhnpaaGreatDoor
