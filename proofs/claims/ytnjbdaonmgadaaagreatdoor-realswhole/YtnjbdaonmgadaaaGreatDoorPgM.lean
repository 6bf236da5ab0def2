/- The program's Parse of a whole number's text: the nearest real. -/
import Derived.Test.YtnjbdaonmgadaaaGreatDoorPgL
namespace Go.Proofs.YtnjbdaonmgadaaaGreatDoor
open Go.RowKit Go.PlainAid

theorem nearest_whole (N : Nat) (h0 : 0 < N) (h1 : N ≤ 9223372036854775808) (w : World) (hT : TabA w) :
    Calls Tryz.prog 21 #[.agg #[.string (bl (Lib.trimRightB (Lib.decDigits N) 48)), .int .i64 (((Lib.decDigits N).length : Int) - 1)]] w fun e w' => e = .returned (.tuple #[.float .f32 (rndR (N * P149)), .bool true]) ∧ Below w.heap.size w w' := by
  obtain ⟨c0, cs, j, hE, hc0, hcs, hlen, hl19, hv⟩ := parts_of N h0 (by omega)
  obtain ⟨a1, a2, a3, a4, a5⟩ := near_whole N h0 h1
  rw [hE]
  obtain ⟨k, hk⟩ : ∃ k, k = cs.length + j := ⟨_, rfl⟩
  have hkI : ((Lib.decDigits N).length : Int) - 1 = (k : Int) := by omega
  rw [hkI]
  have hes : Dig (Lib.decDigits k) := dec_digit k
  have hesl : 0 < (Lib.decDigits k).length ∧ (Lib.decDigits k).length ≤ 2 := by
    rw [Lib.decDigits_length]
    refine ⟨Lib.nDigits_pos k, ?_⟩
    by_cases h10 : k < 10
    · rw [Lib.nDigits_small h10]; omega
    · rw [Lib.nDigits_big h10, Lib.nDigits_small (by omega)]; omega
  have hF := fun w => Tryz.strconv_FormatInt_10_small k (by omega) w
  have hsp := bl_extract [c0] cs
  have hP := fun w' (hb : Below w.heap.size w w') => pf_any c0 cs (Lib.decDigits k) j hc0 hcs (by omega) hes hesl.2 hesl.1 (by rw [dv_dec]; omega) (by omega) (by rw [hv]; omega) w' ⟨(hT.below hb).pw j (by omega), (hT.below hb).fl, (hT.below hb).opt⟩
  rw [hv] at hP
  refine nearest_raw (bl (c0 :: cs)) (bl [c0]) (bl cs) (bl [c0, 46]) (bl (c0 :: 46 :: cs)) (bl (c0 :: 46 :: (cs ++ [101]))) (bl (numT c0 cs (Lib.decDigits k))) (bl (Lib.decDigits k)) (k : Int) (rndR (N * P149)) _ w (by omega) (by omega) (by rw [bl_size]; simp) (by rw [bl_size]; simp; omega) (empty_false _ (by simp)) hsp.1 (by rw [bl_size]; exact hsp.2) rfl (by rw [bl_size]; omega) (by rw [bl_size]; omega) ?_ ?_ ?_ ?_ rfl (by rw [bl_size]; simp; omega) (by rw [bl_size]; simp; omega) hF hP ?_
  · exact bl_app [c0] [46]
  · exact bl_app [c0, 46] cs
  · exact bl_app (c0 :: 46 :: cs) [101]
  · have := bl_app (c0 :: 46 :: (cs ++ [101])) (Lib.decDigits k)
    simpa [numT] using this
  · exact fun w => run_convert_float_float w 59 23 .f64 .f32 _ _ (by kernel_rfl) Tryz.underlying23 (fD_end _ (by omega))

set_option maxRecDepth 1000000 in
set_option maxHeartbeats 1000000 in
theorem parse_raw (s b T : ByteArray) (k : Int) (below : Bool) (x R : Nat) (w : World) (hx : x < 2147483648) (hR : (if below then x + 2147483648 else x) = R)
    (h1 : ∀ w, Calls Tryz.prog 17 #[.string s, .string ⟨#[45]⟩] w fun e w' => e = .returned (.tuple #[.string b, .bool below]) ∧ w' = w)
    (t1 : (s.toList == [110, 97, 110]) = false) (t2 : (b.toList == [105, 110, 102]) = false)
    (h2 : ∀ w, Calls Tryz.prog 20 #[.string b] w fun e w' => e = .returned (.tuple #[.agg #[.string T, .int .i64 k], .bool true]) ∧ Below w.heap.size w w')
    (h3 : ∀ w', Below w.heap.size w w' → Calls Tryz.prog 21 #[.agg #[.string T, .int .i64 k]] w' fun e w'' => e = .returned (.tuple #[.float .f32 x, .bool true]) ∧ Below w'.heap.size w' w'') :
    Calls Tryz.prog 7 #[.string s] w fun e w' => e = .returned (.tuple #[.float .f32 R, .int .i64 0]) ∧ Below w.heap.size w w' := by
  have h5 := signed_any x hx below
  rw [hR] at h5
  clear hR
  go_enter Tryz.func7, Tryz.ntmps7
  go_wp2_with fail
  refine (h1 _).mono ?_
  rintro e9 w9 ⟨rfl, hw9⟩
  obtain rfl := hw9.symm
  clear hw9
  go_wp2_with fail
  refine (h2 _).mono ?_
  rintro e9 w9 ⟨rfl, hb⟩
  have HB : Hid (Below w.heap.size w w9) := hb
  clear hb
  go_wp2_with fail
  refine (h3 _ (HB.out.alloc HB.out.size _)).mono ?_
  rintro e9 w8 ⟨rfl, hb8⟩
  have HB8 : Hid _ := (HB.out.alloc HB.out.size _).trans (hb8.mono (HB.out.alloc HB.out.size _).size)
  clear hb8
  go_wp2_with fail
  refine (h5 _).mono ?_
  rintro e9 w7 ⟨rfl, hw7⟩
  obtain rfl := hw7.symm
  clear hw7
  go_wp2
  go_ret2
  exact ⟨rfl, HB8.out⟩
end Go.Proofs.YtnjbdaonmgadaaaGreatDoor
