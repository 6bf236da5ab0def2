/- A Reader that is not there, and one without bytes: OctetsNone answers true for every input. -/
import Derived.Test.YtcmembmaaebdeaaAwakeW
namespace Go.Proofs.Ytcmembmaaebdeaa
open Go.RowKit Go.PlainAid Go.Lib

set_option maxHeartbeats 1600000 in
theorem rByte_none (w : World) : Calls Try.prog 25 #[.pointer none] w fun x w' => x = .returned (.int .u8 0) ∧ w' = w := by
  have h := read59_none w (.func (.func 60) #[] #[])
  go_enter Try.func25, Try.ntmps25
  go_wp2_with fail
  refine h.mono ?_
  rintro e9 w9 ⟨rfl, hw9⟩
  obtain rfl := hw9.symm
  go_wp2
  go_ret
  exact ⟨rfl, rfl⟩

set_option maxHeartbeats 1600000 in
theorem rUint_none (w : World) : Calls Try.prog 26 #[.pointer none] w fun x w' => x = .returned (.int .u64 0) ∧ w' = w := by
  have h := read61_none w (.func (.func 62) #[] #[])
  go_enter Try.func26, Try.ntmps26
  go_wp2_with fail
  refine h.mono ?_
  rintro e9 w9 ⟨rfl, hw9⟩
  obtain rfl := hw9.symm
  go_wp2
  go_ret
  exact ⟨rfl, rfl⟩

set_option maxHeartbeats 1600000 in
theorem rInt_none (w : World) : Calls Try.prog 27 #[.pointer none] w fun x w' => x = .returned (.int .i64 0) ∧ w' = w := by
  have h := read63_none w (.func (.func 64) #[] #[])
  go_enter Try.func27, Try.ntmps27
  go_wp2_with fail
  refine h.mono ?_
  rintro e9 w9 ⟨rfl, hw9⟩
  obtain rfl := hw9.symm
  go_wp2
  go_ret
  exact ⟨rfl, rfl⟩

set_option maxHeartbeats 1600000 in
theorem rReal_none (w : World) : Calls Try.prog 28 #[.pointer none] w fun x w' => x = .returned (.float .f32 0) ∧ w' = w := by
  have h := read65_none w (.func (.func 66) #[] #[])
  go_enter Try.func28, Try.ntmps28
  go_wp2_with fail
  refine h.mono ?_
  rintro e9 w9 ⟨rfl, hw9⟩
  obtain rfl := hw9.symm
  go_wp2
  go_ret
  exact ⟨rfl, rfl⟩

set_option maxHeartbeats 1600000 in
theorem rText_none (n : Int) (w : World) : Calls Try.prog 29 #[.pointer none, .int .i64 n] w fun x w' => x = .returned (.string ⟨#[]⟩) ∧ Keep [] w w' := by
  have h := read67_none (w.alloc (.cells #[.int .i64 n] 3)) (.func (.func 68) #[] #[.pointer (some ⟨w.heap.size, 0, none⟩)])
  go_enter Try.func29, Try.ntmps29
  go_wp2_with fail
  refine h.mono ?_
  rintro e9 w9 ⟨rfl, rfl⟩
  go_wp2
  go_ret
  exact ⟨rfl, Keep.alloc1 _ _⟩

set_option maxHeartbeats 1600000 in
theorem rRaw_none (n : Int) (w : World) : Calls Try.prog 30 #[.pointer none, .int .i64 n] w fun x w' => x = .returned (.slice none 0 0) ∧ Keep [] w w' := by
  have h := read70_none (w.alloc (.cells #[.int .i64 n] 3)) (.func (.func 71) #[] #[.pointer (some ⟨w.heap.size, 0, none⟩)])
  go_enter Try.func30, Try.ntmps30
  go_wp2_with fail
  refine h.mono ?_
  rintro e9 w9 ⟨rfl, rfl⟩
  go_wp2
  go_ret
  exact ⟨rfl, Keep.alloc1 _ _⟩

set_option maxRecDepth 1000000 in
set_option maxHeartbeats 3200000 in
theorem none_law (n : Int) (w : World) : Calls Try.prog 5 #[.int .i64 n] w fun e w' => e = .returned (.bool true) ∧ Below w.heap.size w w' := by
  have hz : (FloatKind.f32.format.order 0 0 != some Ordering.eq) = false := by rw [neq_self]; decide
  go_enter Try.func5, Try.ntmps5
  go_wp2_with fail
  refine (rByte_none w).mono ?_
  rintro e1 w1 ⟨rfl, hw⟩
  obtain rfl := hw.symm
  go_wp2_with fail
  refine (rUint_none w).mono ?_
  rintro e2 w2 ⟨rfl, hw⟩
  obtain rfl := hw.symm
  go_wp2_with fail
  refine (rInt_none w).mono ?_
  rintro e3 w3 ⟨rfl, hw⟩
  obtain rfl := hw.symm
  go_wp2_with fail
  refine (rReal_none w).mono ?_
  rintro e4 w4 ⟨rfl, hw⟩
  obtain rfl := hw.symm
  go_wp2_with fail
  refine (rText_none n w).mono ?_
  rintro e5 w5 ⟨rfl, K5⟩
  go_wp2_with fail
  refine (rRaw_none n w5).mono ?_
  rintro e6 w6 ⟨rfl, K6⟩
  have K6' := K5.trans' K6
  clear K5 K6
  go_wp2_with fail
  refine (left_none w6).mono ?_
  rintro e7 w7 ⟨rfl, hw⟩
  obtain rfl := hw.symm
  go_wp2_with fail
  refine (err_none w6).mono ?_
  rintro e8 w8 ⟨rfl, hw⟩
  obtain rfl := hw.symm
  go_wp2_with fail
  refine (end_none w6).mono ?_
  rintro e9 w9 ⟨rfl, hw⟩
  obtain rfl := hw.symm
  go_wp2_with fail
  refine (Read_any _ [] w6 (Bs.nil w6) (by simp)).mono ?_
  rintro e10 w10 ⟨b, rb, rfl, D10, hb, hr, K10⟩
  have K10' := K6'.trans' K10
  have hbn : w.heap.size ≤ b := Nat.le_trans K6'.size hb
  clear K6' K10 hb hr
  go_wp2_with fail
  refine (left_any b 0 [] 0 rb w10 D10).mono ?_
  rintro e11 w11 ⟨rfl, hw⟩
  obtain rfl := hw.symm
  go_wp2_with fail
  refine (err_any b 0 [] 0 rb w10 D10).mono ?_
  rintro e12 w12 ⟨rfl, hw⟩
  obtain rfl := hw.symm
  go_wp2_with fail
  refine (end_any b 0 [] 0 rb w10 D10).mono ?_
  rintro e13 w13 ⟨rfl, hw⟩
  obtain rfl := hw.symm
  rw [show endE [] 0 = 0 from rfl]
  go_wp2_with fail
  refine (rRaw_any b 0 [] 0 rb 0 w10 D10 (by simp)).mono ?_
  rintro e14 w14 ⟨y, rfl, R14, F14, D14, K14⟩
  have K14' : Keep [] w w14 := K10'.more K14 (by intro x hx; simp at hx; subst hx; exact .inr hbn)
  have hq : rdOf [] [] 0 (rawL [] 0) = ([], [], 0) := by decide
  rw [hq] at R14 D14
  obtain ⟨ao, cap, hy, _⟩ := R14.bs.ex
  clear R14 F14 K14 K10' D10 hq
  subst hy
  go_wp2_with fail
  refine (err_any b 0 [] 0 rb w14 D14).mono ?_
  rintro e15 w15 ⟨rfl, hw⟩
  obtain rfl := hw.symm
  go_wp2_with fail
  refine (rUint_any b 0 [] 0 rb w14 D14).mono ?_
  rintro e16 w16 ⟨rfl, D16, K16⟩
  have K16' : Keep [] w w16 := K14'.more K16 (by intro x hx; simp at hx; subst hx; exact .inr hbn)
  have hq : rdOf 0 [] 0 (numL []) = (0, [], 20) := by decide
  rw [hq] at D16
  rw [hq]
  clear K16 K14' D14 hq
  go_wp2_with fail
  refine (err_any b 0 [] 20 rb w16 D16).mono ?_
  rintro e17 w17 ⟨rfl, hw⟩
  obtain rfl := hw.symm
  go_wp2_with fail
  refine (awake_any w16).mono ?_
  rintro e18 w18 ⟨rfl, K18⟩
  have HB : Hid (Below w.heap.size w w18) := (K16'.trans' K18).below
  clear K16' K18 D16
  go_wp2
  go_ret
  exact ⟨rfl, HB.out⟩

end Go.Proofs.Ytcmembmaaebdeaa
