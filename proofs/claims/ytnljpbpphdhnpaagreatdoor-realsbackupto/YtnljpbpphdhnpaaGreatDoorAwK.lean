/- The statements' own look at some fixed answers: it says true, in whatever memory the library's tables lie in. -/
import Derived.Test.YtnljpbpphdhnpaaGreatDoorTxB
import Derived.Test.YtnljpbpphdhnpaaGreatDoorDoA
namespace Go.Proofs.YtnljpbpphdhnpaaGreatDoor
open Go.RowKit Go.PlainAid

theorem cmpI_p (w : World) : Calls Tryz.prog 23 #[.float .f32 1266679808, .int .i64 16777217] w fun e w' => e = .returned (.tuple #[.int .i64 (-1), .bool true]) ∧ w' = w := by
  have h := compareInt_any 1266679808 16777217 (by decide) (by decide) w
  have e1 : (cmpXN 1266679808 16777217) = (-1, true) := by decide
  rw [e1] at h
  exact h
theorem do_p (w : World) : Calls Tryz.prog 24 #[.int .i64 7, .float .f32 1266679808, .float .f32 1073741824] w fun e w' => e = .returned (.float .f32 1266679809) ∧ ∃ n, w' = w.drewN n := by
  have h := do_any 7 1266679808 1073741824 w
  have e1 : doN 7 1266679808 1073741824 = 1266679809 := by decide
  rw [e1] at h
  exact h

set_option maxRecDepth 1000000 in
set_option maxHeartbeats 1000000 in
theorem awake_any (w : World) (hT : Tabx w) : Calls Tryz.prog 8 #[] w fun e w' => e = .returned (.bool true) ∧ Below w.heap.size w w' := by
  have h1 : Calls Tryz.prog 9 #[.string ⟨#[49, 54, 55, 55, 55, 50, 49, 55, 46, 48]⟩] w fun e w' => e = .returned (.tuple #[.float .f32 1266679808, .int .i64 0]) ∧ Below w.heap.size w w' := parse_p w hT.tabs
  have k1 : (FloatKind.f32.format.order 1266679808 1266679808 == some Ordering.eq) = true := by decide
  have k2 : (FloatKind.f32.format.order 0 0 == some Ordering.eq) = true := by decide
  have k3 : (FloatKind.f32.format.order 1266679809 1266679809 == some Ordering.eq) = true := by decide
  go_enter Tryz.func8, Tryz.ntmps8
  go_wp2_with fail
  refine h1.mono ?_
  rintro e9 w1 ⟨rfl, hb1⟩
  have HB1 : Hid (Below w.heap.size w w1) := hb1
  clear hb1 h1
  go_wp2_with (first
    | (go_at_call 9; refine (parse_q _).mono ?_; rintro e9 w2 ⟨rfl, hb2⟩; have HB2 : Hid (Below w.heap.size w w2) := HB1.out.trans (hb2.mono HB1.out.size); clear hb2)
    | (go_at_call 23; refine (cmpI_p _).mono ?_; rintro e9 w9 ⟨rfl, hw9⟩; obtain rfl := hw9.symm)
    | (go_at_call 6; refine (text_p _ (hT.below HB2.out)).mono ?_; rintro e9 w3 ⟨rfl, hb3⟩; have HB3 : Hid (Below w.heap.size w w3) := HB2.out.trans (hb3.mono HB2.out.size); clear hb3)
    | (go_at_call 24; refine (do_p _).mono ?_; rintro e9 w4 ⟨rfl, n4, hw4⟩; have HB4 : Hid (Below w.heap.size w w4) := (by rw [hw4]; exact below_drewN HB3.out n4); clear hw4))
  go_ret
  exact ⟨rfl, HB4.out⟩
end Go.Proofs.YtnljpbpphdhnpaaGreatDoor


