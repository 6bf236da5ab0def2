/- Some answers that are fixed. -/
import Derived.Test.YtkelhglflpdpeaaTy

namespace Go.Proofs.Ytkelhglflpdpeaa
open Go.RowKit Go.PlainAid Go.Shelf

set_option maxRecDepth 100000 in
set_option maxHeartbeats 2000000 in
theorem awake_any (w : World) : Calls Try.prog 23 #[] w fun e w' => e = .returned (.bool true) ∧ Keep [] w w' := by
  have HNew : Hid (Calls Try.prog 9 #[vF 32] w fun e w' => ∃ b, e = .returned (vA b) ∧ Sh w' b 32 [] ∧ Keep [] w w' ∧ w.heap.size ≤ b) := new_any 32 (by decide) w
  have A1 : Hid (∀ b w9, Sh w9 b 32 [] → Calls Try.prog 13 #[vA b, vP ⟨5, 1⟩] w9 fun e w' => e = .returned (.bool true) ∧ Sh w' b 32 [⟨5, 1⟩] ∧ Keep [b] w9 w') := fun b w9 h => add_any b 32 [] ⟨5, 1⟩ w9 h (by decide)
  have A2 : Hid (∀ b w9, Sh w9 b 32 [⟨5, 1⟩] → Calls Try.prog 13 #[vA b, vP ⟨5, 2⟩] w9 fun e w' => e = .returned (.bool false) ∧ Sh w' b 32 [⟨5, 1⟩] ∧ Keep [b] w9 w') := fun b w9 h => add_any b 32 [⟨5, 1⟩] ⟨5, 2⟩ w9 h (by decide)
  have A3 : Hid (∀ b w9, Sh w9 b 32 [⟨5, 1⟩] → Calls Try.prog 14 #[vA b, vP ⟨2, 3⟩] w9 fun e w' => e = .returned (.bool false) ∧ Sh w' b 32 [⟨2, 3⟩, ⟨5, 1⟩] ∧ Keep [b] w9 w') := fun b w9 h => put_any b 32 [⟨5, 1⟩] ⟨2, 3⟩ w9 h (by decide)
  have A4 : Hid (∀ b w9, Sh w9 b 32 [⟨2, 3⟩, ⟨5, 1⟩] → Calls Try.prog 14 #[vA b, vP ⟨5, 4⟩] w9 fun e w' => e = .returned (.bool true) ∧ Sh w' b 32 [⟨2, 3⟩, ⟨5, 4⟩] ∧ Keep [b] w9 w') := fun b w9 h => put_any b 32 [⟨2, 3⟩, ⟨5, 1⟩] ⟨5, 4⟩ w9 h (by decide)
  have A5 : Hid (∀ b w9, Sh w9 b 32 [⟨2, 3⟩, ⟨5, 4⟩] → Calls Try.prog 19 #[vA b] w9 fun e w' => e = .returned (.int .i64 2) ∧ w9 = w') := fun b w9 h => len_any b 32 [⟨2, 3⟩, ⟨5, 4⟩] w9 h
  have A6 : Hid (∀ b w9, Sh w9 b 32 [⟨2, 3⟩, ⟨5, 4⟩] → Calls Try.prog 34 #[vA b, .int .i64 1] w9 fun e w' => e = .returned (.tuple #[vP ⟨5, 4⟩, .bool true]) ∧ Keep [] w9 w') := fun b w9 h => (nth_any b 32 [⟨2, 3⟩, ⟨5, 4⟩] 1 w9 h (by decide) (by decide)).mono (by
    rintro e w' ⟨z, c, he, h1, h2, h3⟩
    cases c
    · cases h1
    · cases h1; exact ⟨he, h3⟩)
  have A7 : Hid (∀ b w9, Sh w9 b 32 [⟨2, 3⟩, ⟨5, 4⟩] → Calls Try.prog 35 #[vA b, vP ⟨3, 0⟩] w9 fun e w' => e = .returned (.int .i64 1) ∧ Keep [] w9 w') := fun b w9 h => shRank_any b 32 [⟨2, 3⟩, ⟨5, 4⟩] ⟨3, 0⟩ w9 h (by decide)
  have A8 : Hid (∀ b w9, Sh w9 b 32 [⟨2, 3⟩, ⟨5, 4⟩] → Calls Try.prog 16 #[vA b, vP ⟨2, 0⟩] w9 fun e w' => e = .returned (.bool true) ∧ Sh w' b 32 [⟨5, 4⟩] ∧ Keep [b] w9 w') := fun b w9 h => rem_any b 32 [⟨2, 3⟩, ⟨5, 4⟩] ⟨2, 0⟩ w9 h (by decide)
  have A9 : Hid (∀ b w9, Sh w9 b 32 [⟨5, 4⟩] → Calls Try.prog 16 #[vA b, vP ⟨2, 0⟩] w9 fun e w' => e = .returned (.bool false) ∧ Sh w' b 32 [⟨5, 4⟩] ∧ Keep [b] w9 w') := fun b w9 h => rem_any b 32 [⟨5, 4⟩] ⟨2, 0⟩ w9 h (by decide)
  go_enter Try.func23, Try.ntmps23
  go_wp2_with (first
    | (go_at_call 9; refine HNew.out.mono ?_; clear HNew; rintro e w1 ⟨b, rfl, s1, k1, hb⟩)
    | (go_at_call 13; refine (A1.out b _ s1).mono ?_; clear A1; rintro e w2 ⟨rfl, s2, k2⟩)
    | (go_at_call 13; refine (A2.out b _ s2).mono ?_; clear A2; rintro e w3 ⟨rfl, s3, k3⟩)
    | (go_at_call 14; refine (A3.out b _ s3).mono ?_; clear A3; rintro e w4 ⟨rfl, s4, k4⟩)
    | (go_at_call 14; refine (A4.out b _ s4).mono ?_; clear A4; rintro e w5 ⟨rfl, s5, k5⟩)
    | (go_at_call 19; refine (A5.out b _ s5).mono ?_; clear A5; rintro e w6 ⟨rfl, rfl⟩)
    | (go_at_call 34; refine (A6.out b _ s5).mono ?_; clear A6; rintro e w7 ⟨rfl, k7⟩; have s7 := s5.keep0 k7)
    | (go_at_call 35; refine (A7.out b _ (s7.keep0 (Keep.alloc1 _ _))).mono ?_; clear A7; rintro e w8 ⟨rfl, k8⟩; have s8 := (s7.keep0 (Keep.alloc1 _ _)).keep0 k8)
    | (go_at_call 16; refine (A8.out b _ s8).mono ?_; clear A8; rintro e w9 ⟨rfl, s9, k9⟩)
    | (go_at_call 16; refine (A9.out b _ s9).mono ?_; clear A9; rintro e w10 ⟨rfl, s10, k10⟩))
  go_ret
  refine ⟨rfl, ?_⟩
  have g1 : Keep [b] w w5 := (((k1.mono (by simp)).trans' k2).trans' (k3.trans' k4)).trans' k5
  have g2 : Keep [b] w w8 := ((g1.trans' (k7.mono (by simp))).alloc _).trans' (k8.mono (by simp))
  exact ((g2.trans' k9).trans' k10).mono (by intro y hy; simp at hy; subst hy; exact .inr hb)

end Go.Proofs.Ytkelhglflpdpeaa
