/- Are two reals one: the program's Same. -/
import Derived.Test.YtnjbdaonmgadaaaGreatDoorCmpN
namespace Go.Proofs.YtnjbdaonmgadaaaGreatDoor
open Go.RowKit Go.PlainAid

def belowB (x : Nat) : Bool := !nanB x && decide (2147483648 ≤ x)

theorem drewN_drewN (w : World) (a b : Nat) : (w.drewN a).drewN b = w.drewN (a + b) := by
  simp [World.drewN]
  omega

set_option maxRecDepth 100000 in
theorem below0_any (x : Nat) (h : x < 4294967296) (w : World) : Calls Tryz.prog 16 #[.float .f32 x] w fun e w' => e = .returned (.bool (belowB x)) ∧ w' = w := by
  have hN := isNan_any x
  have hfb := run_f32bits x w
  have h31 := and31 x h
  unfold belowB
  cases hx : nanB x <;> rw [hx] at hN
  · by_cases hb : 2147483648 ≤ x
    · rw [if_pos hb] at h31
      have ht : (bits .and .u32 (x : Int) 2147483648 != 0) = true := by rw [h31]; rfl
      rw [show decide (2147483648 ≤ x) = true by simpa using hb]
      clear h31 hb
      go_enter Tryz.func16, Tryz.ntmps16
      go_wp2_with (first | (go_at_call 15; refine (hN _).mono ?_; rintro e9 w9 ⟨rfl, hw9⟩; obtain rfl := hw9.symm))
      go_ret
      exact ⟨rfl, rfl⟩
    · rw [if_neg hb] at h31
      have ht : (bits .and .u32 (x : Int) 2147483648 != 0) = false := by rw [h31]; rfl
      rw [show decide (2147483648 ≤ x) = false by simpa using hb]
      clear h31 hb
      go_enter Tryz.func16, Tryz.ntmps16
      go_wp2_with (first | (go_at_call 15; refine (hN _).mono ?_; rintro e9 w9 ⟨rfl, hw9⟩; obtain rfl := hw9.symm))
      go_ret
      exact ⟨rfl, rfl⟩
  · clear hfb h31
    go_enter Tryz.func16, Tryz.ntmps16
    go_wp2_with (first | (go_at_call 15; refine (hN _).mono ?_; rintro e9 w9 ⟨rfl, hw9⟩; obtain rfl := hw9.symm))
    go_ret
    exact ⟨rfl, rfl⟩

/-- equal as numbers; nan equals none -/
def eqB (a b : Nat) : Bool := !nanB a && !nanB b && decide (svalZ a = svalZ b)
theorem eq_any (a b : Nat) : (FloatKind.f32.format.order a b == some Ordering.eq) = eqB a b := by
  unfold eqB
  cases ha : nanB a
  · cases hb : nanB b
    · rw [(ord_facts a b ha hb).2.2]; rfl
    · show (Ieee.single.order a b == some Ordering.eq) = _
      rw [order_any, if_pos (.inr (by simpa [nanB, rungN] using hb))]
      rfl
  · show (Ieee.single.order a b == some Ordering.eq) = _
    rw [order_any, if_pos (.inl (by simpa [nanB, rungN] using ha))]
    rfl

def sameR (a b : Nat) : Bool := nanB a && nanB b || eqB a b && (belowB a == belowB b)

set_option maxRecDepth 100000 in
set_option maxHeartbeats 1600000 in
theorem realSame_any (a b : Nat) (ha : a < 4294967296) (hb : b < 4294967296) (w : World) : Calls Tryz.prog 9 #[.float .f32 a, .float .f32 b] w fun e w' => e = .returned (.bool (sameR a b)) ∧ w' = w := by
  have hA := isNan_any a
  have hB := isNan_any b
  have hC := below0_any a ha
  have hD := below0_any b hb
  have hE := eq_any a b
  unfold sameR
  generalize belowB a = p at hC ⊢
  generalize belowB b = q at hD ⊢
  generalize eqB a b = r at hE ⊢
  cases h1 : nanB a <;> rw [h1] at hA
  · cases r
    · go_enter Tryz.func9, Tryz.ntmps9
      go_wp2_with (first | (go_at_call_of 15 a; refine (hA _).mono ?_; rintro e9 w9 ⟨rfl, hw9⟩; obtain rfl := hw9.symm))
      go_ret
      exact ⟨rfl, rfl⟩
    · cases p <;> cases q
      all_goals
        go_enter Tryz.func9, Tryz.ntmps9
        go_wp2_with (first | (go_at_call 15; refine (hA _).mono ?_; rintro e9 w9 ⟨rfl, hw9⟩; obtain rfl := hw9.symm) | (go_at_call_of 16 a; refine (hC _).mono ?_; rintro e9 w9 ⟨rfl, hw9⟩; obtain rfl := hw9.symm) | (go_at_call 16; refine (hD _).mono ?_; rintro e9 w9 ⟨rfl, hw9⟩; obtain rfl := hw9.symm))
        go_ret
        exact ⟨rfl, rfl⟩
  · cases h2 : nanB b <;> rw [h2] at hB
    · cases r
      · go_enter Tryz.func9, Tryz.ntmps9
        go_wp2_with (first | (go_at_call_of 15 a; refine (hA _).mono ?_; rintro e9 w9 ⟨rfl, hw9⟩; obtain rfl := hw9.symm) | (go_at_call 15; refine (hB _).mono ?_; rintro e9 w9 ⟨rfl, hw9⟩; obtain rfl := hw9.symm))
        go_ret
        exact ⟨rfl, rfl⟩
      · cases p <;> cases q
        all_goals
          go_enter Tryz.func9, Tryz.ntmps9
          go_wp2_with (first | (go_at_call_of 15 a; refine (hA _).mono ?_; rintro e9 w9 ⟨rfl, hw9⟩; obtain rfl := hw9.symm) | (go_at_call 15; refine (hB _).mono ?_; rintro e9 w9 ⟨rfl, hw9⟩; obtain rfl := hw9.symm) | (go_at_call_of 16 a; refine (hC _).mono ?_; rintro e9 w9 ⟨rfl, hw9⟩; obtain rfl := hw9.symm) | (go_at_call 16; refine (hD _).mono ?_; rintro e9 w9 ⟨rfl, hw9⟩; obtain rfl := hw9.symm))
          go_ret
          exact ⟨rfl, rfl⟩
    · go_enter Tryz.func9, Tryz.ntmps9
      go_wp2_with (first | (go_at_call_of 15 a; refine (hA _).mono ?_; rintro e9 w9 ⟨rfl, hw9⟩; obtain rfl := hw9.symm) | (go_at_call 15; refine (hB _).mono ?_; rintro e9 w9 ⟨rfl, hw9⟩; obtain rfl := hw9.symm))
      go_ret
      exact ⟨rfl, rfl⟩


end Go.Proofs.YtnjbdaonmgadaaaGreatDoor

