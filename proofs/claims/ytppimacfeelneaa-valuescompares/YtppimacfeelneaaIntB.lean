/- The document's Finite. -/
import Derived.Test.YtppimacfeelneaaIntA
import Derived.Test.YtppimacfeelneaaSum
import Derived.Test.YtppimacfeelneaaNanW
namespace Go.Proofs.Ytppimacfeelneaa
open Go.RowKit Go.PlainAid

theorem negN_facts (x : Nat) (h : x < 4294967296) : negN (negN x) = x ∧ negN x < 4294967296 ∧ rungN (negN x) = rungN x ∧ svalZ (negN x) = -svalZ x ∧ ((x / 2147483648 % 2 == 1) && (negN x / 2147483648 % 2 == 1)) = false := by
  by_cases hx : 2147483648 ≤ x
  · have e : negN x = x - 2147483648 := by unfold negN; rw [if_pos hx]
    have hr : rungN (x - 2147483648) = rungN x := by unfold rungN; omega
    rw [e]
    refine ⟨by unfold negN; rw [if_neg (by omega)]; omega, by omega, hr, ?_, ?_⟩
    · unfold svalZ
      rw [hr, if_neg (by omega), if_pos (by omega)]
      omega
    · rw [show (x - 2147483648) / 2147483648 = 0 by omega]
      simp
  · have e : negN x = x + 2147483648 := by unfold negN; rw [if_neg hx]
    have hr : rungN (x + 2147483648) = rungN x := by unfold rungN; omega
    rw [e]
    refine ⟨by unfold negN; rw [if_pos (by omega)]; omega, by omega, hr, ?_, ?_⟩
    · unfold svalZ
      rw [hr, if_pos (by omega), if_neg (by omega)]
    · rw [show x / 2147483648 = 0 by omega]
      simp

theorem sub_self_fin (x : Nat) (h : x < 4294967296) (hf : rungN x < 2139095040) : floatBits .sub .f32 x x = some 0 := by
  obtain ⟨h1, h2, h3, h4, h5⟩ := negN_facts x h
  show Ieee.single.sub x x = some 0
  have e := sub_neg x (negN x) h2
  rw [h1] at e
  rw [e, add_num x (negN x) hf (by rw [h3]; exact hf), h4, show svalZ x + -svalZ x = 0 by omega, if_pos rfl, h5]
  decide

theorem sub_self_inf (x : Nat) (hf : ¬ rungN x < 2139095040) : floatBits .sub .f32 x x = none := by
  show Ieee.single.sub x x = none
  unfold Ieee.Format.sub
  by_cases h : rungN x = 2139095040
  · rw [read_inf x h]
    cases (x / 2147483648 % 2 == 1) <;> rfl
  · obtain ⟨f, r⟩ := read_nan x (by omega)
    rw [r]; rfl

set_option maxRecDepth 1000000 in
theorem finite_any (x : Nat) (h : x < 4294967296) (w : World) : Calls Try.prog 78 #[.float .f32 x] w fun e w' => e = .returned (.bool (finB x)) ∧ ∃ n, w' = w.drewN n := by
  by_cases hf : rungN x < 2139095040
  · have hb : finB x = true := by unfold finB; simpa using hf
    rw [hb]
    have hr := fun w => run_float_arith (P := Try.prog) w .sub 26 .f32 x x 0 (sub_self_fin x h hf)
    have hq : (FloatKind.f32.format.order 0 0 == some Ordering.eq) = true := by decide
    go_enter Try.func78, Try.ntmps78
    go_wp2
    go_ret
    exact ⟨rfl, 0, rfl⟩
  · have hb : finB x = false := by unfold finB; simpa using hf
    rw [hb]
    obtain ⟨r, hr1, hr2⟩ := run_nan .sub x x (sub_self_inf x hf) (by simp)
    have hq : ∀ w, (FloatKind.f32.format.order (r w) 0 == some Ordering.eq) = false := fun w => by
      show (Ieee.single.order (r w) 0 == some Ordering.eq) = false
      have hn : 2139095040 < rungN (r w) := by have := (hr1 w).1; simpa [nanB, rungN] using this
      rw [order_any, if_pos (.inl hn)]
      rfl
    go_enter Try.func78, Try.ntmps78
    go_wp2
    go_ret
    exact ⟨rfl, 1, rfl⟩
end Go.Proofs.Ytppimacfeelneaa

