/- Values as they were: SameValue, KeptValue. -/
import Derived.Test.YtbflhpafejmelaaLtC
namespace Go.Proofs.Ytbflhpafejmelaa
open Go.RowKit Go.PlainAid

set_option maxRecDepth 1000000 in
set_option maxHeartbeats 1600000 in
theorem sameValue_self (p : VD) (u v : Value) (w : World) (hu : Ts w u p.texts) (hv : Ts w v p.texts) :
    Calls Try.prog 51 #[p.val u, p.val v] w fun e w' => e = .returned (.bool true) ∧ Keep [] w w' := by
  have hT := fun w1 (k : Keep [] w w1) => sameTexts_self u v p.texts w1 (hu.keep k (Off.nil _)) (hv.keep k (Off.nil _))
  obtain ⟨ao, ca, rfl, _, _, _, _⟩ := hu.ex
  obtain ⟨bo, cb, rfl, _, _, _, _⟩ := hv.ex
  clear hu hv
  obtain ⟨kd, b, n, x, t, ts⟩ := p
  simp only [] at hT ⊢
  have hR := sameReal_self x
  have e1 : (kd == kd) = true := by simp
  have e2 : (b == b) = true := by simp
  have e3 : (n == n) = true := by simp
  have e4 : (t.toList == t.toList) = true := by simp
  have K0 : Hid (Keep [] w ((w.alloc (.cells #[.int .i64 kd, .bool b, .int .i64 n, .float .f32 x, .string t, .slice ao ts.length ca] 47)).alloc (.cells #[.int .i64 kd, .bool b, .int .i64 n, .float .f32 x, .string t, .slice bo ts.length cb] 47))) := (Keep.alloc1 w _).alloc _
  cases h3 : (kd == 3)
  · have h3' : (kd != 3) = true := by simp [bne, h3]
    cases hq : (FloatKind.f32.format.order x x == some Ordering.eq)
    all_goals
      go_enter Try.func51, Try.ntmps51
      go_wp2_with (first
        | (go_at_call 43; refine (hR _).mono ?_; rintro e9 w9 ⟨rfl, hw9⟩; obtain rfl := hw9.symm)
        | (go_at_call 56; refine (hT _ K0.out).mono ?_; rintro e9 w9 ⟨rfl, n9, rfl⟩))
      go_ret
      exact ⟨rfl, K0.out.drewN _⟩
  · have h3' : (kd != 3) = false := by simp [bne, h3]
    go_enter Try.func51, Try.ntmps51
    go_wp2_with (first
      | (go_at_call 43; refine (hR _).mono ?_; rintro e9 w9 ⟨rfl, hw9⟩; obtain rfl := hw9.symm)
      | (go_at_call 56; refine (hT _ K0.out).mono ?_; rintro e9 w9 ⟨rfl, n9, rfl⟩))
    go_ret
    exact ⟨rfl, K0.out.drewN _⟩

end Go.Proofs.Ytbflhpafejmelaa


