/- An operation on reals that has no answer draws one that is no number. -/
import Derived.Test.YtppimacfeelneaaFloN
namespace Go.Proofs.Ytppimacfeelneaa
open Go.RowKit Go.PlainAid

theorem nan_aux (p q : Nat) (hp : p < 2) (hq : q < 8388607) : 2139095040 < (p * 2147483648 + 2139095040 + 1 + q) % 2147483648 ∧ p * 2147483648 + 2139095040 + 1 + q < 4294967296 := by
  have : p = 0 ∨ p = 1 := by omega
  rcases this with rfl | rfl <;> omega
theorem cut_nan (x y t : Nat) : nanB (Question.cut (.nanBits .f32 x y) t) = true ∧ Question.cut (.nanBits .f32 x y) t < 4294967296 := by
  unfold nanB
  simp only [Question.cut, Nat.reducePow, Nat.reduceSub]
  obtain ⟨h1, h2⟩ := nan_aux (t % 2) (t / 2 % 8388607) (Nat.mod_lt _ (by decide)) (Nat.mod_lt _ (by decide))
  exact ⟨decide_eq_true h1, h2⟩
/-- an operation that has no answer draws one that is no number -/
theorem run_nan (op : BinOp) (x y : Nat) (h : floatBits op .f32 x y = none) (ho : op = .add ∨ op = .sub ∨ op = .mul ∨ op = .quo) :
    ∃ r : World → Nat, (∀ w, nanB (r w) = true ∧ r w < 4294967296) ∧ ∀ w, (binOp op 26 (.float .f32 x) (.float .f32 y)).run Try.prog w = .ok (.float .f32 (r w)) w.drew := by
  refine ⟨fun w => Question.cut (.nanBits .f32 x y) (w.tape w.drawn (.nanBits .f32 x y)), fun w => ?_, fun w => ?_⟩
  · exact cut_nan x y _
  · rcases ho with rfl | rfl | rfl | rfl
    all_goals
      have h' := h
      simp only [floatBits] at h'
      simp [binOp, Op.floatArith, h', Question.forced, go_sem]

end Go.Proofs.Ytppimacfeelneaa

