/- What an interface holds is told: the type switch's steps. -/
import Derived.Test.YtppimacfeelneaaDcA
namespace Go.Proofs.Ytppimacfeelneaa
open Go.RowKit Go.PlainAid Go.Lib

theorem ta_4_4 (v : Value) (w : World) : (Instr.typeAssert (.iface 4 v) 20 4 true).run Try.prog w = .ok (.tuple #[v, .bool true]) w := by
  simp [Instr.typeAssert, run_underlying Try.underlying4, go_sem, Result.andThen]
theorem ta_2_4 (v : Value) (w : World) : (Instr.typeAssert (.iface 2 v) 20 4 true).run Try.prog w = .ok (.tuple #[.bool false, .bool false]) w := by
  have hz : (zeroValue 4).run Try.prog w = .ok (.bool false) w := by kernel_rfl
  simp [Instr.typeAssert, run_underlying Try.underlying4, go_sem, Result.andThen, hz]
theorem ta_2_2 (v : Value) (w : World) : (Instr.typeAssert (.iface 2 v) 20 2 true).run Try.prog w = .ok (.tuple #[v, .bool true]) w := by
  simp [Instr.typeAssert, run_underlying Try.underlying2, go_sem, Result.andThen]
theorem ta_26_4 (v : Value) (w : World) : (Instr.typeAssert (.iface 26 v) 20 4 true).run Try.prog w = .ok (.tuple #[.bool false, .bool false]) w := by
  have hz : (zeroValue 4).run Try.prog w = .ok (.bool false) w := by kernel_rfl
  simp [Instr.typeAssert, run_underlying Try.underlying4, go_sem, Result.andThen, hz]
theorem ta_26_2 (v : Value) (w : World) : (Instr.typeAssert (.iface 26 v) 20 2 true).run Try.prog w = .ok (.tuple #[.int .i64 0, .bool false]) w := by
  have hz : (zeroValue 2).run Try.prog w = .ok (.int .i64 0) w := by kernel_rfl
  simp [Instr.typeAssert, run_underlying Try.underlying2, go_sem, Result.andThen, hz]
theorem ta_26_26 (v : Value) (w : World) : (Instr.typeAssert (.iface 26 v) 20 26 true).run Try.prog w = .ok (.tuple #[v, .bool true]) w := by
  simp [Instr.typeAssert, run_underlying Try.underlying26, go_sem, Result.andThen]
theorem ta_9_4 (v : Value) (w : World) : (Instr.typeAssert (.iface 9 v) 20 4 true).run Try.prog w = .ok (.tuple #[.bool false, .bool false]) w := by
  have hz : (zeroValue 4).run Try.prog w = .ok (.bool false) w := by kernel_rfl
  simp [Instr.typeAssert, run_underlying Try.underlying4, go_sem, Result.andThen, hz]
theorem ta_9_2 (v : Value) (w : World) : (Instr.typeAssert (.iface 9 v) 20 2 true).run Try.prog w = .ok (.tuple #[.int .i64 0, .bool false]) w := by
  have hz : (zeroValue 2).run Try.prog w = .ok (.int .i64 0) w := by kernel_rfl
  simp [Instr.typeAssert, run_underlying Try.underlying2, go_sem, Result.andThen, hz]
theorem ta_9_26 (v : Value) (w : World) : (Instr.typeAssert (.iface 9 v) 20 26 true).run Try.prog w = .ok (.tuple #[.float .f32 0, .bool false]) w := by
  have hz : (zeroValue 26).run Try.prog w = .ok (.float .f32 0) w := by kernel_rfl
  simp [Instr.typeAssert, run_underlying Try.underlying26, go_sem, Result.andThen, hz]
theorem ta_9_9 (v : Value) (w : World) : (Instr.typeAssert (.iface 9 v) 20 9 true).run Try.prog w = .ok (.tuple #[v, .bool true]) w := by
  simp [Instr.typeAssert, run_underlying Try.underlying9, go_sem, Result.andThen]
theorem ta_24_4 (v : Value) (w : World) : (Instr.typeAssert (.iface 24 v) 20 4 true).run Try.prog w = .ok (.tuple #[.bool false, .bool false]) w := by
  have hz : (zeroValue 4).run Try.prog w = .ok (.bool false) w := by kernel_rfl
  simp [Instr.typeAssert, run_underlying Try.underlying4, go_sem, Result.andThen, hz]
theorem ta_24_2 (v : Value) (w : World) : (Instr.typeAssert (.iface 24 v) 20 2 true).run Try.prog w = .ok (.tuple #[.int .i64 0, .bool false]) w := by
  have hz : (zeroValue 2).run Try.prog w = .ok (.int .i64 0) w := by kernel_rfl
  simp [Instr.typeAssert, run_underlying Try.underlying2, go_sem, Result.andThen, hz]
theorem ta_24_26 (v : Value) (w : World) : (Instr.typeAssert (.iface 24 v) 20 26 true).run Try.prog w = .ok (.tuple #[.float .f32 0, .bool false]) w := by
  have hz : (zeroValue 26).run Try.prog w = .ok (.float .f32 0) w := by kernel_rfl
  simp [Instr.typeAssert, run_underlying Try.underlying26, go_sem, Result.andThen, hz]
theorem ta_24_9 (v : Value) (w : World) : (Instr.typeAssert (.iface 24 v) 20 9 true).run Try.prog w = .ok (.tuple #[.string ⟨#[]⟩, .bool false]) w := by
  have hz : (zeroValue 9).run Try.prog w = .ok (.string ⟨#[]⟩) w := by kernel_rfl
  simp [Instr.typeAssert, run_underlying Try.underlying9, go_sem, Result.andThen, hz]
theorem ta_24_24 (v : Value) (w : World) : (Instr.typeAssert (.iface 24 v) 20 24 true).run Try.prog w = .ok (.tuple #[v, .bool true]) w := by
  simp [Instr.typeAssert, run_underlying Try.underlying24, go_sem, Result.andThen]
end Go.Proofs.Ytppimacfeelneaa
