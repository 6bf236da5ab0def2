/- Comparing is an order where it can be asked: ValuesOrder answers true. -/
import Derived.Test.YtppimacfeelneaaOrdV
namespace Go.Proofs.Ytppimacfeelneaa
open Go.RowKit Go.PlainAid Go.Lib

theorem three_cells {w w1 : World} {v0 v1 v2 v3 v4 v5 u0 u1 u2 u3 u4 u5 t0 t1 t2 t3 t4 t5 : Value} {t t' t'' : TypeId} (k : Keep [] (((w.alloc (.cells #[v0, v1, v2, v3, v4, v5] t)).alloc (.cells #[u0, u1, u2, u3, u4, u5] t')).alloc (.cells #[t0, t1, t2, t3, t4, t5] t'')) w1) :
    (w1.cell? ⟨w.heap.size, 0, none⟩ = some v0 ∧ w1.cell? ⟨w.heap.size, 1, none⟩ = some v1 ∧ w1.cell? ⟨w.heap.size, 2, none⟩ = some v2 ∧ w1.cell? ⟨w.heap.size, 3, none⟩ = some v3 ∧ w1.cell? ⟨w.heap.size, 4, none⟩ = some v4 ∧ w1.cell? ⟨w.heap.size, 5, none⟩ = some v5) ∧
    (w1.cell? ⟨w.heap.size + 1, 0, none⟩ = some u0 ∧ w1.cell? ⟨w.heap.size + 1, 1, none⟩ = some u1 ∧ w1.cell? ⟨w.heap.size + 1, 2, none⟩ = some u2 ∧ w1.cell? ⟨w.heap.size + 1, 3, none⟩ = some u3 ∧ w1.cell? ⟨w.heap.size + 1, 4, none⟩ = some u4 ∧ w1.cell? ⟨w.heap.size + 1, 5, none⟩ = some u5) ∧
    (w1.cell? ⟨w.heap.size + 1 + 1, 0, none⟩ = some t0 ∧ w1.cell? ⟨w.heap.size + 1 + 1, 1, none⟩ = some t1 ∧ w1.cell? ⟨w.heap.size + 1 + 1, 2, none⟩ = some t2 ∧ w1.cell? ⟨w.heap.size + 1 + 1, 3, none⟩ = some t3 ∧ w1.cell? ⟨w.heap.size + 1 + 1, 4, none⟩ = some t4 ∧ w1.cell? ⟨w.heap.size + 1 + 1, 5, none⟩ = some t5) := by
  refine ⟨⟨k.cell' ?_ (by simp), k.cell' ?_ (by simp), k.cell' ?_ (by simp), k.cell' ?_ (by simp), k.cell' ?_ (by simp), k.cell' ?_ (by simp)⟩, ⟨k.cell' ?_ (by simp), k.cell' ?_ (by simp), k.cell' ?_ (by simp), k.cell' ?_ (by simp), k.cell' ?_ (by simp), k.cell' ?_ (by simp)⟩, ⟨k.cell' ?_ (by simp), k.cell' ?_ (by simp), k.cell' ?_ (by simp), k.cell' ?_ (by simp), k.cell' ?_ (by simp), k.cell' ?_ (by simp)⟩⟩ <;> simp [go_sem]

theorem number_any (p : VD) (u : Value) (hu : ∃ a n c, u = .slice a n c) (w : World) : Calls Try.prog 23 #[p.val u] w fun e w' => e = .returned (.bool (numB p)) ∧ Keep [] w w' := by
  obtain ⟨a, n, c, rfl⟩ := hu
  unfold numB
  by_cases h2 : p.kind = 2
  · have g2 : (p.kind == 2) = true := by simpa using h2
    rw [g2]
    clear h2
    go_enter Try.func23, Try.ntmps23
    go_wp2
    go_ret
    exact ⟨rfl, Keep.alloc1 w _⟩
  · have g2 : (p.kind == 2) = false := by simpa using h2
    rw [g2]
    clear h2
    cases g3 : (p.kind == 3)
    all_goals
      go_enter Try.func23, Try.ntmps23
      go_wp2
      go_ret
      exact ⟨rfl, Keep.alloc1 w _⟩

def onePt : VD := ⟨2, false, 1, 0, ⟨#[]⟩, []⟩
def halfPt : VD := ⟨3, false, 0, 1069547520, ⟨#[]⟩, []⟩
theorem one_half : cmpV onePt halfPt = (-1, true) := by decide
theorem one_half_any (w : World) : Calls Try.prog 13 #[.agg #[.int .i64 2, .bool false, .int .i64 1, .float .f32 0, .string ⟨#[]⟩, .slice none 0 0], .agg #[.int .i64 3, .bool false, .int .i64 0, .float .f32 1069547520, .string ⟨#[]⟩, .slice none 0 0]] w fun e w' => e = .returned (.tuple #[.int .i64 (-1), .bool true]) ∧ Keep [] w w' := by
  have h := compare_any onePt halfPt ⟨by decide, by decide, by decide, by decide, by decide, Nat.zero_le _⟩ ⟨by decide, by decide, by decide, by decide, by decide, Nat.zero_le _⟩ (.slice none 0 0) (.slice none 0 0) w (Ts.nil _) (Ts.nil _)
  rw [one_half] at h
  exact h

end Go.Proofs.Ytppimacfeelneaa
