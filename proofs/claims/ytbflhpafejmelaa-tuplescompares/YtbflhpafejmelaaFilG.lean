/- The walk of TuplesFilters. -/
import Derived.Test.YtbflhpafejmelaaLetW
import Derived.Deep.RegionHeld3
namespace Go.Proofs.Ytbflhpafejmelaa
open Go.RowKit Go.PlainAid

/-- the boxes of the filter and of the tuple -/
structure Two (w : World) (n : Nat) (x y : K7) (u : Value) : Prop where
  f0 : w.cell? ⟨n, 0, none⟩ = some (.string x.a)
  f1 : w.cell? ⟨n, 1, none⟩ = some (.string x.b)
  f2 : w.cell? ⟨n, 2, none⟩ = some (.string x.c)
  f3 : w.cell? ⟨n, 3, none⟩ = some (.string x.d)
  f4 : w.cell? ⟨n, 4, none⟩ = some (.string x.e)
  f5 : w.cell? ⟨n, 5, none⟩ = some (.string x.f)
  f6 : w.cell? ⟨n, 6, none⟩ = some (.string x.g)
  t0 : w.cell? ⟨n + 1, 0, none⟩ = some (.string y.a)
  t1 : w.cell? ⟨n + 1, 1, none⟩ = some (.string y.b)
  t2 : w.cell? ⟨n + 1, 2, none⟩ = some (.string y.c)
  t3 : w.cell? ⟨n + 1, 3, none⟩ = some (.string y.d)
  t4 : w.cell? ⟨n + 1, 4, none⟩ = some (.string y.e)
  t5 : w.cell? ⟨n + 1, 5, none⟩ = some (.string y.f)
  t6 : w.cell? ⟨n + 1, 6, none⟩ = some (.string y.g)
  t7 : w.cell? ⟨n + 1, 7, none⟩ = some u
theorem Two.keep {w w' : World} {n : Nat} {x y : K7} {u : Value} (h : Two w n x y u) (k : Keep [] w w') : Two w' n x y u :=
  ⟨k.cell' h.f0 (by simp), k.cell' h.f1 (by simp), k.cell' h.f2 (by simp), k.cell' h.f3 (by simp), k.cell' h.f4 (by simp), k.cell' h.f5 (by simp), k.cell' h.f6 (by simp), k.cell' h.t0 (by simp), k.cell' h.t1 (by simp), k.cell' h.t2 (by simp), k.cell' h.t3 (by simp), k.cell' h.t4 (by simp), k.cell' h.t5 (by simp), k.cell' h.t6 (by simp), k.cell' h.t7 (by simp)⟩
theorem Two.first {w w' : World} {x y : K7} {u : Value} (k : Keep [] ((w.alloc (.cells #[.string x.a, .string x.b, .string x.c, .string x.d, .string x.e, .string x.f, .string x.g] 33)).alloc (.cells #[.string y.a, .string y.b, .string y.c, .string y.d, .string y.e, .string y.f, .string y.g, u] 28)) w') : Two w' w.heap.size x y u ∧ Keep [] w w' := by
  refine ⟨Two.keep ⟨?_, ?_, ?_, ?_, ?_, ?_, ?_, ?_, ?_, ?_, ?_, ?_, ?_, ?_, ?_⟩ k, (((Keep.refl _ _).alloc _).alloc _).trans' k⟩ <;> simp [go_sem]
theorem Two.lt {w : World} {n : Nat} {x y : K7} {u : Value} (h : Two w n x y u) : n + 1 < w.heap.size := World.block_lt_of_cell? w _ h.t0
theorem Two.off {w0 w : World} {x y : K7} {u : Value} (h : Two w w0.heap.size x y u) (k : Keep [] w0 w) : w0.heap.size ≤ w.heap.size ∧ ¬ w.heap.size = w0.heap.size + 1 ∧ ¬ w0.heap.size + 1 = w.heap.size := by
  have := h.lt
  have := k.size
  omega
theorem Two.box {w : World} {n : Nat} {x y : K7} {u : Value} (h : Two w n x y u) : (∀ X, (w.alloc X).cell? ⟨n + 1, 0, none⟩ = some (.string y.a)) ∧ (∀ X, (w.alloc X).cell? ⟨n + 1, 1, none⟩ = some (.string y.b)) ∧ (∀ X, (w.alloc X).cell? ⟨n + 1, 2, none⟩ = some (.string y.c)) ∧ (∀ X, (w.alloc X).cell? ⟨n + 1, 3, none⟩ = some (.string y.d)) ∧ (∀ X, (w.alloc X).cell? ⟨n + 1, 4, none⟩ = some (.string y.e)) ∧ (∀ X, (w.alloc X).cell? ⟨n + 1, 5, none⟩ = some (.string y.f)) ∧ (∀ X, (w.alloc X).cell? ⟨n + 1, 6, none⟩ = some (.string y.g)) ∧ ∀ X, (w.alloc X).cell? ⟨n + 1, 7, none⟩ = some u :=
  ⟨fun X => (h.keep (Keep.alloc1 w X)).t0, fun X => (h.keep (Keep.alloc1 w X)).t1, fun X => (h.keep (Keep.alloc1 w X)).t2, fun X => (h.keep (Keep.alloc1 w X)).t3, fun X => (h.keep (Keep.alloc1 w X)).t4, fun X => (h.keep (Keep.alloc1 w X)).t5, fun X => (h.keep (Keep.alloc1 w X)).t6, fun X => (h.keep (Keep.alloc1 w X)).t7⟩
/-- the box of the tuple's own filter -/
structure G7 (w : World) (n : Nat) (y : K7) : Prop where
  g0 : w.cell? ⟨n, 0, none⟩ = some (.string y.a)
  g1 : w.cell? ⟨n, 1, none⟩ = some (.string y.b)
  g2 : w.cell? ⟨n, 2, none⟩ = some (.string y.c)
  g3 : w.cell? ⟨n, 3, none⟩ = some (.string y.d)
  g4 : w.cell? ⟨n, 4, none⟩ = some (.string y.e)
  g5 : w.cell? ⟨n, 5, none⟩ = some (.string y.f)
  g6 : w.cell? ⟨n, 6, none⟩ = some (.string y.g)
theorem G7.first {w w' : World} {a b c d e f g : ByteArray} (k : Keep [] (w.alloc (.cells #[.string a, .string b, .string c, .string d, .string e, .string f, .string g] 33)) w') : G7 w' w.heap.size ⟨a, b, c, d, e, f, g⟩ ∧ ∀ j, w'.frozen? ⟨w.heap.size, j, none⟩ = false := by
  refine ⟨⟨k.cell' ?_ (by simp), k.cell' ?_ (by simp), k.cell' ?_ (by simp), k.cell' ?_ (by simp), k.cell' ?_ (by simp), k.cell' ?_ (by simp), k.cell' ?_ (by simp)⟩, ?_⟩
  case refine_8 =>
    intro j
    rw [k.frozen (by simp) (by simp)]
    simp [go_sem]
  all_goals simp [go_sem]
theorem lets_of {a b c d e f g a' b' c' d' e' f' g' : ByteArray} {p1 p2 p3 p4 p5 p6 p7 : Bool} (h1 : okB a a' = p1) (h2 : okB b b' = p2) (h3 : okB c c' = p3) (h4 : okB d d' = p4) (h5 : okB e e' = p5) (h6 : okB f f' = p6) (h7 : okB g g' = p7) : letsB ⟨a, b, c, d, e, f, g⟩ ⟨a', b', c', d', e', f', g'⟩ = (p1 && (p2 && (p3 && (p4 && (p5 && (p6 && p7)))))) := by
  subst h1 h2 h3 h4 h5 h6 h7
  rfl
theorem okB_more (s : ByteArray) : okB (s ++ ⟨#[120]⟩) s = false := by
  have h1 : (s ++ (⟨#[120]⟩ : ByteArray)).toList = s.toList ++ [120] := by
    rw [ByteArray.toList_eq, ByteArray.toList_eq, ByteArray.data_append]; simp
  unfold okB
  rw [h1]
  simp
end Go.Proofs.Ytbflhpafejmelaa
