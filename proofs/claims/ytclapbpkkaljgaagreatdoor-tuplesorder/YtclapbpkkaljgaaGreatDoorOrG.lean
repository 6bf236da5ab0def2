/- The keys of two tuples; the boxes of three. -/
import Derived.Test.YtclapbpkkaljgaaGreatDoorOrD
import Derived.Test.YtclapbpkkaljgaaGreatDoorOrM
import Derived.Deep.Cut
import Derived.Deep.RegionWith
import Derived.Deep.QuietTactic
import Derived.BigQuiet
namespace Go.Proofs.YtclapbpkkaljgaaGreatDoor
open Go.RowKit Go.PlainAid

set_option maxRecDepth 1000000 in
theorem tkey_any (x y : K7) (u v : Value) (w : World) : Calls Tryz.prog 6 #[x.tup u, y.tup v] w fun e w' => e = .returned (.bool (tkeyB x y)) ∧ Keep [] w w' := by
  obtain ⟨a, b, c, d, e, f, h⟩ := x
  obtain ⟨a', b', c', d', e', f', h'⟩ := y
  go_enter Tryz.func6, Tryz.ntmps6
  go_wp2
  all_goals
    go_ret
    exact ⟨ret_bool (by simp [tkeyB, *]), (Keep.alloc1 w _).alloc _⟩

/-- the boxes of three tuples -/
structure G3 (w : World) (n : Nat) (x y z : K7) (u v t : Value) : Prop where
  a0 : w.cell? ⟨n, 0, none⟩ = some (.string x.a)
  a1 : w.cell? ⟨n, 1, none⟩ = some (.string x.b)
  a2 : w.cell? ⟨n, 2, none⟩ = some (.string x.c)
  a3 : w.cell? ⟨n, 3, none⟩ = some (.string x.d)
  a4 : w.cell? ⟨n, 4, none⟩ = some (.string x.e)
  a5 : w.cell? ⟨n, 5, none⟩ = some (.string x.f)
  a6 : w.cell? ⟨n, 6, none⟩ = some (.string x.g)
  a7 : w.cell? ⟨n, 7, none⟩ = some u
  b0 : w.cell? ⟨n + 1, 0, none⟩ = some (.string y.a)
  b1 : w.cell? ⟨n + 1, 1, none⟩ = some (.string y.b)
  b2 : w.cell? ⟨n + 1, 2, none⟩ = some (.string y.c)
  b3 : w.cell? ⟨n + 1, 3, none⟩ = some (.string y.d)
  b4 : w.cell? ⟨n + 1, 4, none⟩ = some (.string y.e)
  b5 : w.cell? ⟨n + 1, 5, none⟩ = some (.string y.f)
  b6 : w.cell? ⟨n + 1, 6, none⟩ = some (.string y.g)
  b7 : w.cell? ⟨n + 1, 7, none⟩ = some v
  c0 : w.cell? ⟨n + 2, 0, none⟩ = some (.string z.a)
  c1 : w.cell? ⟨n + 2, 1, none⟩ = some (.string z.b)
  c2 : w.cell? ⟨n + 2, 2, none⟩ = some (.string z.c)
  c3 : w.cell? ⟨n + 2, 3, none⟩ = some (.string z.d)
  c4 : w.cell? ⟨n + 2, 4, none⟩ = some (.string z.e)
  c5 : w.cell? ⟨n + 2, 5, none⟩ = some (.string z.f)
  c6 : w.cell? ⟨n + 2, 6, none⟩ = some (.string z.g)
  c7 : w.cell? ⟨n + 2, 7, none⟩ = some t
theorem G3.keep {w w' : World} {n : Nat} {x y z : K7} {u v t : Value} (h : G3 w n x y z u v t) (k : Keep [] w w') : G3 w' n x y z u v t :=
  ⟨k.cell' h.a0 (by simp), k.cell' h.a1 (by simp), k.cell' h.a2 (by simp), k.cell' h.a3 (by simp), k.cell' h.a4 (by simp), k.cell' h.a5 (by simp), k.cell' h.a6 (by simp), k.cell' h.a7 (by simp), k.cell' h.b0 (by simp), k.cell' h.b1 (by simp), k.cell' h.b2 (by simp), k.cell' h.b3 (by simp), k.cell' h.b4 (by simp), k.cell' h.b5 (by simp), k.cell' h.b6 (by simp), k.cell' h.b7 (by simp), k.cell' h.c0 (by simp), k.cell' h.c1 (by simp), k.cell' h.c2 (by simp), k.cell' h.c3 (by simp), k.cell' h.c4 (by simp), k.cell' h.c5 (by simp), k.cell' h.c6 (by simp), k.cell' h.c7 (by simp)⟩
theorem G3.first {w w' : World} {x y z : K7} {u v t : Value} (k : Keep [] (((w.alloc (.cells #[.string x.a, .string x.b, .string x.c, .string x.d, .string x.e, .string x.f, .string x.g, u] 28)).alloc (.cells #[.string y.a, .string y.b, .string y.c, .string y.d, .string y.e, .string y.f, .string y.g, v] 28)).alloc (.cells #[.string z.a, .string z.b, .string z.c, .string z.d, .string z.e, .string z.f, .string z.g, t] 28)) w') : G3 w' w.heap.size x y z u v t ∧ Keep [] w w' := by
  refine ⟨G3.keep ⟨?_, ?_, ?_, ?_, ?_, ?_, ?_, ?_, ?_, ?_, ?_, ?_, ?_, ?_, ?_, ?_, ?_, ?_, ?_, ?_, ?_, ?_, ?_, ?_⟩ k, ((((Keep.refl _ _).alloc _).alloc _).alloc _).trans' k⟩ <;> simp [go_sem]

end Go.Proofs.YtclapbpkkaljgaaGreatDoor
