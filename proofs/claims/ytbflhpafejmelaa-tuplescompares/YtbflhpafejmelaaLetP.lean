/- The walk of TuplesLets. -/
import Derived.Test.YtbflhpafejmelaaLetR
namespace Go.Proofs.Ytbflhpafejmelaa
open Go.RowKit Go.PlainAid

theorem Two.boxf {w : World} {n : Nat} {x y : K7} {u : Value} (h : Two w n x y u) : (∀ X, (w.alloc X).cell? ⟨n, 0, none⟩ = some (.string x.a)) ∧ (∀ X, (w.alloc X).cell? ⟨n, 1, none⟩ = some (.string x.b)) ∧ (∀ X, (w.alloc X).cell? ⟨n, 2, none⟩ = some (.string x.c)) ∧ (∀ X, (w.alloc X).cell? ⟨n, 3, none⟩ = some (.string x.d)) ∧ (∀ X, (w.alloc X).cell? ⟨n, 4, none⟩ = some (.string x.e)) ∧ (∀ X, (w.alloc X).cell? ⟨n, 5, none⟩ = some (.string x.f)) ∧ (∀ X, (w.alloc X).cell? ⟨n, 6, none⟩ = some (.string x.g)) :=
  ⟨fun X => (h.keep (Keep.alloc1 w X)).f0, fun X => (h.keep (Keep.alloc1 w X)).f1, fun X => (h.keep (Keep.alloc1 w X)).f2, fun X => (h.keep (Keep.alloc1 w X)).f3, fun X => (h.keep (Keep.alloc1 w X)).f4, fun X => (h.keep (Keep.alloc1 w X)).f5, fun X => (h.keep (Keep.alloc1 w X)).f6⟩
/-- a tuple's box -/
structure G8 (w : World) (n : Nat) (y : K7) (u : Value) : Prop where
  i0 : w.cell? ⟨n, 0, none⟩ = some (.string y.a)
  i1 : w.cell? ⟨n, 1, none⟩ = some (.string y.b)
  i2 : w.cell? ⟨n, 2, none⟩ = some (.string y.c)
  i3 : w.cell? ⟨n, 3, none⟩ = some (.string y.d)
  i4 : w.cell? ⟨n, 4, none⟩ = some (.string y.e)
  i5 : w.cell? ⟨n, 5, none⟩ = some (.string y.f)
  i6 : w.cell? ⟨n, 6, none⟩ = some (.string y.g)
  i7 : w.cell? ⟨n, 7, none⟩ = some u
theorem G8.keep {w w' : World} {n : Nat} {y : K7} {u : Value} (h : G8 w n y u) (k : Keep [] w w') : G8 w' n y u :=
  ⟨k.cell' h.i0 (by simp), k.cell' h.i1 (by simp), k.cell' h.i2 (by simp), k.cell' h.i3 (by simp), k.cell' h.i4 (by simp), k.cell' h.i5 (by simp), k.cell' h.i6 (by simp), k.cell' h.i7 (by simp)⟩
theorem G8.first {w w' : World} {a b c d e f g : ByteArray} {u : Value} (k : Keep [] (w.alloc (.cells #[.string a, .string b, .string c, .string d, .string e, .string f, .string g, u] 28)) w') : G8 w' w.heap.size ⟨a, b, c, d, e, f, g⟩ u := by
  refine G8.keep ⟨?_, ?_, ?_, ?_, ?_, ?_, ?_, ?_⟩ k <;> simp [go_sem]

set_option maxRecDepth 1000000 in
set_option maxHeartbeats 3200000 in
theorem lets_law (x y : K7) (u : Value) (l : List AD) (w : World) (hu : As w u l) (hl : l.length * 88 ≤ 140737488351232) (ht : ∀ x ∈ l, x.val.texts.length * 16 ≤ 140737488351232) :
    Calls Try.prog 4 #[x.fil, y.tup u] w fun e w' => e = .returned (.bool true) ∧ Keep [] w w' := by
  have hL := fun w1 (k : Keep [] w w1) => lentTuple_any y u l w1 (hu.keep0 k) hl ht
  have hP := fun v w1 => lets_any x y v w1
  have hR := fun w1 => rLets_any x y u w1
  have hK := fun w1 g cap lo (k : Keep [] w w1) (hx : Lg w1 lo g cap l) => keptTuple_any y lo g cap u l w1 hx (hu.keep0 k) hl ht
  obtain ⟨ao, ca, rfl, _, _, _⟩ := hu.ex
  clear hu hl ht
  obtain ⟨a, b, c, d, e, f, g⟩ := x
  obtain ⟨a', b', c', d', e', f', g'⟩ := y
  generalize letsB ⟨a, b, c, d, e, f, g⟩ ⟨a', b', c', d', e', f', g'⟩ = r at hP hR
  have hrr : (r == r) = true := by simp
  go_enter Try.func4, Try.ntmps4
  go_wp2_with fail
  refine (hL _ ((Keep.alloc1 w _).alloc _)).mono ?_
  rintro e9 w1 ⟨g0, cap, rfl, hLg, k1⟩
  obtain ⟨T1, K1⟩ := Two.first (x := ⟨a, b, c, d, e, f, g⟩) (y := ⟨a', b', c', d', e', f', g'⟩) k1
  have HT1 : Hid _ := T1
  have HK1 : Hid _ := K1
  have HL1 : Hid _ := hLg
  clear k1 T1 K1 hLg hL
  obtain ⟨q0, q1, q2, q3, q4, q5, q6⟩ := HT1.out.boxf
  go_wp2_with fail
  refine (hP _ _).mono ?_
  rintro e9 w2 ⟨rfl, k2⟩
  have HT2 : Hid _ := (HT1.out.keep (Keep.alloc1 _ _)).keep k2
  have HG2 : Hid _ := G8.first k2
  have HK2 : Hid _ := (HK1.out.alloc _).trans' k2
  have HL2 : Hid _ := (HL1.out.keep (Keep.alloc1 _ _) (fun x hx => by cases hx)).keep k2 (fun x hx => by cases hx)
  clear k2 q0 q1 q2 q3 q4 q5 q6 HT1 HK1 HL1
  obtain ⟨f0, f1, f2, f3, f4, f5, f6, t0, t1, t2, t3, t4, t5, t6, t7⟩ := HT2.out
  go_wp2_with fail
  refine (hR _).mono ?_
  rintro e9 w3 ⟨rfl, k3⟩
  have HT3 : Hid _ := HT2.out.keep k3
  have HG3 : Hid _ := HG2.out.keep k3
  have HK3 : Hid _ := HK2.out.trans' k3
  have HL3 : Hid _ := HL2.out.keep k3 (fun x hx => by cases hx)
  clear k3 f0 f1 f2 f3 f4 f5 f6 t0 t1 t2 t3 t4 t5 t6 t7 HT2 HG2 HK2 HL2
  obtain ⟨f0, f1, f2, f3, f4, f5, f6, t0, t1, t2, t3, t4, t5, t6, t7⟩ := HT3.out
  obtain ⟨i0, i1, i2, i3, i4, i5, i6, i7⟩ := HG3.out
  go_wp2_with fail
  refine (hK _ _ _ _ HK3.out HL3.out).mono ?_
  rintro e9 w4 ⟨rfl, k4⟩
  have HK4 : Hid _ := HK3.out.trans' k4
  clear k4 f0 f1 f2 f3 f4 f5 f6 t0 t1 t2 t3 t4 t5 t6 t7 i0 i1 i2 i3 i4 i5 i6 i7 HT3 HG3 HK3 HL3
  go_wp2
  go_ret
  exact ⟨rfl, HK4.out⟩
end Go.Proofs.Ytbflhpafejmelaa
