/- The walk of TuplesCompares. -/
import Derived.Test.YtbflhpafejmelaaCpT
import Derived.Test.YtbflhpafejmelaaLetP
namespace Go.Proofs.Ytbflhpafejmelaa
open Go.RowKit Go.PlainAid

theorem G8.box {w : World} {n : Nat} {y : K7} {u : Value} (h : G8 w n y u) : (∀ X, (w.alloc X).cell? ⟨n, 0, none⟩ = some (.string y.a)) ∧ (∀ X, (w.alloc X).cell? ⟨n, 1, none⟩ = some (.string y.b)) ∧ (∀ X, (w.alloc X).cell? ⟨n, 2, none⟩ = some (.string y.c)) ∧ (∀ X, (w.alloc X).cell? ⟨n, 3, none⟩ = some (.string y.d)) ∧ (∀ X, (w.alloc X).cell? ⟨n, 4, none⟩ = some (.string y.e)) ∧ (∀ X, (w.alloc X).cell? ⟨n, 5, none⟩ = some (.string y.f)) ∧ (∀ X, (w.alloc X).cell? ⟨n, 6, none⟩ = some (.string y.g)) ∧ (∀ X, (w.alloc X).cell? ⟨n, 7, none⟩ = some u) :=
  ⟨fun X => (h.keep (Keep.alloc1 w X)).i0, fun X => (h.keep (Keep.alloc1 w X)).i1, fun X => (h.keep (Keep.alloc1 w X)).i2, fun X => (h.keep (Keep.alloc1 w X)).i3, fun X => (h.keep (Keep.alloc1 w X)).i4, fun X => (h.keep (Keep.alloc1 w X)).i5, fun X => (h.keep (Keep.alloc1 w X)).i6, fun X => (h.keep (Keep.alloc1 w X)).i7⟩
theorem G8.pair {w w' : World} {a b c d e f g a' b' c' d' e' f' g' : ByteArray} {u v : Value} (k : Keep [] ((w.alloc (.cells #[.string a, .string b, .string c, .string d, .string e, .string f, .string g, u] 28)).alloc (.cells #[.string a', .string b', .string c', .string d', .string e', .string f', .string g', v] 28)) w') : G8 w' w.heap.size ⟨a, b, c, d, e, f, g⟩ u ∧ G8 w' (w.heap.size + 1) ⟨a', b', c', d', e', f', g'⟩ v ∧ Keep [] w w' := by
  refine ⟨G8.keep ⟨?_, ?_, ?_, ?_, ?_, ?_, ?_, ?_⟩ k, G8.keep ⟨?_, ?_, ?_, ?_, ?_, ?_, ?_, ?_⟩ k, (((Keep.refl _ _).alloc _).alloc _).trans' k⟩ <;> simp [go_sem]

/-- the boxes of both tuples, and of what was lent of them -/
structure Q4 (w : World) (n i1 i2 : Nat) (x y : K7) (u v u' v' : Value) (lo1 g1 p1 lo2 g2 p2 : Nat) (l m : List AD) : Prop where
  a : G8 w n x u
  b : G8 w (n + 1) y v
  c : G8 w i1 x u'
  d : G8 w i2 y v'
  lg1 : Lg w lo1 g1 p1 l
  lg2 : Lg w lo2 g2 p2 m
theorem Q4.keep {w w' : World} {n i1 i2 : Nat} {x y : K7} {u v u' v' : Value} {lo1 g1 p1 lo2 g2 p2 : Nat} {l m : List AD} (h : Q4 w n i1 i2 x y u v u' v' lo1 g1 p1 lo2 g2 p2 l m) (k : Keep [] w w') : Q4 w' n i1 i2 x y u v u' v' lo1 g1 p1 lo2 g2 p2 l m :=
  ⟨h.a.keep k, h.b.keep k, h.c.keep k, h.d.keep k, h.lg1.keep k (fun x hx => by cases hx), h.lg2.keep k (fun x hx => by cases hx)⟩

set_option maxRecDepth 1000000 in
set_option maxHeartbeats 6400000 in
theorem compares_law (x y : K7) (u v : Value) (l m : List AD) (w : World) (hx : x.Lt 9223372036854775807) (hu : As w u l) (hv : As w v m) (hl : l.length * 88 ≤ 140737488351232) (ht : ∀ x ∈ l, x.val.texts.length * 16 ≤ 140737488351232) (hl2 : m.length * 88 ≤ 140737488351232) (ht2 : ∀ x ∈ m, x.val.texts.length * 16 ≤ 140737488351232) :
    Calls Try.prog 3 #[x.tup u, y.tup v] w fun e w' => e = .returned (.bool true) ∧ Keep [] w w' := by
  have hL1 := fun w1 (k : Keep [] w w1) => lentTuple_any x u l w1 (hu.keep0 k) hl ht
  have hL2 := fun w1 (k : Keep [] w w1) => lentTuple_any y v m w1 (hv.keep0 k) hl2 ht2
  have hS := fun w1 lo1 g1 p1 lo2 g2 p2 (h1 : Lg w1 lo1 g1 p1 l) (h2 : Lg w1 lo2 g2 p2 m) => tSame_any x y _ _ l m w1 (h1.as hu.ok) (h2.as hv.ok)
  have hC := fun u v w1 => tCompare_any x y u v w1
  have hB := fun u v w1 => tBackward_any x y u v w1
  have hS' := fun w1 (k : Keep [] w w1) => rtSame_any x y u v l m w1 (hu.keep0 k) (hv.keep0 k)
  have hC' := fun w1 => rtCompare_any x y u v w1 hx
  have hB' := fun w1 => rtBackward_any x y u v w1 hx
  have hK1 := fun w1 g cap lo (k : Keep [] w w1) (hx : Lg w1 lo g cap l) => keptTuple_any x lo g cap u l w1 hx (hu.keep0 k) hl ht
  have hK2 := fun w1 g cap lo (k : Keep [] w w1) (hx : Lg w1 lo g cap m) => keptTuple_any y lo g cap v m w1 hx (hv.keep0 k) hl2 ht2
  obtain ⟨ao, ca, rfl, _, _, _⟩ := hu.ex
  obtain ⟨bo, cb, rfl, _, _, _⟩ := hv.ex
  clear hu hv hl ht hl2 ht2 hx
  obtain ⟨a, b, c, d, e, f, g⟩ := x
  obtain ⟨a', b', c', d', e', f', g'⟩ := y
  generalize samT ⟨a, b, c, d, e, f, g⟩ ⟨a', b', c', d', e', f', g'⟩ l m = r at hS hS'
  generalize cmpK ⟨a, b, c, d, e, f, g⟩ ⟨a', b', c', d', e', f', g'⟩ = p at hC hC'
  generalize bckK ⟨a, b, c, d, e, f, g⟩ ⟨a', b', c', d', e', f', g'⟩ = q at hB hB'
  have hrr : (r == r) = true := by simp
  have hpp : (p == p) = true := by simp
  have hqq : (q == q) = true := by simp
  go_enter Try.func3, Try.ntmps3
  go_wp2_with fail
  refine (hL1 _ ((Keep.alloc1 w _).alloc _)).mono ?_
  rintro e9 w1 ⟨g1, p1, rfl, hLg, k1⟩
  have HA1 : Hid _ := G8.pair k1
  have HL1 : Hid _ := hLg
  clear k1 hLg hL1
  obtain ⟨q0, q1, q2, q3, q4, q5, q6, q7⟩ := HA1.out.2.1.box
  go_wp2_with fail
  refine (hL2 _ (HA1.out.2.2.alloc _)).mono ?_
  rintro e9 w2 ⟨g2, p2, rfl, hLg, k2⟩
  have HG1 : Hid _ := G8.first k2
  have HA : Hid _ := (HA1.out.1.keep (Keep.alloc1 _ _)).keep k2
  have HB : Hid _ := (HA1.out.2.1.keep (Keep.alloc1 _ _)).keep k2
  have HK2 : Hid _ := (HA1.out.2.2.alloc _).trans' k2
  have HL1' : Hid _ := (HL1.out.keep (Keep.alloc1 _ _) (fun x hx => by cases hx)).keep k2 (fun x hx => by cases hx)
  have HL2 : Hid _ := hLg
  clear k2 hLg hL2 HA1 HL1 q0 q1 q2 q3 q4 q5 q6 q7
  obtain ⟨q0, q1, q2, q3, q4, q5, q6, q7⟩ := HG1.out.box
  go_wp2_with fail
  refine (hS _ _ _ _ _ _ _ (HL1'.out.keep (Keep.alloc1 _ _) (fun x hx => by cases hx)) (HL2.out.keep (Keep.alloc1 _ _) (fun x hx => by cases hx))).mono ?_
  rintro e9 w3 ⟨rfl, k3⟩
  have HQ3 : Hid _ := Q4.mk ((HA.out.keep (Keep.alloc1 _ _)).keep k3) ((HB.out.keep (Keep.alloc1 _ _)).keep k3) ((HG1.out.keep (Keep.alloc1 _ _)).keep k3) (G8.first k3) ((HL1'.out.keep (Keep.alloc1 _ _) (fun x hx => by cases hx)).keep k3 (fun x hx => by cases hx)) ((HL2.out.keep (Keep.alloc1 _ _) (fun x hx => by cases hx)).keep k3 (fun x hx => by cases hx))
  have HK3 : Hid _ := (HK2.out.alloc _).trans' k3
  clear k3 q0 q1 q2 q3 q4 q5 q6 q7 HA HB HG1 HL1' HL2 HK2 hS
  obtain ⟨A0, A1, A2, A3, A4, A5, A6, A7⟩ := HQ3.out.a
  obtain ⟨B0, B1, B2, B3, B4, B5, B6, B7⟩ := HQ3.out.b
  obtain ⟨C0, C1, C2, C3, C4, C5, C6, C7⟩ := HQ3.out.c
  obtain ⟨D0, D1, D2, D3, D4, D5, D6, D7⟩ := HQ3.out.d
  go_wp2_with fail
  refine (hC _ _ _).mono ?_
  rintro e9 w4 ⟨rfl, k9⟩
  have HQ4 : Hid _ := HQ3.out.keep k9
  have HK4 : Hid _ := HK3.out.trans' k9
  clear k9 A0 A1 A2 A3 A4 A5 A6 A7 B0 B1 B2 B3 B4 B5 B6 B7 C0 C1 C2 C3 C4 C5 C6 C7 D0 D1 D2 D3 D4 D5 D6 D7 HQ3 HK3 hC
  obtain ⟨A0, A1, A2, A3, A4, A5, A6, A7⟩ := HQ4.out.a
  obtain ⟨B0, B1, B2, B3, B4, B5, B6, B7⟩ := HQ4.out.b
  obtain ⟨C0, C1, C2, C3, C4, C5, C6, C7⟩ := HQ4.out.c
  obtain ⟨D0, D1, D2, D3, D4, D5, D6, D7⟩ := HQ4.out.d
  go_wp2_with fail
  refine (hB _ _ _).mono ?_
  rintro e9 w5 ⟨rfl, k9⟩
  have HQ5 : Hid _ := HQ4.out.keep k9
  have HK5 : Hid _ := HK4.out.trans' k9
  clear k9 A0 A1 A2 A3 A4 A5 A6 A7 B0 B1 B2 B3 B4 B5 B6 B7 C0 C1 C2 C3 C4 C5 C6 C7 D0 D1 D2 D3 D4 D5 D6 D7 HQ4 HK4 hB
  obtain ⟨A0, A1, A2, A3, A4, A5, A6, A7⟩ := HQ5.out.a
  obtain ⟨B0, B1, B2, B3, B4, B5, B6, B7⟩ := HQ5.out.b
  obtain ⟨C0, C1, C2, C3, C4, C5, C6, C7⟩ := HQ5.out.c
  obtain ⟨D0, D1, D2, D3, D4, D5, D6, D7⟩ := HQ5.out.d
  go_wp2_with fail
  refine (hS' _ HK5.out).mono ?_
  rintro e9 w6 ⟨rfl, k9⟩
  have HQ6 : Hid _ := HQ5.out.keep k9
  have HK6 : Hid _ := HK5.out.trans' k9
  clear k9 A0 A1 A2 A3 A4 A5 A6 A7 B0 B1 B2 B3 B4 B5 B6 B7 C0 C1 C2 C3 C4 C5 C6 C7 D0 D1 D2 D3 D4 D5 D6 D7 HQ5 HK5 hS'
  obtain ⟨A0, A1, A2, A3, A4, A5, A6, A7⟩ := HQ6.out.a
  obtain ⟨B0, B1, B2, B3, B4, B5, B6, B7⟩ := HQ6.out.b
  obtain ⟨C0, C1, C2, C3, C4, C5, C6, C7⟩ := HQ6.out.c
  obtain ⟨D0, D1, D2, D3, D4, D5, D6, D7⟩ := HQ6.out.d
  go_wp2_with fail
  refine (hC' _).mono ?_
  rintro e9 w7 ⟨rfl, k9⟩
  have HQ7 : Hid _ := HQ6.out.keep k9
  have HK7 : Hid _ := HK6.out.trans' k9
  clear k9 A0 A1 A2 A3 A4 A5 A6 A7 B0 B1 B2 B3 B4 B5 B6 B7 C0 C1 C2 C3 C4 C5 C6 C7 D0 D1 D2 D3 D4 D5 D6 D7 HQ6 HK6 hC'
  obtain ⟨A0, A1, A2, A3, A4, A5, A6, A7⟩ := HQ7.out.a
  obtain ⟨B0, B1, B2, B3, B4, B5, B6, B7⟩ := HQ7.out.b
  obtain ⟨C0, C1, C2, C3, C4, C5, C6, C7⟩ := HQ7.out.c
  obtain ⟨D0, D1, D2, D3, D4, D5, D6, D7⟩ := HQ7.out.d
  go_wp2_with fail
  refine (hB' _).mono ?_
  rintro e9 w8 ⟨rfl, k9⟩
  have HQ8 : Hid _ := HQ7.out.keep k9
  have HK8 : Hid _ := HK7.out.trans' k9
  clear k9 A0 A1 A2 A3 A4 A5 A6 A7 B0 B1 B2 B3 B4 B5 B6 B7 C0 C1 C2 C3 C4 C5 C6 C7 D0 D1 D2 D3 D4 D5 D6 D7 HQ7 HK7 hB'
  obtain ⟨A0, A1, A2, A3, A4, A5, A6, A7⟩ := HQ8.out.a
  obtain ⟨B0, B1, B2, B3, B4, B5, B6, B7⟩ := HQ8.out.b
  obtain ⟨C0, C1, C2, C3, C4, C5, C6, C7⟩ := HQ8.out.c
  obtain ⟨D0, D1, D2, D3, D4, D5, D6, D7⟩ := HQ8.out.d
  go_wp2_with fail
  refine (hK1 _ _ _ _ HK8.out HQ8.out.lg1).mono ?_
  rintro e9 w9 ⟨rfl, k9⟩
  have HQ9 : Hid _ := HQ8.out.keep k9
  have HK9 : Hid _ := HK8.out.trans' k9
  clear k9 A0 A1 A2 A3 A4 A5 A6 A7 B0 B1 B2 B3 B4 B5 B6 B7 C0 C1 C2 C3 C4 C5 C6 C7 D0 D1 D2 D3 D4 D5 D6 D7 HQ8 HK8 hK1
  obtain ⟨A0, A1, A2, A3, A4, A5, A6, A7⟩ := HQ9.out.a
  obtain ⟨B0, B1, B2, B3, B4, B5, B6, B7⟩ := HQ9.out.b
  obtain ⟨C0, C1, C2, C3, C4, C5, C6, C7⟩ := HQ9.out.c
  obtain ⟨D0, D1, D2, D3, D4, D5, D6, D7⟩ := HQ9.out.d
  go_wp2_with fail
  refine (hK2 _ _ _ _ HK9.out HQ9.out.lg2).mono ?_
  rintro e9 w10 ⟨rfl, k9⟩
  have HK10 : Hid _ := HK9.out.trans' k9
  clear k9 A0 A1 A2 A3 A4 A5 A6 A7 B0 B1 B2 B3 B4 B5 B6 B7 C0 C1 C2 C3 C4 C5 C6 C7 D0 D1 D2 D3 D4 D5 D6 D7 HQ9 HK9 hK2
  go_wp2
  go_ret
  exact ⟨rfl, HK10.out⟩
end Go.Proofs.Ytbflhpafejmelaa
