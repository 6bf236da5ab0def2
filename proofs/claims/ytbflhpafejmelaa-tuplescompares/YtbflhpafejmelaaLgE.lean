/- LentTuple and KeptTuple. -/
import Derived.Test.YtbflhpafejmelaaLgD
import Derived.Test.YtbflhpafejmelaaLetW
namespace Go.Proofs.Ytbflhpafejmelaa
open Go.RowKit Go.PlainAid

theorem set_8 {w : World} {b : Nat} {v0 v1 v2 v3 v4 v5 v6 v7 u0 u1 u2 u3 u4 u5 u6 u7 : Value} (d0 : w.cell? ⟨b, 0, none⟩ = some u0) (d1 : w.cell? ⟨b, 1, none⟩ = some u1) (d2 : w.cell? ⟨b, 2, none⟩ = some u2) (d3 : w.cell? ⟨b, 3, none⟩ = some u3) (d4 : w.cell? ⟨b, 4, none⟩ = some u4) (d5 : w.cell? ⟨b, 5, none⟩ = some u5) (d6 : w.cell? ⟨b, 6, none⟩ = some u6) (d7 : w.cell? ⟨b, 7, none⟩ = some u7) :
    ((((((((w.setCell ⟨b, 0, none⟩ v0).setCell ⟨b, 1, none⟩ v1).setCell ⟨b, 2, none⟩ v2).setCell ⟨b, 3, none⟩ v3).setCell ⟨b, 4, none⟩ v4).setCell ⟨b, 5, none⟩ v5).setCell ⟨b, 6, none⟩ v6).setCell ⟨b, 7, none⟩ v7).cell? ⟨b, 0, none⟩ = some v0 ∧
    ((((((((w.setCell ⟨b, 0, none⟩ v0).setCell ⟨b, 1, none⟩ v1).setCell ⟨b, 2, none⟩ v2).setCell ⟨b, 3, none⟩ v3).setCell ⟨b, 4, none⟩ v4).setCell ⟨b, 5, none⟩ v5).setCell ⟨b, 6, none⟩ v6).setCell ⟨b, 7, none⟩ v7).cell? ⟨b, 1, none⟩ = some v1 ∧
    ((((((((w.setCell ⟨b, 0, none⟩ v0).setCell ⟨b, 1, none⟩ v1).setCell ⟨b, 2, none⟩ v2).setCell ⟨b, 3, none⟩ v3).setCell ⟨b, 4, none⟩ v4).setCell ⟨b, 5, none⟩ v5).setCell ⟨b, 6, none⟩ v6).setCell ⟨b, 7, none⟩ v7).cell? ⟨b, 2, none⟩ = some v2 ∧
    ((((((((w.setCell ⟨b, 0, none⟩ v0).setCell ⟨b, 1, none⟩ v1).setCell ⟨b, 2, none⟩ v2).setCell ⟨b, 3, none⟩ v3).setCell ⟨b, 4, none⟩ v4).setCell ⟨b, 5, none⟩ v5).setCell ⟨b, 6, none⟩ v6).setCell ⟨b, 7, none⟩ v7).cell? ⟨b, 3, none⟩ = some v3 ∧
    ((((((((w.setCell ⟨b, 0, none⟩ v0).setCell ⟨b, 1, none⟩ v1).setCell ⟨b, 2, none⟩ v2).setCell ⟨b, 3, none⟩ v3).setCell ⟨b, 4, none⟩ v4).setCell ⟨b, 5, none⟩ v5).setCell ⟨b, 6, none⟩ v6).setCell ⟨b, 7, none⟩ v7).cell? ⟨b, 4, none⟩ = some v4 ∧
    ((((((((w.setCell ⟨b, 0, none⟩ v0).setCell ⟨b, 1, none⟩ v1).setCell ⟨b, 2, none⟩ v2).setCell ⟨b, 3, none⟩ v3).setCell ⟨b, 4, none⟩ v4).setCell ⟨b, 5, none⟩ v5).setCell ⟨b, 6, none⟩ v6).setCell ⟨b, 7, none⟩ v7).cell? ⟨b, 5, none⟩ = some v5 ∧
    ((((((((w.setCell ⟨b, 0, none⟩ v0).setCell ⟨b, 1, none⟩ v1).setCell ⟨b, 2, none⟩ v2).setCell ⟨b, 3, none⟩ v3).setCell ⟨b, 4, none⟩ v4).setCell ⟨b, 5, none⟩ v5).setCell ⟨b, 6, none⟩ v6).setCell ⟨b, 7, none⟩ v7).cell? ⟨b, 6, none⟩ = some v6 ∧
    ((((((((w.setCell ⟨b, 0, none⟩ v0).setCell ⟨b, 1, none⟩ v1).setCell ⟨b, 2, none⟩ v2).setCell ⟨b, 3, none⟩ v3).setCell ⟨b, 4, none⟩ v4).setCell ⟨b, 5, none⟩ v5).setCell ⟨b, 6, none⟩ v6).setCell ⟨b, 7, none⟩ v7).cell? ⟨b, 7, none⟩ = some v7 := by
  refine ⟨?_, ?_, ?_, ?_, ?_, ?_, ?_, ?_⟩
  · rw [World.cell?_setCell_other _ _ _ _ (by simp), World.cell?_setCell_other _ _ _ _ (by simp), World.cell?_setCell_other _ _ _ _ (by simp), World.cell?_setCell_other _ _ _ _ (by simp), World.cell?_setCell_other _ _ _ _ (by simp), World.cell?_setCell_other _ _ _ _ (by simp), World.cell?_setCell_other _ _ _ _ (by simp)]; exact World.cell?_setCell_same _ _ _ (by exact d0)
  · rw [World.cell?_setCell_other _ _ _ _ (by simp), World.cell?_setCell_other _ _ _ _ (by simp), World.cell?_setCell_other _ _ _ _ (by simp), World.cell?_setCell_other _ _ _ _ (by simp), World.cell?_setCell_other _ _ _ _ (by simp), World.cell?_setCell_other _ _ _ _ (by simp)]; exact World.cell?_setCell_same _ _ _ (by rw [World.cell?_setCell_other _ _ _ _ (by simp)]; exact d1)
  · rw [World.cell?_setCell_other _ _ _ _ (by simp), World.cell?_setCell_other _ _ _ _ (by simp), World.cell?_setCell_other _ _ _ _ (by simp), World.cell?_setCell_other _ _ _ _ (by simp), World.cell?_setCell_other _ _ _ _ (by simp)]; exact World.cell?_setCell_same _ _ _ (by rw [World.cell?_setCell_other _ _ _ _ (by simp), World.cell?_setCell_other _ _ _ _ (by simp)]; exact d2)
  · rw [World.cell?_setCell_other _ _ _ _ (by simp), World.cell?_setCell_other _ _ _ _ (by simp), World.cell?_setCell_other _ _ _ _ (by simp), World.cell?_setCell_other _ _ _ _ (by simp)]; exact World.cell?_setCell_same _ _ _ (by rw [World.cell?_setCell_other _ _ _ _ (by simp), World.cell?_setCell_other _ _ _ _ (by simp), World.cell?_setCell_other _ _ _ _ (by simp)]; exact d3)
  · rw [World.cell?_setCell_other _ _ _ _ (by simp), World.cell?_setCell_other _ _ _ _ (by simp), World.cell?_setCell_other _ _ _ _ (by simp)]; exact World.cell?_setCell_same _ _ _ (by rw [World.cell?_setCell_other _ _ _ _ (by simp), World.cell?_setCell_other _ _ _ _ (by simp), World.cell?_setCell_other _ _ _ _ (by simp), World.cell?_setCell_other _ _ _ _ (by simp)]; exact d4)
  · rw [World.cell?_setCell_other _ _ _ _ (by simp), World.cell?_setCell_other _ _ _ _ (by simp)]; exact World.cell?_setCell_same _ _ _ (by rw [World.cell?_setCell_other _ _ _ _ (by simp), World.cell?_setCell_other _ _ _ _ (by simp), World.cell?_setCell_other _ _ _ _ (by simp), World.cell?_setCell_other _ _ _ _ (by simp), World.cell?_setCell_other _ _ _ _ (by simp)]; exact d5)
  · rw [World.cell?_setCell_other _ _ _ _ (by simp)]; exact World.cell?_setCell_same _ _ _ (by rw [World.cell?_setCell_other _ _ _ _ (by simp), World.cell?_setCell_other _ _ _ _ (by simp), World.cell?_setCell_other _ _ _ _ (by simp), World.cell?_setCell_other _ _ _ _ (by simp), World.cell?_setCell_other _ _ _ _ (by simp), World.cell?_setCell_other _ _ _ _ (by simp)]; exact d6)
  · exact World.cell?_setCell_same _ _ _ (by rw [World.cell?_setCell_other _ _ _ _ (by simp), World.cell?_setCell_other _ _ _ _ (by simp), World.cell?_setCell_other _ _ _ _ (by simp), World.cell?_setCell_other _ _ _ _ (by simp), World.cell?_setCell_other _ _ _ _ (by simp), World.cell?_setCell_other _ _ _ _ (by simp), World.cell?_setCell_other _ _ _ _ (by simp)]; exact d7)
theorem two_cells8 {w w' : World} {a0 a1 a2 a3 a4 a5 a6 a7 z0 z1 z2 z3 z4 z5 z6 z7 : Value} (k : Keep [] ((w.alloc (.cells #[a0, a1, a2, a3, a4, a5, a6, a7] 28)).alloc (.cells #[z0, z1, z2, z3, z4, z5, z6, z7] 28)) w') :
    (w'.cell? ⟨w.heap.size, 0, none⟩ = some a0 ∧ w'.cell? ⟨w.heap.size, 1, none⟩ = some a1 ∧ w'.cell? ⟨w.heap.size, 2, none⟩ = some a2 ∧ w'.cell? ⟨w.heap.size, 3, none⟩ = some a3 ∧ w'.cell? ⟨w.heap.size, 4, none⟩ = some a4 ∧ w'.cell? ⟨w.heap.size, 5, none⟩ = some a5 ∧ w'.cell? ⟨w.heap.size, 6, none⟩ = some a6 ∧ w'.cell? ⟨w.heap.size, 7, none⟩ = some a7) ∧ (w'.cell? ⟨w.heap.size + 1, 0, none⟩ = some z0 ∧ w'.cell? ⟨w.heap.size + 1, 1, none⟩ = some z1 ∧ w'.cell? ⟨w.heap.size + 1, 2, none⟩ = some z2 ∧ w'.cell? ⟨w.heap.size + 1, 3, none⟩ = some z3 ∧ w'.cell? ⟨w.heap.size + 1, 4, none⟩ = some z4 ∧ w'.cell? ⟨w.heap.size + 1, 5, none⟩ = some z5 ∧ w'.cell? ⟨w.heap.size + 1, 6, none⟩ = some z6 ∧ w'.cell? ⟨w.heap.size + 1, 7, none⟩ = some z7) := by
  refine ⟨⟨k.cell' ?_ (by simp), k.cell' ?_ (by simp), k.cell' ?_ (by simp), k.cell' ?_ (by simp), k.cell' ?_ (by simp), k.cell' ?_ (by simp), k.cell' ?_ (by simp), k.cell' ?_ (by simp)⟩, ⟨k.cell' ?_ (by simp), k.cell' ?_ (by simp), k.cell' ?_ (by simp), k.cell' ?_ (by simp), k.cell' ?_ (by simp), k.cell' ?_ (by simp), k.cell' ?_ (by simp), k.cell' ?_ (by simp)⟩⟩ <;> simp [go_sem]
set_option maxRecDepth 1000000 in
set_option maxHeartbeats 1600000 in
theorem lentTuple_any (y : K7) (u : Value) (l : List AD) (w : World) (hu : As w u l) (hl : l.length * 88 ≤ 140737488351232) (ht : ∀ x ∈ l, x.val.texts.length * 16 ≤ 140737488351232) :
    Calls Try.prog 6 #[y.tup u] w fun e w' => ∃ g cap, e = .returned (y.tup (.slice (some ⟨g, 0, none⟩) l.length cap)) ∧ Lg w' w.heap.size g cap l ∧ Keep [] w w' := by
  have hL := fun w1 k => lentArgs_any u l w1 (hu.keep0 (w' := w1) k) hl ht
  obtain ⟨ao, ca, rfl, _, _, _⟩ := hu.ex
  clear hu
  obtain ⟨a, b, c, d, e, f, h⟩ := y
  go_enter Try.func6, Try.ntmps6
  go_wp2_with fail
  refine (hL _ ((Keep.alloc1 w _).alloc _)).mono ?_
  rintro e9 w1 ⟨g, cap, rfl, hLg, k1⟩
  obtain ⟨⟨c0, c1, c2, c3, c4, c5, c6, c7⟩, ⟨d0, d1, d2, d3, d4, d5, d6, d7⟩⟩ := two_cells8 k1
  have fz : w1.frozen? ⟨w.heap.size, 7, none⟩ = false := (k1.frozen (by simp; omega) (by simp)).trans (by simp)
  have g0 : w1.frozen? ⟨w.heap.size + 1, 0, none⟩ = false := (k1.frozen (by simp) (by simp)).trans (by simp)
  have g1 : w1.frozen? ⟨w.heap.size + 1, 1, none⟩ = false := (k1.frozen (by simp) (by simp)).trans (by simp)
  have g2 : w1.frozen? ⟨w.heap.size + 1, 2, none⟩ = false := (k1.frozen (by simp) (by simp)).trans (by simp)
  have g3 : w1.frozen? ⟨w.heap.size + 1, 3, none⟩ = false := (k1.frozen (by simp) (by simp)).trans (by simp)
  have g4 : w1.frozen? ⟨w.heap.size + 1, 4, none⟩ = false := (k1.frozen (by simp) (by simp)).trans (by simp)
  have g5 : w1.frozen? ⟨w.heap.size + 1, 5, none⟩ = false := (k1.frozen (by simp) (by simp)).trans (by simp)
  have g6 : w1.frozen? ⟨w.heap.size + 1, 6, none⟩ = false := (k1.frozen (by simp) (by simp)).trans (by simp)
  have g7 : w1.frozen? ⟨w.heap.size + 1, 7, none⟩ = false := (k1.frozen (by simp) (by simp)).trans (by simp)
  have HK : Hid (Keep [] w w1) := ((Keep.alloc1 w _).alloc _).trans' k1
  have HT : Hid (Lg w1 (w.heap.size + 2) g cap l) := by
    show Lg _ _ _ _ _
    simpa using hLg
  clear hL k1 hLg
  have HQ : ∃ q, Hid (q = w.heap.size) := ⟨_, rfl⟩
  obtain ⟨q, HQ⟩ := HQ
  have hq := HQ.out
  rw [← hq] at c0 c1 c2 c3 c4 c5 c6 c7 d0 d1 d2 d3 d4 d5 d6 d7 fz g0 g1 g2 g3 g4 g5 g6 g7 ⊢
  clear hq
  have hsf := store_f32
  simp only [Go.stored] at hsf
  go_wp2
  have hW := set_8 (w := (w1.setCell ⟨q, 7, none⟩ (.slice (some ⟨g, 0, none⟩) l.length cap))) (b := q + 1) (v0 := .string a) (v1 := .string b) (v2 := .string c) (v3 := .string d) (v4 := .string e) (v5 := .string f) (v6 := .string h) (v7 := .slice (some ⟨g, 0, none⟩) l.length cap)
    (by rw [World.cell?_setCell_other _ _ _ _ (by simp)]; exact d0) (by rw [World.cell?_setCell_other _ _ _ _ (by simp)]; exact d1) (by rw [World.cell?_setCell_other _ _ _ _ (by simp)]; exact d2) (by rw [World.cell?_setCell_other _ _ _ _ (by simp)]; exact d3) (by rw [World.cell?_setCell_other _ _ _ _ (by simp)]; exact d4) (by rw [World.cell?_setCell_other _ _ _ _ (by simp)]; exact d5) (by rw [World.cell?_setCell_other _ _ _ _ (by simp)]; exact d6) (by rw [World.cell?_setCell_other _ _ _ _ (by simp)]; exact d7)
  have KS : Keep [q, q + 1] w1 (((((((((w1.setCell ⟨q, 7, none⟩ (.slice (some ⟨g, 0, none⟩) l.length cap)).setCell ⟨q + 1, 0, none⟩ (.string a)).setCell ⟨q + 1, 1, none⟩ (.string b)).setCell ⟨q + 1, 2, none⟩ (.string c)).setCell ⟨q + 1, 3, none⟩ (.string d)).setCell ⟨q + 1, 4, none⟩ (.string e)).setCell ⟨q + 1, 5, none⟩ (.string f)).setCell ⟨q + 1, 6, none⟩ (.string h)).setCell ⟨q + 1, 7, none⟩ (.slice (some ⟨g, 0, none⟩) l.length cap)) :=
    ((((((((((Keep.refl [q, q + 1] w1).setCell (p := ⟨q, 7, none⟩) (.inl (by simp)) _).setCell (p := ⟨q + 1, 0, none⟩) (.inl (by simp)) _).setCell (p := ⟨q + 1, 1, none⟩) (.inl (by simp)) _).setCell (p := ⟨q + 1, 2, none⟩) (.inl (by simp)) _).setCell (p := ⟨q + 1, 3, none⟩) (.inl (by simp)) _).setCell (p := ⟨q + 1, 4, none⟩) (.inl (by simp)) _).setCell (p := ⟨q + 1, 5, none⟩) (.inl (by simp)) _).setCell (p := ⟨q + 1, 6, none⟩) (.inl (by simp)) _).setCell (p := ⟨q + 1, 7, none⟩) (.inl (by simp)) _)
  generalize (((((((((w1.setCell ⟨q, 7, none⟩ (.slice (some ⟨g, 0, none⟩) l.length cap)).setCell ⟨q + 1, 0, none⟩ (.string a)).setCell ⟨q + 1, 1, none⟩ (.string b)).setCell ⟨q + 1, 2, none⟩ (.string c)).setCell ⟨q + 1, 3, none⟩ (.string d)).setCell ⟨q + 1, 4, none⟩ (.string e)).setCell ⟨q + 1, 5, none⟩ (.string f)).setCell ⟨q + 1, 6, none⟩ (.string h)).setCell ⟨q + 1, 7, none⟩ (.slice (some ⟨g, 0, none⟩) l.length cap)) = W at hW KS ⊢
  obtain ⟨r0, r1, r2, r3, r4, r5, r6, r7⟩ := hW
  refine bodyPost_ret (v := .agg #[.string a, .string b, .string c, .string d, .string e, .string f, .string h, .slice (some ⟨g, 0, none⟩) l.length cap]) (by simp [results, Try.results6, go_sem, r0, r1, r2, r3, r4, r5, r6, r7]) rfl ?_
  exact ⟨g, cap, rfl, (HT.out.keep KS (fun x hx => by have := HQ.out; simp at hx; omega)).later (by omega), HK.out.more KS (fun x hx => .inr (by have := HQ.out; simp at hx; omega))⟩

set_option maxRecDepth 1000000 in
set_option maxHeartbeats 1600000 in
theorem sameTuple_self (y : K7) (u v : Value) (l : List AD) (w : World) (hu : As w u l) (hv : As w v l) :
    Calls Try.prog 26 #[y.tup u, y.tup v] w fun e w' => e = .returned (.bool true) ∧ Keep [] w w' := by
  have hS := fun w1 (k : Keep [] w w1) => sameArgs_self u v l w1 (hu.keep0 k) (hv.keep0 k)
  obtain ⟨ao, ca, rfl, _, _, _⟩ := hu.ex
  obtain ⟨bo, cb, rfl, _, _, _⟩ := hv.ex
  clear hu hv
  obtain ⟨a, b, c, d, e, f, h⟩ := y
  have K0 : Hid (Keep [] w ((w.alloc (.cells #[.string a, .string b, .string c, .string d, .string e, .string f, .string h, .slice ao l.length ca] 28)).alloc (.cells #[.string a, .string b, .string c, .string d, .string e, .string f, .string h, .slice bo l.length cb] 28))) := (Keep.alloc1 w _).alloc _
  have e1 : (c.toList == c.toList) = true := by simp
  have e2 : (h.toList == h.toList) = true := by simp
  go_enter Try.func26, Try.ntmps26
  go_wp2_with fail
  refine (hS _ K0.out).mono ?_
  rintro e9 w1 ⟨rfl, k1⟩
  have HK1 : Hid (Keep [] w w1) := K0.out.trans' k1
  clear k1 hS
  go_wp2
  go_ret
  exact ⟨rfl, HK1.out⟩

set_option maxRecDepth 1000000 in
set_option maxHeartbeats 1600000 in
theorem keptTuple_any (y : K7) (lo g cap : Nat) (v : Value) (l : List AD) (w : World) (hx : Lg w lo g cap l) (hv : As w v l) (hl : l.length * 88 ≤ 140737488351232) (ht : ∀ x ∈ l, x.val.texts.length * 16 ≤ 140737488351232) :
    Calls Try.prog 13 #[y.tup (.slice (some ⟨g, 0, none⟩) l.length cap), y.tup v] w fun e w' => e = .returned (.bool true) ∧ Keep [] w w' := by
  have hS := fun w1 (k : Keep [] w w1) => sameTuple_self y _ v l w1 ((hx.as hv.ok).keep0 k) (hv.keep0 k)
  have hT := fun w1 (k : Keep [] w w1) => keptArgs_any lo g cap v l w1 (hx.keep k (fun x hx => by cases hx)) (hv.keep0 k) hl ht
  obtain ⟨bo, cb, rfl, _, _, _⟩ := hv.ex
  clear hx hv hl ht
  obtain ⟨a, b, c, d, e, f, h⟩ := y
  have K0 : Hid (Keep [] w ((w.alloc (.cells #[.string a, .string b, .string c, .string d, .string e, .string f, .string h, .slice (some ⟨g, 0, none⟩) l.length cap] 28)).alloc (.cells #[.string a, .string b, .string c, .string d, .string e, .string f, .string h, .slice bo l.length cb] 28))) := (Keep.alloc1 w _).alloc _
  go_enter Try.func13, Try.ntmps13
  go_wp2_with fail
  refine (hS _ K0.out).mono ?_
  rintro e9 w1 ⟨rfl, k1⟩
  obtain ⟨⟨c0, c1, c2, c3, c4, c5, c6, c7⟩, ⟨d0, d1, d2, d3, d4, d5, d6, d7⟩⟩ := two_cells8 k1
  have HK1 : Hid (Keep [] w w1) := K0.out.trans' k1
  clear k1 hS
  go_wp2_with fail
  refine (hT _ HK1.out).mono ?_
  rintro e9 w2 ⟨rfl, k2⟩
  have HK2 : Hid (Keep [] w w2) := HK1.out.trans' k2
  clear k2 hT c0 c1 c2 c3 c4 c5 c6 c7 d0 d1 d2 d3 d4 d5 d6 d7
  go_wp2
  go_ret
  exact ⟨rfl, HK2.out⟩
end Go.Proofs.Ytbflhpafejmelaa
