/- LentTuple and KeptTuple. -/
import Derived.Test.YtfpcpociejefaaaGreatDoorLgD
import Derived.Test.YtfpcpociejefaaaGreatDoorLentW
import Derived.Test.YtfpcpociejefaaaGreatDoorJRefB
import Derived.Test.YtfpcpociejefaaaGreatDoorQuJ
import Derived.Test.YtfpcpociejefaaaGreatDoorSaF
import Derived.Test.YtfpcpociejefaaaGreatDoorNgWgn
import Derived.Test.YtfpcpociejefaaaGreatDoorDcM5

namespace Go.Proofs.YtfpcpociejefaaaGreatDoor
open Go.RowKit Go.PlainAid
theorem set_8 {w : World} {b : Nat} {v0 v1 v2 v3 v4 v5 v6 v7 u0 u1 u2 u3 u4 u5 u6 u7 : Value} (d0 : w.cell? ⟨b, 0, none⟩ = some u0) (d1 : w.cell? ⟨b, 1, none⟩ = some u1) (d2 : w.cell? ⟨b, 2, none⟩ = some u2) (d3 : w.cell? ⟨b, 3, none⟩ = some u3) (d4 : w.cell? ⟨b, 4, none⟩ = some u4) (d5 : w.cell? ⟨b, 5, none⟩ = some u5) (d6 : w.cell? ⟨b, 6, none⟩ = some u6) (d7 : w.cell? ⟨b, 7, none⟩ = some u7) :
  ((((((((w.setCell ⟨b, 0, none⟩ v0).setCell ⟨b, 1, none⟩ v1).setCell ⟨b, 2, none⟩ v2).setCell ⟨b, 3, none⟩ v3).setCell ⟨b, 4, none⟩ v4).setCell ⟨b, 5, none⟩ v5).setCell ⟨b, 6, none⟩ v6).setCell ⟨b, 7, none⟩ v7).cell? ⟨b, 0, none⟩ = some v0 ∧
  ((((((((w.setCell ⟨b, 0, none⟩ v0).setCell ⟨b, 1, none⟩ v1).setCell ⟨b, 2, none⟩ v2).setCell ⟨b, 3, none⟩ v3).setCell ⟨b, 4, none⟩ v4).setCell ⟨b, 5, none⟩ v5).setCell ⟨b, 6, none⟩ v6).setCell ⟨b, 7, none⟩ v7).cell? ⟨b, 1, none⟩ = some v1 ∧
  ((((((((w.setCell ⟨b, 0, none⟩ v0).setCell ⟨b, 1, none⟩ v1).setCell ⟨b, 2, none⟩ v2).setCell ⟨b, 3, none⟩ v3).setCell ⟨b, 4, none⟩ v4).setCell ⟨b, 5, none⟩ v5).setCell ⟨b, 6, none⟩ v6).setCell ⟨b, 7, none⟩ v7).cell? ⟨b, 2, none⟩ = some v2 ∧
  ((((((((w.setCell ⟨b, 0, none⟩ v0).setCell ⟨b, 1, none⟩ v1).setCell ⟨b, 2, none⟩ v2).setCell ⟨b, 3, none⟩ v3).setCell ⟨b, 4, none⟩ v4).setCell ⟨b, 5, none⟩ v5).setCell ⟨b, 6, none⟩ v6).setCell ⟨b, 7, none⟩ v7).cell? ⟨b, 3, none⟩ = some v3 ∧
  ((((((((w.setCell ⟨b, 0, none⟩ v0).setCell ⟨b, 1, none⟩ v1).setCell ⟨b, 2, none⟩ v2).setCell ⟨b, 3, none⟩ v3).setCell ⟨b, 4, none⟩ v4).setCell ⟨b, 5, none⟩ v5).setCell ⟨b, 6, none⟩ v6).setCell ⟨b, 7, none⟩ v7).cell? ⟨b, 4, none⟩ = some v4 ∧
  ((((((((w.setCell ⟨b, 0, none⟩ v0).setCell ⟨b, 1, none⟩ v1).setCell ⟨b, 2, none⟩ v2).setCell ⟨b, 3, none⟩ v3).setCell ⟨b, 4, none⟩ v4).setCell ⟨b, 5, none⟩ v5).setCell ⟨b, 6, none⟩ v6).setCell ⟨b, 7, none⟩ v7).cell? ⟨b, 5, none⟩ = some v5 ∧
  ((((((((w.setCell ⟨b, 0, none⟩ v0).setCell ⟨b, 1, none⟩ v1).setCell ⟨b, 2, none⟩ v2).setCell ⟨b, 3, none⟩ v3).setCell ⟨b, 4, none⟩ v4).setCell ⟨b, 5, none⟩ v5).setCell ⟨b, 6, none⟩ v6).setCell ⟨b, 7, none⟩ v7).cell? ⟨b, 6, none⟩ = some v6 ∧
  ((((((((w.setCell ⟨b, 0, none⟩ v0).setCell ⟨b, 1, none⟩ v1).setCell ⟨b, 2, none⟩ v2).setCell ⟨b, 3, none⟩ v3).setCell ⟨b, 4, none⟩ v4).setCell ⟨b, 5, none⟩ v5).setCell ⟨b, 6, none⟩ v6).setCell ⟨b, 7, none⟩ v7).cell? ⟨b, 7, none⟩ = some v7 := by
 refine ⟨?_, ?_, ?_, ?_, ?_, ?_, ?_, ?_⟩
 ·rw [World.cell?_setCell_other _ _ _ _ (by simp), World.cell?_setCell_other _ _ _ _ (by simp), World.cell?_setCell_other _ _ _ _ (by simp), World.cell?_setCell_other _ _ _ _ (by simp), World.cell?_setCell_other _ _ _ _ (by simp), World.cell?_setCell_other _ _ _ _ (by simp), World.cell?_setCell_other _ _ _ _ (by simp)]; exact World.cell?_setCell_same _ _ _ (by exact d0)
 ·rw [World.cell?_setCell_other _ _ _ _ (by simp), World.cell?_setCell_other _ _ _ _ (by simp), World.cell?_setCell_other _ _ _ _ (by simp), World.cell?_setCell_other _ _ _ _ (by simp), World.cell?_setCell_other _ _ _ _ (by simp), World.cell?_setCell_other _ _ _ _ (by simp)]; exact World.cell?_setCell_same _ _ _ (by rw [World.cell?_setCell_other _ _ _ _ (by simp)]; exact d1)
 ·rw [World.cell?_setCell_other _ _ _ _ (by simp), World.cell?_setCell_other _ _ _ _ (by simp), World.cell?_setCell_other _ _ _ _ (by simp), World.cell?_setCell_other _ _ _ _ (by simp), World.cell?_setCell_other _ _ _ _ (by simp)]; exact World.cell?_setCell_same _ _ _ (by rw [World.cell?_setCell_other _ _ _ _ (by simp), World.cell?_setCell_other _ _ _ _ (by simp)]; exact d2)
 ·rw [World.cell?_setCell_other _ _ _ _ (by simp), World.cell?_setCell_other _ _ _ _ (by simp), World.cell?_setCell_other _ _ _ _ (by simp), World.cell?_setCell_other _ _ _ _ (by simp)]; exact World.cell?_setCell_same _ _ _ (by rw [World.cell?_setCell_other _ _ _ _ (by simp), World.cell?_setCell_other _ _ _ _ (by simp), World.cell?_setCell_other _ _ _ _ (by simp)]; exact d3)
 ·rw [World.cell?_setCell_other _ _ _ _ (by simp), World.cell?_setCell_other _ _ _ _ (by simp), World.cell?_setCell_other _ _ _ _ (by simp)]; exact World.cell?_setCell_same _ _ _ (by rw [World.cell?_setCell_other _ _ _ _ (by simp), World.cell?_setCell_other _ _ _ _ (by simp), World.cell?_setCell_other _ _ _ _ (by simp), World.cell?_setCell_other _ _ _ _ (by simp)]; exact d4)
 ·rw [World.cell?_setCell_other _ _ _ _ (by simp), World.cell?_setCell_other _ _ _ _ (by simp)]; exact World.cell?_setCell_same _ _ _ (by rw [World.cell?_setCell_other _ _ _ _ (by simp), World.cell?_setCell_other _ _ _ _ (by simp), World.cell?_setCell_other _ _ _ _ (by simp), World.cell?_setCell_other _ _ _ _ (by simp), World.cell?_setCell_other _ _ _ _ (by simp)]; exact d5)
 ·rw [World.cell?_setCell_other _ _ _ _ (by simp)]; exact World.cell?_setCell_same _ _ _ (by rw [World.cell?_setCell_other _ _ _ _ (by simp), World.cell?_setCell_other _ _ _ _ (by simp), World.cell?_setCell_other _ _ _ _ (by simp), World.cell?_setCell_other _ _ _ _ (by simp), World.cell?_setCell_other _ _ _ _ (by simp), World.cell?_setCell_other _ _ _ _ (by simp)]; exact d6)
 ·exact World.cell?_setCell_same _ _ _ (by rw [World.cell?_setCell_other _ _ _ _ (by simp), World.cell?_setCell_other _ _ _ _ (by simp), World.cell?_setCell_other _ _ _ _ (by simp), World.cell?_setCell_other _ _ _ _ (by simp), World.cell?_setCell_other _ _ _ _ (by simp), World.cell?_setCell_other _ _ _ _ (by simp), World.cell?_setCell_other _ _ _ _ (by simp)]; exact d7)
theorem two_cells8 {w w' : World} {a0 a1 a2 a3 a4 a5 a6 a7 z0 z1 z2 z3 z4 z5 z6 z7 : Value} (k : Keep [] ((w.alloc (.cells #[a0, a1, a2, a3, a4, a5, a6, a7] 28)).alloc (.cells #[z0, z1, z2, z3, z4, z5, z6, z7] 28)) w') :
  (w'.cell? ⟨w.heap.size, 0, none⟩ = some a0 ∧ w'.cell? ⟨w.heap.size, 1, none⟩ = some a1 ∧ w'.cell? ⟨w.heap.size, 2, none⟩ = some a2 ∧ w'.cell? ⟨w.heap.size, 3, none⟩ = some a3 ∧ w'.cell? ⟨w.heap.size, 4, none⟩ = some a4 ∧ w'.cell? ⟨w.heap.size, 5, none⟩ = some a5 ∧ w'.cell? ⟨w.heap.size, 6, none⟩ = some a6 ∧ w'.cell? ⟨w.heap.size, 7, none⟩ = some a7) ∧ (w'.cell? ⟨w.heap.size + 1, 0, none⟩ = some z0 ∧ w'.cell? ⟨w.heap.size + 1, 1, none⟩ = some z1 ∧ w'.cell? ⟨w.heap.size + 1, 2, none⟩ = some z2 ∧ w'.cell? ⟨w.heap.size + 1, 3, none⟩ = some z3 ∧ w'.cell? ⟨w.heap.size + 1, 4, none⟩ = some z4 ∧ w'.cell? ⟨w.heap.size + 1, 5, none⟩ = some z5 ∧ w'.cell? ⟨w.heap.size + 1, 6, none⟩ = some z6 ∧ w'.cell? ⟨w.heap.size + 1, 7, none⟩ = some z7) := by
 refine ⟨⟨k.cell' ?_ (by simp), k.cell' ?_ (by simp), k.cell' ?_ (by simp), k.cell' ?_ (by simp), k.cell' ?_ (by simp), k.cell' ?_ (by simp), k.cell' ?_ (by simp), k.cell' ?_ (by simp)⟩, ⟨k.cell' ?_ (by simp), k.cell' ?_ (by simp), k.cell' ?_ (by simp), k.cell' ?_ (by simp), k.cell' ?_ (by simp), k.cell' ?_ (by simp), k.cell' ?_ (by simp), k.cell' ?_ (by simp)⟩⟩ <;> simp [go_sem]
set_option maxRecDepth 1000000 in
set_option maxHeartbeats 1600000 in
theorem lentTuple_any (y : K7) (u : Value) (l : List AD) (w : World) (hu : As w u l) (hl : l.length * 88 ≤ 140737488351232) (ht : ∀ x ∈ l, x.val.texts.length * 16 ≤ 140737488351232) :
  Calls Tryz.prog 4 #[y.tup u] w fun e w' => ∃ g cap, e = .returned (y.tup (.slice (some ⟨g, 0, none⟩) l.length cap)) ∧ Lg w' w.heap.size g cap l ∧ Keep [] w w' := by
 have hL := fun w1 k => lentArgs_any u l w1 (hu.keep0 (w' := w1) k) hl ht
 obtain ⟨ao, ca, rfl, _, _, _⟩ := hu.ex
 clear hu
 obtain ⟨a, b, c, d, e, f, h⟩ := y
 go_enter Tryz.func4, Tryz.ntmps4
 go_wp2_with fail
 refine (hL _ ((Keep.alloc1 w _).alloc _)).mono ?_
 rintro e9 w1 ⟨g, cap, rfl, hLg, k1⟩
 obtain ⟨⟨c0, c1, c2, c3, c4, c5, c6, c7⟩, ⟨d0, d1, d2, d3, d4, d5, d6, d7⟩⟩ := two_cells8 k1
 have fz : w1.frozen? ⟨w.heap.size, 7, none⟩ = false := (k1.frozen (by simp; omega) (by simp)).trans (by simp)
 have g0 : w1.frozen? ⟨w.heap.size + 1, 0, none⟩ = false := (k1.frozen (by simp) (by simp)).trans (by simp)
 have g1 : w1.frozen? ⟨w.heap.size + 1, 1, none⟩ = false := (k1.frozen (by simp) (by simp)).trans (by simp)
 have g2 : w1.frozen? ⟨w.heap.size + 1, 2, none⟩ = false := (k1.frozen (by simp) (by simp)).trans (by simp)
 have g3 : w1.frozen? ⟨w.heap.size + 1, 3, none⟩ = false := (k1.frozen (by simp) (by simp)).trans (by simp)
 have g4 : w1.frozen? ⟨w.heap.size + 1, 4, none⟩ = false := (k1.frozen (by simp) (by simp)).trans (by simp)
 have g5 : w1.frozen? ⟨w.heap.size + 1, 5, none⟩ = false := (k1.frozen (by simp) (by simp)).trans (by simp)
 have g6 : w1.frozen? ⟨w.heap.size + 1, 6, none⟩ = false := (k1.frozen (by simp) (by simp)).trans (by simp)
 have g7 : w1.frozen? ⟨w.heap.size + 1, 7, none⟩ = false := (k1.frozen (by simp) (by simp)).trans (by simp)
 have HK : Hid (Keep [] w w1) := ((Keep.alloc1 w _).alloc _).trans' k1
 have HT : Hid (Lg w1 (w.heap.size + 2) g cap l) := by
  show Lg _ _ _ _ _
  simpa using hLg
 clear hL k1 hLg
 have HQ : ∃ q, Hid (q = w.heap.size) := ⟨_, rfl⟩
 obtain ⟨q, HQ⟩ := HQ
 have hq := HQ.out
 rw [← hq] at c0 c1 c2 c3 c4 c5 c6 c7 d0 d1 d2 d3 d4 d5 d6 d7 fz g0 g1 g2 g3 g4 g5 g6 g7 ⊢
 clear hq
 have hsf := store_f32
 simp only [Go.stored] at hsf
 go_wp2
 have hW := set_8 (w := (w1.setCell ⟨q, 7, none⟩ (.slice (some ⟨g, 0, none⟩) l.length cap))) (b := q + 1) (v0 := .string a) (v1 := .string b) (v2 := .string c) (v3 := .string d) (v4 := .string e) (v5 := .string f) (v6 := .string h) (v7 := .slice (some ⟨g, 0, none⟩) l.length cap)
  (by rw [World.cell?_setCell_other _ _ _ _ (by simp)]; exact d0) (by rw [World.cell?_setCell_other _ _ _ _ (by simp)]; exact d1) (by rw [World.cell?_setCell_other _ _ _ _ (by simp)]; exact d2) (by rw [World.cell?_setCell_other _ _ _ _ (by simp)]; exact d3) (by rw [World.cell?_setCell_other _ _ _ _ (by simp)]; exact d4) (by rw [World.cell?_setCell_other _ _ _ _ (by simp)]; exact d5) (by rw [World.cell?_setCell_other _ _ _ _ (by simp)]; exact d6) (by rw [World.cell?_setCell_other _ _ _ _ (by simp)]; exact d7)
 have KS : Keep [q, q + 1] w1 (((((((((w1.setCell ⟨q, 7, none⟩ (.slice (some ⟨g, 0, none⟩) l.length cap)).setCell ⟨q + 1, 0, none⟩ (.string a)).setCell ⟨q + 1, 1, none⟩ (.string b)).setCell ⟨q + 1, 2, none⟩ (.string c)).setCell ⟨q + 1, 3, none⟩ (.string d)).setCell ⟨q + 1, 4, none⟩ (.string e)).setCell ⟨q + 1, 5, none⟩ (.string f)).setCell ⟨q + 1, 6, none⟩ (.string h)).setCell ⟨q + 1, 7, none⟩ (.slice (some ⟨g, 0, none⟩) l.length cap)) :=
  ((((((((((Keep.refl [q, q + 1] w1).setCell (p := ⟨q, 7, none⟩) (.inl (by simp)) _).setCell (p := ⟨q + 1, 0, none⟩) (.inl (by simp)) _).setCell (p := ⟨q + 1, 1, none⟩) (.inl (by simp)) _).setCell (p := ⟨q + 1, 2, none⟩) (.inl (by simp)) _).setCell (p := ⟨q + 1, 3, none⟩) (.inl (by simp)) _).setCell (p := ⟨q + 1, 4, none⟩) (.inl (by simp)) _).setCell (p := ⟨q + 1, 5, none⟩) (.inl (by simp)) _).setCell (p := ⟨q + 1, 6, none⟩) (.inl (by simp)) _).setCell (p := ⟨q + 1, 7, none⟩) (.inl (by simp)) _)
 generalize (((((((((w1.setCell ⟨q, 7, none⟩ (.slice (some ⟨g, 0, none⟩) l.length cap)).setCell ⟨q + 1, 0, none⟩ (.string a)).setCell ⟨q + 1, 1, none⟩ (.string b)).setCell ⟨q + 1, 2, none⟩ (.string c)).setCell ⟨q + 1, 3, none⟩ (.string d)).setCell ⟨q + 1, 4, none⟩ (.string e)).setCell ⟨q + 1, 5, none⟩ (.string f)).setCell ⟨q + 1, 6, none⟩ (.string h)).setCell ⟨q + 1, 7, none⟩ (.slice (some ⟨g, 0, none⟩) l.length cap)) = W at hW KS ⊢
 obtain ⟨r0, r1, r2, r3, r4, r5, r6, r7⟩ := hW
 refine bodyPost_ret (v := .agg #[.string a, .string b, .string c, .string d, .string e, .string f, .string h, .slice (some ⟨g, 0, none⟩) l.length cap]) (by simp [results, Tryz.results4, go_sem, r0, r1, r2, r3, r4, r5, r6, r7]) rfl ?_
 exact ⟨g, cap, rfl, (HT.out.keep KS (fun x hx => by have := HQ.out; simp at hx; omega)).later (by omega), HK.out.more KS (fun x hx => .inr (by have := HQ.out; simp at hx; omega))⟩
set_option maxRecDepth 1000000 in
set_option maxHeartbeats 1600000 in
theorem sameTuple_self (y : K7) (u v : Value) (l : List AD) (w : World) (hu : As w u l) (hv : As w v l) :
  Calls Tryz.prog 27 #[y.tup u, y.tup v] w fun e w' => e = .returned (.bool true) ∧ Keep [] w w' := by
 have hS := fun w1 (k : Keep [] w w1) => sameArgs_self u v l w1 (hu.keep0 k) (hv.keep0 k)
 obtain ⟨ao, ca, rfl, _, _, _⟩ := hu.ex
 obtain ⟨bo, cb, rfl, _, _, _⟩ := hv.ex
 clear hu hv
 obtain ⟨a, b, c, d, e, f, h⟩ := y
 have K0 : Hid (Keep [] w ((w.alloc (.cells #[.string a, .string b, .string c, .string d, .string e, .string f, .string h, .slice ao l.length ca] 28)).alloc (.cells #[.string a, .string b, .string c, .string d, .string e, .string f, .string h, .slice bo l.length cb] 28))) := (Keep.alloc1 w _).alloc _
 have e1 : (c.toList == c.toList) = true := by simp
 have e2 : (h.toList == h.toList) = true := by simp
 go_enter Tryz.func27, Tryz.ntmps27
 go_wp2_with fail
 refine (hS _ K0.out).mono ?_
 rintro e9 w1 ⟨rfl, k1⟩
 have HK1 : Hid (Keep [] w w1) := K0.out.trans' k1
 clear k1 hS
 go_wp2
 go_ret
 exact ⟨rfl, HK1.out⟩
set_option maxRecDepth 1000000 in
set_option maxHeartbeats 1600000 in
theorem keptTuple_any (y : K7) (lo g cap : Nat) (v : Value) (l : List AD) (w : World) (hx : Lg w lo g cap l) (hv : As w v l) (hl : l.length * 88 ≤ 140737488351232) (ht : ∀ x ∈ l, x.val.texts.length * 16 ≤ 140737488351232) :
  Calls Tryz.prog 10 #[y.tup (.slice (some ⟨g, 0, none⟩) l.length cap), y.tup v] w fun e w' => e = .returned (.bool true) ∧ Keep [] w w' := by
 have hS := fun w1 (k : Keep [] w w1) => sameTuple_self y _ v l w1 ((hx.as hv.ok).keep0 k) (hv.keep0 k)
 have hT := fun w1 (k : Keep [] w w1) => keptArgs_any lo g cap v l w1 (hx.keep k (fun x hx => by cases hx)) (hv.keep0 k) hl ht
 obtain ⟨bo, cb, rfl, _, _, _⟩ := hv.ex
 clear hx hv hl ht
 obtain ⟨a, b, c, d, e, f, h⟩ := y
 have K0 : Hid (Keep [] w ((w.alloc (.cells #[.string a, .string b, .string c, .string d, .string e, .string f, .string h, .slice (some ⟨g, 0, none⟩) l.length cap] 28)).alloc (.cells #[.string a, .string b, .string c, .string d, .string e, .string f, .string h, .slice bo l.length cb] 28))) := (Keep.alloc1 w _).alloc _
 go_enter Tryz.func10, Tryz.ntmps10
 go_wp2_with fail
 refine (hS _ K0.out).mono ?_
 rintro e9 w1 ⟨rfl, k1⟩
 obtain ⟨⟨c0, c1, c2, c3, c4, c5, c6, c7⟩, ⟨d0, d1, d2, d3, d4, d5, d6, d7⟩⟩ := two_cells8 k1
 have HK1 : Hid (Keep [] w w1) := K0.out.trans' k1
 clear k1 hS
 go_wp2_with fail
 refine (hT _ HK1.out).mono ?_
 rintro e9 w2 ⟨rfl, k2⟩
 have HK2 : Hid (Keep [] w w2) := HK1.out.trans' k2
 clear k2 hT c0 c1 c2 c3 c4 c5 c6 c7 d0 d1 d2 d3 d4 d5 d6 d7
 go_wp2
 go_ret
 exact ⟨rfl, HK2.out⟩
end Go.Proofs.YtfpcpociejefaaaGreatDoor

/- A tuple's text and its bytes, plainly; bytes as a string; how long they are. -/
namespace Go.Proofs.YtfpcpociejefaaaGreatDoor
open Go.RowKit Go.PlainAid Go.Lib
theorem fold_push (l : List UInt8) : ∀ r : ByteArray, (l.map fun x => ((x.toNat : Nat) : Int)).foldl (fun (r : ByteArray) (n : Int) => r.push (UInt8.ofNat n.toNat)) r = r ++ ba l := by
 induction l with
 | nil =>
  intro r
  apply ByteArray.ext
  simp [ba]
 | cons x l ih =>
  intro r
  rw [List.map_cons, List.foldl_cons, ih]
  apply ByteArray.ext
  apply Array.toList_inj.1
  simp [ba, ByteArray.data_append, ByteArray.push]
/-- bytes as a string -/
theorem str_bs {w : World} {v : Value} {l : List UInt8} (h : Bs w v l) (hne : l ≠ []) : (convert 33 9 v).run Tryz.prog w = .ok (.string (ba l)) w := by
 rcases h.cases with ⟨rfl, _⟩ | ⟨_, b, o, cap, rfl, h0, h1, h2, hc⟩
 ·exact absurd rfl hne
 ·rw [run_convert_bytes_string w 33 9 5 _ _ _ underS Tryz.underlying5 Tryz.underlying9]
  have hld : (loadCells ⟨b, o, none⟩ l.length).run Tryz.prog w = .ok ((l.map fun x => ((x.toNat : Nat) : Int)).map (Value.int .u8)).toArray w := by
   have h3 := run_loadCells_list (P := Tryz.prog) (w := w) ⟨b, o, none⟩ (bv l) (fun j u hu => by
    have hj : j < l.length := by
     have := (List.getElem?_eq_some_iff.1 hu).1
     simpa [bv_length] using this
    rw [bv_get l j hj] at hu
    have hadd : (⟨b, o, none⟩ : Addr).add j = ⟨b, o + j, none⟩ := by unfold Addr.add; split <;> simp_all
    rw [hadd, hc j hj, List.getD_eq_getElem?_getD, List.getElem?_eq_getElem hj]
    exact hu)
   rw [bv_length] at h3
   rw [h3]
   simp [bv]
  rw [run_bytesToString w _ _ _ _ hld, fold_push]
  congr 2
/-- may the tuple be? -/
noncomputable def mayT (y : K7) (l : List AD) : Bool := (nameL y.a.toList && idL y.b.toList) && nameL y.c.toList && (kindL y.d.toList y.e.toList y.f.toList != 0) && (y.g.toList.isEmpty || nameL y.g.toList) && (decide (argsZ l = 0) && (!y.g.toList.isEmpty || decide (l.length = 0)))
/-- an argument's text -/
def itemT (x : AD) : List UInt8 := x.nm.toList ++ [58, 32] ++ litL x.val
/-- the text of the first k arguments -/
def argsTo (l : List AD) (k : Nat) : List UInt8 := if k = 0 then [] else 123 :: Lib.join ((l.take k).map itemT) [44, 32]
def argsT (l : List AD) : List UInt8 := if l.length = 0 then [] else argsTo l l.length ++ [125]
def keyT (y : K7) : List UInt8 := objTextL y.a.toList y.b.toList ++ [35] ++ y.c.toList ++ [64] ++ subTextL y.d.toList y.e.toList y.f.toList
def condT (y : K7) : List UInt8 := if y.g.toList.isEmpty then [] else [32, 119, 105, 116, 104, 32] ++ y.g.toList
/-- a tuple's text -/
def textT (y : K7) (l : List AD) : List UInt8 := keyT y ++ condT y ++ argsT l
/-- what is written ahead of an argument -/
def sepT (k : Nat) : List UInt8 := if k = 0 then [123] else [44, 32]
theorem argsTo_next (l : List AD) (k : Nat) (h : k < l.length) : argsTo l (k + 1) = argsTo l k ++ (sepT k ++ itemT l[k]) := by
 unfold argsTo sepT
 rw [if_neg (by omega), List.take_succ_eq_append_getElem h, List.map_append, List.map_cons, List.map_nil]
 by_cases h0 : k = 0
 ·subst h0
  rw [if_pos rfl, if_pos rfl]
  simp [Lib.join_cons, Lib.joinTail]
 ·rw [if_neg h0, if_neg h0, join_snoc _ _ _ (List.ne_nil_of_length_pos (by rw [List.length_map, List.length_take]; omega))]
  simp
theorem dec_any (u : Nat) : (Lib.decDigits u).length ≤ u + 1 ∧ ∀ n, 0 < n → u < 10 ^ n → (Lib.decDigits u).length ≤ n := by
 induction u using Nat.strongRecOn with
 | _ u ih =>
  rw [Lib.decDigits]
  split
  ·rename_i h
   exact ⟨by simp, fun n hn _ => by rw [List.length_singleton]; omega⟩
  ·rename_i h
   obtain ⟨i1, i2⟩ := ih (u / 10) (by omega)
   rw [List.length_append, List.length_singleton]
   refine ⟨by omega, fun n hn hu => ?_⟩
   obtain ⟨m, rfl⟩ : ∃ m, n = m + 1 := ⟨n - 1, by omega⟩
   rw [Nat.pow_succ] at hu
   have h3 : u / 10 < 10 ^ m := by omega
   have hm : 0 < m := by
    rcases Nat.eq_zero_or_pos m with rfl | h
    ·simp at h3
     omega
    ·exact h
   have := i2 m hm h3
   omega
theorem itoa_64 (n : Int) (h0 : -9223372036854775808 ≤ n) (h1 : n ≤ 9223372036854775807) : (Lib.itoa n).length ≤ 21 := by
 unfold Lib.itoa
 split
 ·have := (dec_any n.natAbs).2 20 (by decide) (by omega)
  rw [List.length_cons]
  omega
 ·have := (dec_any n.toNat).2 20 (by decide) (by omega)
  omega
theorem textR_le (x : Nat) (hx : x < 4294967296) : (textR x).length ≤ 301 := by
 unfold textR
 split
 ·decide
 ·rename_i hn
  have hle : x % 2147483648 ≤ 2139095040 := by
   unfold nanB at hn
   simpa using hn
  split
  ·rename_i hb
   unfold belowB at hb
   simp at hb
   have := textU_len (x - 2147483648) (by omega)
   rw [List.length_cons]
   omega
  ·rename_i hb
   have : x < 2147483648 := by
    unfold belowB at hb
    simp [hn] at hb
    omega
   have := textU_len x (by omega)
   omega
theorem lit_len (x : VD) (hx : x.Ok) (hm : x.mayB = true) : (litL x).length ≤ 40000 := by
 obtain ⟨s1, s2, s3⟩ := may_short x hm
 unfold litL
 split
 ·split <;> simp
 ·split
  ·have := itoa_64 x.int hx.int0 hx.int1
   omega
  ·split
   ·have := textR_le x.real hx.real1
    omega
   ·split
    ·have := quoL_len x.text.data.toList
     rw [ba_len] at this
     omega
    ·unfold listL
     have h := join_len [44, 32] 1026 (x.texts.map fun t => quoL t.data.toList) (fun q hq => by
      obtain ⟨t, ht, rfl⟩ := List.mem_map.1 hq
      have h1 := quoL_len t.data.toList
      have h2 := s3 t ht
      rw [ba_len] at h1
      omega)
     rw [List.length_map] at h
     simp only [List.length_append, List.length_cons, List.length_nil] at h ⊢
     have : ([44, 32] : List UInt8).length + 1026 = 1028 := rfl
     omega
theorem args_facts (l : List AD) (h : argsZ l = 0) : l.length ≤ 16 ∧ ∀ x ∈ l, nameL x.nm.toList = true ∧ x.val.mayB = true := by
 unfold argsZ at h
 split at h
 ·rename_i h2
  refine ⟨h2.1, fun x hx => ?_⟩
  obtain ⟨i, hi, rfl⟩ := List.mem_iff_getElem.1 hx
  obtain ⟨a, b, _⟩ := h2.2 i hi
  exact ⟨a, b⟩
 ·cases h
theorem nm_size (x : AD) (h : nameL x.nm.toList = true) : x.nm.size ≤ 32 := by
 have := (name_len h).2
 rwa [toList_len] at this
theorem item_len (x : AD) (hx : x.val.Ok) (h1 : nameL x.nm.toList = true) (h2 : x.val.mayB = true) : (itemT x).length ≤ 40034 := by
 have a := (name_len h1).2
 have b := lit_len x.val hx h2
 unfold itemT
 simp only [List.length_append, List.length_cons, List.length_nil]
 omega
theorem argsTo_len (l : List AD) (hok : ∀ x ∈ l, x.val.Ok) (h : argsZ l = 0) : ∀ k, k ≤ l.length → (argsTo l k).length ≤ k * 40036 := by
 obtain ⟨_, h2⟩ := args_facts l h
 intro k
 induction k with
 | zero => intro _; simp [argsTo]
 | succ k ih =>
  intro hk
  have ih := ih (by omega)
  have hx := List.getElem_mem (show k < l.length by omega)
  have := item_len l[k] (hok _ hx) (h2 _ hx).1 (h2 _ hx).2
  rw [argsTo_next l k (by omega), List.length_append, List.length_append]
  have : (sepT k).length ≤ 2 := by unfold sepT; split <;> simp
  omega
theorem argsT_len (l : List AD) (hok : ∀ x ∈ l, x.val.Ok) (h : argsZ l = 0) : (argsT l).length ≤ 700000 := by
 have := argsTo_len l hok h l.length (Nat.le_refl _)
 obtain ⟨h1, _⟩ := args_facts l h
 unfold argsT
 split
 ·simp
 ·rw [List.length_append, List.length_singleton]
  omega
/-- the bytes of seven texts, of the first k -/
def K7.at (y : K7) (k : Nat) : ByteArray := match k with | 0 => y.a | 1 => y.b | 2 => y.c | 3 => y.d | 4 => y.e | 5 => y.f | _ => y.g
def sevB (y : K7) (k : Nat) : List UInt8 := (List.range k).flatMap fun j => vtextB (y.at j)
theorem sevB_next (y : K7) (k : Nat) : sevB y (k + 1) = sevB y k ++ vtextB (y.at k) := by
 unfold sevB
 rw [List.range_succ, List.flatMap_append]
 simp
def argB (x : AD) : List UInt8 := vtextB x.nm ++ vtextB (ba (encL x.val))
def argsB (l : List AD) (k : Nat) : List UInt8 := (l.take k).flatMap argB
theorem argsB_next (l : List AD) (k : Nat) (h : k < l.length) : argsB l (k + 1) = argsB l k ++ vtextB l[k].nm ++ vtextB (ba (encL l[k].val)) := by
 unfold argsB
 rw [List.take_succ_eq_append_getElem h, List.flatMap_append]
 simp [argB]
/-- a tuple's bytes -/
def encT (y : K7) (l : List AD) : List UInt8 := sevB y 7 ++ uvarint l.length ++ argsB l l.length
theorem vtext_len (s : ByteArray) (n : Nat) (h : s.size ≤ n) (hn : n ≤ 1000000) : (vtextB s).length ≤ 10 + n := by
 have := uvarint_length64 (x := s.size) (by omega)
 unfold vtextB
 rw [List.length_append, ba_len]
 omega
theorem enc_len (x : VD) (hx : x.Ok) (hm : x.mayB = true) : (encL x).length ≤ 8801 := by
 have := body_len x hx hm
 unfold encL
 rw [List.length_cons]
 omega
theorem argsB_len (l : List AD) (hok : ∀ x ∈ l, x.val.Ok) (h : argsZ l = 0) : ∀ k, k ≤ l.length → (argsB l k).length ≤ k * 9000 := by
 obtain ⟨_, h2⟩ := args_facts l h
 intro k
 induction k with
 | zero => intro _; simp [argsB]
 | succ k ih =>
  intro hk
  have ih := ih (by omega)
  have hx := List.getElem_mem (show k < l.length by omega)
  have a := vtext_len l[k].nm 32 (nm_size _ (h2 _ hx).1) (by decide)
  have b := vtext_len (ba (encL l[k].val)) 8801 (by rw [ba_size]; exact enc_len _ (hok _ hx) (h2 _ hx).2) (by decide)
  rw [argsB_next l k (by omega), List.length_append, List.length_append]
  omega
structure K7.Short (y : K7) : Prop where
 s : ∀ k, (y.at k).size ≤ 128
theorem sevB_len (y : K7) (h : y.Short) : ∀ k, (sevB y k).length ≤ k * 138 := by
 intro k
 induction k with
 | zero => simp [sevB]
 | succ k ih =>
  have := vtext_len (y.at k) 128 (h.s k) (by decide)
  rw [sevB_next, List.length_append]
  omega
end Go.Proofs.YtfpcpociejefaaaGreatDoor

/- The program's writing of texts into a builder; writeArgs. -/
namespace Go.Proofs.YtfpcpociejefaaaGreatDoor
open Go.RowKit Go.PlainAid
theorem cells8 {w w1 : World} {v0 v1 v2 v3 v4 v5 v6 v7 : Value} (k : Keep [] (w.alloc (.cells #[v0, v1, v2, v3, v4, v5, v6, v7] 28)) w1) :
  w1.cell? ⟨w.heap.size, 0, none⟩ = some v0 ∧ w1.cell? ⟨w.heap.size, 1, none⟩ = some v1 ∧ w1.cell? ⟨w.heap.size, 2, none⟩ = some v2 ∧ w1.cell? ⟨w.heap.size, 3, none⟩ = some v3 ∧ w1.cell? ⟨w.heap.size, 4, none⟩ = some v4 ∧ w1.cell? ⟨w.heap.size, 5, none⟩ = some v5 ∧ w1.cell? ⟨w.heap.size, 6, none⟩ = some v6 ∧ w1.cell? ⟨w.heap.size, 7, none⟩ = some v7 := by
 refine ⟨k.cell' ?_ (by simp), k.cell' ?_ (by simp), k.cell' ?_ (by simp), k.cell' ?_ (by simp), k.cell' ?_ (by simp), k.cell' ?_ (by simp), k.cell' ?_ (by simp), k.cell' ?_ (by simp)⟩ <;> simp [go_sem]
/-- a builder at b, new in w0, has written l -/
def Bu (w0 w : World) (l : List UInt8) : Prop := Lib.IsBuilder 42 5 w0.heap.size w0.heap.size (Lib.byteCells l) w ∧ Keep [] w0 w ∧ w0.heap.size ≤ w.heap.size
theorem bu_at {b : Nat} {xs : List Value} {p : Value} {w w' : World} (h : Lib.BuilderAt 42 5 b b p xs w) (k : Keep [] w w') : Lib.BuilderAt 42 5 b b p xs w' := by
 have hlt := h.lt
 obtain ⟨hB, v, hv, hown, hne⟩ := h
 exact ⟨hB, v, (k.block b hlt (by simp)).trans hv, hown.kept (row := none) ⟨k.os, k.tape, k.output, k.size, fun i hi _ => k.block i hi (by simp)⟩ (Classical.em _), hne⟩
theorem Bu.keep {w0 w w' : World} {l : List UInt8} (h : Bu w0 w l) (k : Keep [] w w') : Bu w0 w' l :=
 ⟨h.1.elim (fun x => .inl (bu_at x k)) (fun x => .inr (bu_at x k)), h.2.1.trans' k, Nat.le_trans h.2.2 k.size⟩
theorem Bu.start (w : World) : Bu w (w.alloc (.cells #[.pointer none, .slice none 0 0] 42)) [] :=
 ⟨Lib.fresh_isBuilder 42 5 w, Keep.alloc1 w _, by simp⟩
theorem cells_app (l m : List UInt8) : Lib.byteCells (l ++ m) = Lib.byteCells l ++ Lib.byteCells m := by
 simp [Lib.byteCells]
theorem Bu.write {w0 w : World} {l : List UInt8} (h : Bu w0 w l) (s : ByteArray) (hl : l.length ≤ 1000000) (hs : s.size ≤ 1000000) :
  Calls Tryz.prog 13 #[.pointer (some ⟨w0.heap.size, 0, none⟩), .string s] w fun e w' => e = .returned (.tuple #[.int .i64 s.size, .nilIface]) ∧ Bu w0 w' (l ++ s.data.toList) := by
 have hlen : (Lib.byteCells l).length + s.size ≤ 140737488355328 := by
  have : (Lib.byteCells l).length = l.length := by simp [Lib.byteCells]
  omega
 refine (Any.Builder_WriteString { Tryz.lays156 with } Tryz.Builder_Extra_156 w0.heap.size w0.heap.size (Lib.byteCells l) s w h.1 hlen h.2.2).mono ?_
 rintro e w' ⟨rfl, h1, h2⟩
 refine ⟨rfl, .inr ?_, Keep.ofBelow (h.2.1.below.trans h2), Nat.le_trans h.2.2 h2.size⟩
 rw [cells_app]
 exact h1
theorem Bu.string {w0 w : World} {l : List UInt8} (h : Bu w0 w l) (hne : l ≠ []) :
  Calls Tryz.prog 16 #[.pointer (some ⟨w0.heap.size, 0, none⟩)] w fun e w' => e = .returned (.string (ba l)) ∧ Keep [] w0 w' := by
 refine (Any.Builder_String { Tryz.lays156 with } Tryz.Builder_Extra_156 w0.heap.size w0.heap.size l w h.1 hne).mono ?_
 rintro e w' ⟨rfl, h2⟩
 exact ⟨rfl, Keep.ofBelow (h.2.1.below.trans h2)⟩
theorem sep_ba (k : Nat) : ba (sepT k) = if k = 0 then ⟨#[123]⟩ else ⟨#[44, 32]⟩ := by
 unfold sepT
 split <;> rfl
set_option maxRecDepth 1000000 in
set_option maxHeartbeats 1000000 in
theorem writeArgs_any (u : Value) (l : List AD) (w0 : World) (hu : As w0 u l) (hz : argsZ l = 0) (hT : TabV w0) (p : List UInt8) (hp : p.length ≤ 10000) (w : World) (hB : Bu w0 w p) :
  Calls Tryz.prog 15 #[.pointer (some ⟨w0.heap.size, 0, none⟩), u] w fun e w' => e = .returned (.tuple #[]) ∧ Bu w0 w' (p ++ argsT l) := by
 obtain ⟨ao, ca, rfl, h1, h2, h4⟩ := hu.ex
 obtain ⟨f1, f2⟩ := args_facts l hz
 have hTL := argsT_len l hu.ok hz
 have hAL := argsTo_len l hu.ok hz
 have HB : Hid (Bu w0 w p) := hB
 by_cases h0 : l.length = 0
 ·have hli : ((l.length : Int) == 0) = true := by simpa using h0
  have e : argsT l = [] := by unfold argsT; rw [if_pos h0]
  rw [e, List.append_nil]
  clear hu h4 f1 f2 hTL hAL hT hB hli
  rw [h0]
  go_enter Tryz.func15, Tryz.ntmps15
  go_wp2
  refine bodyPost_ret (results_none rfl _ _ _) rfl ?_
  exact ⟨rfl, HB.out⟩
 ·have hli : ((l.length : Int) == 0) = false := by simpa using h0
  obtain ⟨b, o, rfl, hat⟩ := h4 (fun e => h0 (by rw [e]; rfl))
  have HA : Hid (∀ i (h : i < l.length), ∃ u, ArgC w0 b (o + i * 7) l[i] u ∧ Ts w0 u l[i].val.texts) := hat
  have HO : Hid (∀ x ∈ l, x.val.Ok) := hu.ok
  have HF : Hid (∀ x ∈ l, nameL x.nm.toList = true ∧ x.val.mayB = true) := f2
  have HL : Hid (∀ k, k ≤ l.length → (argsTo l k).length ≤ k * 40036) := hAL
  have HT : Hid (TabV w0) := hT
  have e : argsT l = argsTo l l.length ++ [125] := by unfold argsT; rw [if_neg h0]
  have HE : Hid (argsT l = argsTo l l.length ++ [125]) := e
  have hsf := store_f32
  simp only [Go.stored] at hsf
  clear hu h4 f2 hTL hAL hT hB hat e
  obtain ⟨q, HQ⟩ : ∃ q, Hid (q = w0.heap.size) := ⟨_, rfl⟩
  have hq := HQ.out
  rw [← hq]
  clear hq
  go_enter Tryz.func15, Tryz.ntmps15
  go_wp2
  go_loopw [4, 14] (fun a i wr => ∃ k : Nat, k ≤ l.length ∧ i = .int .i64 k ∧ a = .string (ba (sepT k)) ∧ Bu w0 wr (p ++ argsTo l k)) (fun _ i _ => l.length - (RowKit.intOf i).toNat)
  case atStart => exact ⟨0, Nat.zero_le _, rfl, rfl, by simpa [argsTo] using HB.out⟩
  case round =>
   obtain ⟨k, hk, rfl, rfl, hbu⟩ := hrel
   by_cases hkl : k < l.length
   ·have hki : (k : Int) < (l.length : Int) := by omega
    obtain ⟨uu, hA, hU⟩ := HA.out k hkl
    have hok := HO.out l[k] (List.getElem_mem hkl)
    obtain ⟨hnm, hmy⟩ := HF.out l[k] (List.getElem_mem hkl)
    have hA' := hA.keep hbu.2.1
    obtain ⟨c0, c1, c2, c3, c4, c5, c6⟩ := hA'
    have hTx := fun w1 (k1 : Keep [] w0 w1) => text_yes l[k].val hok hmy uu w1 (hU.keep k1 (Off.nil _)) (HT.out.keep k1)
    have hll := lit_len l[k].val hok hmy
    have hns := nm_size l[k] hnm
    have hnx := argsTo_next l k hkl
    have hal := HL.out k hk
    obtain ⟨au, cu, rfl, _, _, _, _⟩ := hU.ex
    have HTx : Hid _ := hTx
    have HBu : Hid (Bu w0 wr (p ++ argsTo l k)) := hbu
    have HN : Hid (argsTo l (k + 1) = argsTo l k ++ (sepT k ++ itemT l[k])) := hnx
    have hsl : (sepT k).length ≤ 2 := by unfold sepT; split <;> simp
    have HS : Hid (∀ s : ByteArray, s.data.toList = sepT k ++ itemT l[k] → s.size ≤ 1000000) := fun s hs => by
     have h3 : s.data.toList.length = s.size := Array.length_toList
     have h5 := (name_len hnm).2
     rw [← h3, hs, List.length_append]
     unfold itemT
     simp only [List.length_append, List.length_cons, List.length_nil]
     omega
    have HP : Hid ((p ++ argsTo l k).length ≤ 1000000) := by
     show _ ≤ _
     rw [List.length_append]
     have : k * 40036 ≤ 16 * 40036 := Nat.mul_le_mul_right _ (by omega)
     omega
    have HI : Hid (sepT k ++ itemT l[k] = sepT k ++ (l[k].nm.toList ++ [58, 32] ++ litL l[k].val)) := rfl
    have hz1 : (ba (sepT k)).size = (sepT k).length := ba_size _
    have hz2 : (ba (litL l[k].val)).size = (litL l[k].val).length := ba_size _
    have HZ : Hid (∀ A B : ByteArray, A = ba (sepT k) → B = ba (litL l[k].val) → ((A ++ l[k].nm ++ ⟨#[58, 32]⟩) ++ B).data.toList = sepT k ++ itemT l[k]) := fun A B hA hB => by
     rw [hA, hB, HI.out]
     simp [ByteArray.data_append, ba, ByteArray.toList_eq]
    have hA2 : (ba (sepT k)).size ≤ 2 := by omega
    have hB2 : (ba (litL l[k].val)).size ≤ 40000 := by omega
    clear hA hU hok hnm hmy hbu hTx hnx hal hll hsl hz1 hz2 HI
    obtain ⟨A, hA3⟩ : ∃ A, A = ba (sepT k) := ⟨_, rfl⟩
    obtain ⟨B, hB3⟩ : ∃ B, B = ba (litL l[k].val) := ⟨_, rfl⟩
    have HA1 : Hid (A = ba (sepT k)) := hA3
    have HB1 : Hid (B = ba (litL l[k].val)) := hB3
    rw [← hA3] at hA2 ⊢
    rw [← hB3] at hB2 HTx
    clear hA3 hB3
    have HW := HZ.out A B HA1.out HB1.out
    have HW2 : Hid (((A ++ l[k].nm ++ ⟨#[58, 32]⟩) ++ B).data.toList = sepT k ++ itemT l[k]) := HW
    clear HZ HW HA1 HB1
    have hsz : (A ++ l[k].nm).size = A.size + l[k].nm.size := by simp
    generalize l[k] = x at *
    go_wp2_with fail
    refine (HTx.out _ (HBu.out.2.1.alloc _)).mono ?_
    rintro e9 w1 ⟨rfl, k1⟩
    obtain ⟨d0, d1, d2, d3, d4, d5, d6, _⟩ := arg_start (Keep.refl [] wr) k1
    have HK1 : Hid (Bu w0 w1 (p ++ argsTo l k)) := HBu.out.keep ((Keep.alloc1 wr _).trans' k1)
    clear k1 HTx c0 c1 c2 c3 c4 c5 c6
    go_wp2_with fail
    have hq := HQ.out
    subst hq
    refine (HK1.out.write _ HP.out (HS.out _ HW2.out)).mono ?_
    rintro e9 w2 ⟨rfl, hb2⟩
    rw [HW2.out] at hb2
    have HB2 : Hid (Bu w0 w2 (p ++ argsTo l (k + 1))) := by
     show Bu _ _ _
     rw [HN.out, ← List.append_assoc p]
     exact hb2
    clear hb2
    go_wp2
    go_round
    case rel => exact ⟨k + 1, by omega, by go_num, by rw [sep_ba, if_neg (by omega)], HB2.out⟩
    case measure => simp [RowKit.intOf]; omega
   ·obtain rfl : k = l.length := by omega
    have hki : ¬ ((l.length : Int) < (l.length : Int)) := by omega
    have HBu : Hid (Bu w0 wr (p ++ argsTo l l.length)) := hbu
    have HP : Hid ((p ++ argsTo l l.length).length ≤ 1000000) := by
     show _ ≤ _
     have := HL.out l.length (Nat.le_refl _)
     rw [List.length_append]
     have : l.length * 40036 ≤ 16 * 40036 := Nat.mul_le_mul_right _ (by omega)
     omega
    clear hbu
    go_wp2_with fail
    have hq := HQ.out
    subst hq
    refine (HBu.out.write ⟨#[125]⟩ HP.out (by decide)).mono ?_
    rintro e9 w2 ⟨rfl, hb2⟩
    have HB2 : Hid (Bu w0 w2 (p ++ argsT l)) := by
     show Bu _ _ _
     rw [HE.out, ← List.append_assoc p]
     exact hb2
    clear hb2
    go_wp2
    go_end0
    exact ⟨rfl, HB2.out⟩
end Go.Proofs.YtfpcpociejefaaaGreatDoor
