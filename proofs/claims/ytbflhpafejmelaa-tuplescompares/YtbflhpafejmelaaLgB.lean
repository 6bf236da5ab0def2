/- LentArg and KeptArg. -/
import Derived.Test.YtbflhpafejmelaaLgA
namespace Go.Proofs.Ytbflhpafejmelaa
open Go.RowKit Go.PlainAid

theorem set_7 {w : World} {b : Nat} {v0 v1 v2 v3 v4 v5 v6 u0 u1 u2 u3 u4 u5 u6 : Value} (d0 : w.cell? ⟨b, 0, none⟩ = some u0) (d1 : w.cell? ⟨b, 1, none⟩ = some u1) (d2 : w.cell? ⟨b, 2, none⟩ = some u2) (d3 : w.cell? ⟨b, 3, none⟩ = some u3) (d4 : w.cell? ⟨b, 4, none⟩ = some u4) (d5 : w.cell? ⟨b, 5, none⟩ = some u5) (d6 : w.cell? ⟨b, 6, none⟩ = some u6) :
    (((((((w.setCell ⟨b, 0, none⟩ v0).setCell ⟨b, 1, none⟩ v1).setCell ⟨b, 2, none⟩ v2).setCell ⟨b, 3, none⟩ v3).setCell ⟨b, 4, none⟩ v4).setCell ⟨b, 5, none⟩ v5).setCell ⟨b, 6, none⟩ v6).cell? ⟨b, 0, none⟩ = some v0 ∧
    (((((((w.setCell ⟨b, 0, none⟩ v0).setCell ⟨b, 1, none⟩ v1).setCell ⟨b, 2, none⟩ v2).setCell ⟨b, 3, none⟩ v3).setCell ⟨b, 4, none⟩ v4).setCell ⟨b, 5, none⟩ v5).setCell ⟨b, 6, none⟩ v6).cell? ⟨b, 1, none⟩ = some v1 ∧
    (((((((w.setCell ⟨b, 0, none⟩ v0).setCell ⟨b, 1, none⟩ v1).setCell ⟨b, 2, none⟩ v2).setCell ⟨b, 3, none⟩ v3).setCell ⟨b, 4, none⟩ v4).setCell ⟨b, 5, none⟩ v5).setCell ⟨b, 6, none⟩ v6).cell? ⟨b, 2, none⟩ = some v2 ∧
    (((((((w.setCell ⟨b, 0, none⟩ v0).setCell ⟨b, 1, none⟩ v1).setCell ⟨b, 2, none⟩ v2).setCell ⟨b, 3, none⟩ v3).setCell ⟨b, 4, none⟩ v4).setCell ⟨b, 5, none⟩ v5).setCell ⟨b, 6, none⟩ v6).cell? ⟨b, 3, none⟩ = some v3 ∧
    (((((((w.setCell ⟨b, 0, none⟩ v0).setCell ⟨b, 1, none⟩ v1).setCell ⟨b, 2, none⟩ v2).setCell ⟨b, 3, none⟩ v3).setCell ⟨b, 4, none⟩ v4).setCell ⟨b, 5, none⟩ v5).setCell ⟨b, 6, none⟩ v6).cell? ⟨b, 4, none⟩ = some v4 ∧
    (((((((w.setCell ⟨b, 0, none⟩ v0).setCell ⟨b, 1, none⟩ v1).setCell ⟨b, 2, none⟩ v2).setCell ⟨b, 3, none⟩ v3).setCell ⟨b, 4, none⟩ v4).setCell ⟨b, 5, none⟩ v5).setCell ⟨b, 6, none⟩ v6).cell? ⟨b, 5, none⟩ = some v5 ∧
    (((((((w.setCell ⟨b, 0, none⟩ v0).setCell ⟨b, 1, none⟩ v1).setCell ⟨b, 2, none⟩ v2).setCell ⟨b, 3, none⟩ v3).setCell ⟨b, 4, none⟩ v4).setCell ⟨b, 5, none⟩ v5).setCell ⟨b, 6, none⟩ v6).cell? ⟨b, 6, none⟩ = some v6 := by
  refine ⟨?_, ?_, ?_, ?_, ?_, ?_, ?_⟩
  · rw [World.cell?_setCell_other _ _ _ _ (by simp), World.cell?_setCell_other _ _ _ _ (by simp), World.cell?_setCell_other _ _ _ _ (by simp), World.cell?_setCell_other _ _ _ _ (by simp), World.cell?_setCell_other _ _ _ _ (by simp), World.cell?_setCell_other _ _ _ _ (by simp)]; exact World.cell?_setCell_same _ _ _ (by exact d0)
  · rw [World.cell?_setCell_other _ _ _ _ (by simp), World.cell?_setCell_other _ _ _ _ (by simp), World.cell?_setCell_other _ _ _ _ (by simp), World.cell?_setCell_other _ _ _ _ (by simp), World.cell?_setCell_other _ _ _ _ (by simp)]; exact World.cell?_setCell_same _ _ _ (by rw [World.cell?_setCell_other _ _ _ _ (by simp)]; exact d1)
  · rw [World.cell?_setCell_other _ _ _ _ (by simp), World.cell?_setCell_other _ _ _ _ (by simp), World.cell?_setCell_other _ _ _ _ (by simp), World.cell?_setCell_other _ _ _ _ (by simp)]; exact World.cell?_setCell_same _ _ _ (by rw [World.cell?_setCell_other _ _ _ _ (by simp), World.cell?_setCell_other _ _ _ _ (by simp)]; exact d2)
  · rw [World.cell?_setCell_other _ _ _ _ (by simp), World.cell?_setCell_other _ _ _ _ (by simp), World.cell?_setCell_other _ _ _ _ (by simp)]; exact World.cell?_setCell_same _ _ _ (by rw [World.cell?_setCell_other _ _ _ _ (by simp), World.cell?_setCell_other _ _ _ _ (by simp), World.cell?_setCell_other _ _ _ _ (by simp)]; exact d3)
  · rw [World.cell?_setCell_other _ _ _ _ (by simp), World.cell?_setCell_other _ _ _ _ (by simp)]; exact World.cell?_setCell_same _ _ _ (by rw [World.cell?_setCell_other _ _ _ _ (by simp), World.cell?_setCell_other _ _ _ _ (by simp), World.cell?_setCell_other _ _ _ _ (by simp), World.cell?_setCell_other _ _ _ _ (by simp)]; exact d4)
  · rw [World.cell?_setCell_other _ _ _ _ (by simp)]; exact World.cell?_setCell_same _ _ _ (by rw [World.cell?_setCell_other _ _ _ _ (by simp), World.cell?_setCell_other _ _ _ _ (by simp), World.cell?_setCell_other _ _ _ _ (by simp), World.cell?_setCell_other _ _ _ _ (by simp), World.cell?_setCell_other _ _ _ _ (by simp)]; exact d5)
  · exact World.cell?_setCell_same _ _ _ (by rw [World.cell?_setCell_other _ _ _ _ (by simp), World.cell?_setCell_other _ _ _ _ (by simp), World.cell?_setCell_other _ _ _ _ (by simp), World.cell?_setCell_other _ _ _ _ (by simp), World.cell?_setCell_other _ _ _ _ (by simp), World.cell?_setCell_other _ _ _ _ (by simp)]; exact d6)
theorem two_cells7 {w w' : World} {a0 a1 a2 a3 a4 a5 a6 z0 z1 z2 z3 z4 z5 z6 : Value} (k : Keep [] ((w.alloc (.cells #[a0, a1, a2, a3, a4, a5, a6] 49)).alloc (.cells #[z0, z1, z2, z3, z4, z5, z6] 49)) w') :
    (w'.cell? ⟨w.heap.size, 0, none⟩ = some a0 ∧ w'.cell? ⟨w.heap.size, 1, none⟩ = some a1 ∧ w'.cell? ⟨w.heap.size, 2, none⟩ = some a2 ∧ w'.cell? ⟨w.heap.size, 3, none⟩ = some a3 ∧ w'.cell? ⟨w.heap.size, 4, none⟩ = some a4 ∧ w'.cell? ⟨w.heap.size, 5, none⟩ = some a5 ∧ w'.cell? ⟨w.heap.size, 6, none⟩ = some a6) ∧ (w'.cell? ⟨w.heap.size + 1, 0, none⟩ = some z0 ∧ w'.cell? ⟨w.heap.size + 1, 1, none⟩ = some z1 ∧ w'.cell? ⟨w.heap.size + 1, 2, none⟩ = some z2 ∧ w'.cell? ⟨w.heap.size + 1, 3, none⟩ = some z3 ∧ w'.cell? ⟨w.heap.size + 1, 4, none⟩ = some z4 ∧ w'.cell? ⟨w.heap.size + 1, 5, none⟩ = some z5 ∧ w'.cell? ⟨w.heap.size + 1, 6, none⟩ = some z6) := by
  refine ⟨⟨k.cell' ?_ (by simp), k.cell' ?_ (by simp), k.cell' ?_ (by simp), k.cell' ?_ (by simp), k.cell' ?_ (by simp), k.cell' ?_ (by simp), k.cell' ?_ (by simp)⟩, ⟨k.cell' ?_ (by simp), k.cell' ?_ (by simp), k.cell' ?_ (by simp), k.cell' ?_ (by simp), k.cell' ?_ (by simp), k.cell' ?_ (by simp), k.cell' ?_ (by simp)⟩⟩ <;> simp [go_sem]
set_option maxRecDepth 1000000 in
set_option maxHeartbeats 1600000 in
theorem lentArg_any (p : AD) (u : Value) (w : World) (hu : Ts w u p.val.texts) (hlen : p.val.texts.length ≤ 8796093021952) :
    Calls Try.prog 29 #[p.agg u] w fun e w' => ∃ g cap, e = .returned (p.agg (.slice (some ⟨g, 0, none⟩) p.val.texts.length cap)) ∧ (Ts w' (.slice (some ⟨g, 0, none⟩) (p.val.texts.length + 24) cap) (p.val.texts ++ marks 24) ∧ Ts w' (.slice (some ⟨g, 0, none⟩) p.val.texts.length cap) p.val.texts) ∧ Keep [] w w' ∧ w.heap.size ≤ g := by
  have hL := fun w1 k => lentTexts_any u p.val.texts w1 (hu.keep (F := []) (w' := w1) k (Off.nil _)) hlen
  obtain ⟨ao, ca, rfl, _, _, _, _⟩ := hu.ex
  clear hu
  obtain ⟨m, kd, b, n, x, t, ts⟩ := p
  simp only [] at hL hlen ⊢
  go_enter Try.func29, Try.ntmps29
  go_wp2_with fail
  refine (hL _ ((Keep.alloc1 w _).alloc _)).mono ?_
  rintro e9 w1 ⟨g, cap, rfl, ⟨h1, h2⟩, k1, hg⟩
  obtain ⟨⟨c0, c1, c2, c3, c4, c5, c6⟩, ⟨d0, d1, d2, d3, d4, d5, d6⟩⟩ := two_cells7 k1
  have fz : w1.frozen? ⟨w.heap.size, 6, none⟩ = false := (k1.frozen (by simp; omega) (by simp)).trans (by simp)
  have g0 : w1.frozen? ⟨w.heap.size + 1, 0, none⟩ = false := (k1.frozen (by simp) (by simp)).trans (by simp)
  have g1 : w1.frozen? ⟨w.heap.size + 1, 1, none⟩ = false := (k1.frozen (by simp) (by simp)).trans (by simp)
  have g2 : w1.frozen? ⟨w.heap.size + 1, 2, none⟩ = false := (k1.frozen (by simp) (by simp)).trans (by simp)
  have g3 : w1.frozen? ⟨w.heap.size + 1, 3, none⟩ = false := (k1.frozen (by simp) (by simp)).trans (by simp)
  have g4 : w1.frozen? ⟨w.heap.size + 1, 4, none⟩ = false := (k1.frozen (by simp) (by simp)).trans (by simp)
  have g5 : w1.frozen? ⟨w.heap.size + 1, 5, none⟩ = false := (k1.frozen (by simp) (by simp)).trans (by simp)
  have g6 : w1.frozen? ⟨w.heap.size + 1, 6, none⟩ = false := (k1.frozen (by simp) (by simp)).trans (by simp)
  have hgq : w.heap.size + 2 ≤ g := by simpa using hg
  have HK : Hid (Keep [] w w1) := ((Keep.alloc1 w _).alloc _).trans' k1
  have HT : Hid (Ts w1 (.slice (some ⟨g, 0, none⟩) (ts.length + 24) cap) (ts ++ marks 24) ∧ Ts w1 (.slice (some ⟨g, 0, none⟩) ts.length cap) ts) := ⟨h1, h2⟩
  clear hL k1 hg h1 h2
  have HG : Hid (w.heap.size + 2 ≤ g) := hgq
  clear hgq
  have HQ : ∃ q, Hid (q = w.heap.size) := ⟨_, rfl⟩
  obtain ⟨q, HQ⟩ := HQ
  have hq := HQ.out
  rw [← hq] at c0 c1 c2 c3 c4 c5 c6 d0 d1 d2 d3 d4 d5 d6 fz g0 g1 g2 g3 g4 g5 g6 ⊢
  clear hq
  have hsf := store_f32
  simp only [Go.stored] at hsf
  go_wp2
  have hW := set_7 (w := (w1.setCell ⟨q, 6, none⟩ (.slice (some ⟨g, 0, none⟩) ts.length cap))) (b := q + 1) (v0 := .string m) (v1 := .int .i64 kd) (v2 := .bool b) (v3 := .int .i64 n) (v4 := .float .f32 x) (v5 := .string t) (v6 := .slice (some ⟨g, 0, none⟩) ts.length cap)
    (by rw [World.cell?_setCell_other _ _ _ _ (by simp)]; exact d0) (by rw [World.cell?_setCell_other _ _ _ _ (by simp)]; exact d1) (by rw [World.cell?_setCell_other _ _ _ _ (by simp)]; exact d2) (by rw [World.cell?_setCell_other _ _ _ _ (by simp)]; exact d3) (by rw [World.cell?_setCell_other _ _ _ _ (by simp)]; exact d4) (by rw [World.cell?_setCell_other _ _ _ _ (by simp)]; exact d5) (by rw [World.cell?_setCell_other _ _ _ _ (by simp)]; exact d6)
  have KS : Keep [q, q + 1] w1 ((((((((w1.setCell ⟨q, 6, none⟩ (.slice (some ⟨g, 0, none⟩) ts.length cap)).setCell ⟨q + 1, 0, none⟩ (.string m)).setCell ⟨q + 1, 1, none⟩ (.int .i64 kd)).setCell ⟨q + 1, 2, none⟩ (.bool b)).setCell ⟨q + 1, 3, none⟩ (.int .i64 n)).setCell ⟨q + 1, 4, none⟩ (.float .f32 x)).setCell ⟨q + 1, 5, none⟩ (.string t)).setCell ⟨q + 1, 6, none⟩ (.slice (some ⟨g, 0, none⟩) ts.length cap)) :=
    (((((((((Keep.refl [q, q + 1] w1).setCell (p := ⟨q, 6, none⟩) (.inl (by simp)) _).setCell (p := ⟨q + 1, 0, none⟩) (.inl (by simp)) _).setCell (p := ⟨q + 1, 1, none⟩) (.inl (by simp)) _).setCell (p := ⟨q + 1, 2, none⟩) (.inl (by simp)) _).setCell (p := ⟨q + 1, 3, none⟩) (.inl (by simp)) _).setCell (p := ⟨q + 1, 4, none⟩) (.inl (by simp)) _).setCell (p := ⟨q + 1, 5, none⟩) (.inl (by simp)) _).setCell (p := ⟨q + 1, 6, none⟩) (.inl (by simp)) _)
  generalize ((((((((w1.setCell ⟨q, 6, none⟩ (.slice (some ⟨g, 0, none⟩) ts.length cap)).setCell ⟨q + 1, 0, none⟩ (.string m)).setCell ⟨q + 1, 1, none⟩ (.int .i64 kd)).setCell ⟨q + 1, 2, none⟩ (.bool b)).setCell ⟨q + 1, 3, none⟩ (.int .i64 n)).setCell ⟨q + 1, 4, none⟩ (.float .f32 x)).setCell ⟨q + 1, 5, none⟩ (.string t)).setCell ⟨q + 1, 6, none⟩ (.slice (some ⟨g, 0, none⟩) ts.length cap)) = W at hW KS ⊢
  obtain ⟨r0, r1, r2, r3, r4, r5, r6⟩ := hW
  refine bodyPost_ret (v := .agg #[.string m, .int .i64 kd, .bool b, .int .i64 n, .float .f32 x, .string t, .slice (some ⟨g, 0, none⟩) ts.length cap]) (by simp [results, Try.results29, go_sem, r0, r1, r2, r3, r4, r5, r6]) rfl ?_
  have hoff : Off (.slice (some ⟨g, 0, none⟩) ts.length cap) [q, q + 1] := fun k hk hn => by
    have h1 := HG.out
    have h2 := HQ.out
    simp [Value.ownBlock] at hk hn
    omega
  have hoff2 : Off (.slice (some ⟨g, 0, none⟩) (ts.length + 24) cap) [q, q + 1] := fun k hk hn => by
    have h1 := HG.out
    have h2 := HQ.out
    simp [Value.ownBlock] at hk hn
    omega
  exact ⟨g, cap, rfl, ⟨HT.out.1.keep KS hoff2, HT.out.2.keep KS hoff⟩, HK.out.more KS (fun x hx => .inr (by have := HQ.out; simp at hx; omega)), by have := HG.out; omega⟩

set_option maxRecDepth 1000000 in
set_option maxHeartbeats 1600000 in
theorem keptArg_any (p : AD) (g cap : Nat) (v : Value) (w : World) (hx : Ts w (.slice (some ⟨g, 0, none⟩) (p.val.texts.length + 24) cap) (p.val.texts ++ marks 24)) (hx2 : Ts w (.slice (some ⟨g, 0, none⟩) p.val.texts.length cap) p.val.texts) (hv : Ts w v p.val.texts) (hlen : p.val.texts.length ≤ 8796093021952) :
    Calls Try.prog 36 #[p.agg (.slice (some ⟨g, 0, none⟩) p.val.texts.length cap), p.agg v] w fun e w' => e = .returned (.bool true) ∧ Keep [] w w' := by
  have hS := fun w1 (k : Keep [] w w1) => sameArg_self p _ v w1 (hx2.keep k (Off.nil _)) (hv.keep k (Off.nil _))
  have hT := fun w1 (k : Keep [] w w1) => keptTexts_any g cap v p.val.texts w1 (hx.keep k (Off.nil _)) (hv.keep k (Off.nil _)) hlen
  obtain ⟨bo, cb, rfl, _, _, _, _⟩ := hv.ex
  clear hx hx2 hv hlen
  obtain ⟨m, kd, b, n, x, t, ts⟩ := p
  simp only [] at hT hS ⊢
  have hR := sameReal_self x
  have K0 : Hid (Keep [] w ((w.alloc (.cells #[.string m, .int .i64 kd, .bool b, .int .i64 n, .float .f32 x, .string t, .slice (some ⟨g, 0, none⟩) ts.length cap] 49)).alloc (.cells #[.string m, .int .i64 kd, .bool b, .int .i64 n, .float .f32 x, .string t, .slice bo ts.length cb] 49))) := (Keep.alloc1 w _).alloc _
  go_enter Try.func36, Try.ntmps36
  go_wp2_with fail
  refine (hS _ K0.out).mono ?_
  rintro e9 w1 ⟨rfl, k1⟩
  obtain ⟨⟨c0, c1, c2, c3, c4, c5, c6⟩, ⟨d0, d1, d2, d3, d4, d5, d6⟩⟩ := two_cells7 k1
  have HK1 : Hid (Keep [] w w1) := K0.out.trans' k1
  clear k1 hS
  go_wp2_with (first
    | (go_at_call 43; refine (hR _).mono ?_; rintro e9 w9 ⟨rfl, hw9⟩; obtain rfl := hw9.symm)
    | (go_at_call 44; refine (hT _ HK1.out).mono ?_; rintro e9 w2 ⟨rfl, k2⟩))
  go_ret
  exact ⟨rfl, HK1.out.trans' k2⟩
end Go.Proofs.Ytbflhpafejmelaa
