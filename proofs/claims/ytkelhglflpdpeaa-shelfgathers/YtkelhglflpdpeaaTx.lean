/- A shelf asked: Find, Rank, From, All. -/
import Derived.Test.YtkelhglflpdpeaaTw

namespace Go.Proofs.Ytkelhglflpdpeaa
open Go.RowKit Go.PlainAid Go.Shelf

/-- a box of two cells, as long as only new blocks come -/
theorem two_facts {w9 : World} {n : Nat} {u v : Value} {t : TypeId} (hb : w9.heap[n]? = some (.cells #[u, v] t (0, 0))) : (w9.cell? ⟨n, 0, none⟩ = some u ∧ w9.cell? ⟨n, 1, none⟩ = some v) ∧ w9.frozen? ⟨n, 0, none⟩ = false ∧ w9.frozen? ⟨n, 1, none⟩ = false := by
  refine ⟨⟨?_, ?_⟩, ?_, ?_⟩ <;> first | (unfold World.cell?; rw [hb]; rfl) | (unfold World.frozen?; rw [hb]; rfl)
theorem new_kept {w w9 : World} {o : Obj} (k : Keep [] (w.alloc o) w9) : w9.heap[w.heap.size]? = some o := (k.block _ (by simp) (by simp)).trans (heap_alloc_new w o)


set_option maxRecDepth 100000 in
set_option maxHeartbeats 2000000 in
theorem find_yes (b k : Nat) (l : List Pr) (x y : Pr) (w : World) (h : Sh w b k l) (hs : l.length ≤ 1152921504606846976) (hl : lk l x.k = some y) :
    Calls Try.prog 33 #[vA b, vP x] w fun e w' => e = .returned (.tuple #[vP y, .bool true]) ∧ Keep [] w w' := by
  obtain ⟨p, T, a, c, d⟩ := h.ex
  have HPl : Hid (∀ w9, Keep [] w w9 → Calls Try.prog 48 #[.pointer p, vF k, vP x] w9 fun e w' => e = .returned (.tuple #[.int .i64 (rnk l x.k : Int), vP y, .bool true]) ∧ Keep [] w9 w') := fun w9 kk => by
    have := place_yes k h.cmp p T x y w9 (c.keep kk) (by rw [d]; exact h.ris) (by rw [d]; omega) (by rw [d]; exact hl)
    rw [d] at this
    exact this
  obtain ⟨x0, x1, hk0⟩ := Bp.new w x
  have c0 : w.cell? ⟨b, 0, none⟩ = some (vF k) := by unfold World.cell?; rw [a]; rfl
  have c1 : w.cell? ⟨b, 1, none⟩ = some (.pointer p) := by unfold World.cell?; rw [a]; rfl
  have HK : Keep [] w ((w.alloc (.cells #[.int .i64 x.k, .int .i64 x.m] 29)).alloc (.cells #[.int .i64 0, .int .i64 0] 29)) := (Keep.alloc1 _ _).alloc _
  have HBC : Cs [(⟨b, 0, none⟩, vF k), (⟨b, 1, none⟩, .pointer p), (⟨w.heap.size, 0, none⟩, .int .i64 x.k), (⟨w.heap.size, 1, none⟩, .int .i64 x.m)] ((w.alloc (.cells #[.int .i64 x.k, .int .i64 x.m] 29)).alloc (.cells #[.int .i64 0, .int .i64 0] 29)) ((w.alloc (.cells #[.int .i64 x.k, .int .i64 x.m] 29)).alloc (.cells #[.int .i64 0, .int .i64 0] 29)) := ⟨HK.cell' c0 (by simp), HK.cell' c1 (by simp), (Keep.alloc1 _ _).cell' x0 (by simp), (Keep.alloc1 _ _).cell' x1 (by simp), Keep.refl _ _⟩
  have HN1 : Hid (∀ w9, Keep [] ((w.alloc (.cells #[.int .i64 x.k, .int .i64 x.m] 29)).alloc (.cells #[.int .i64 0, .int .i64 0] 29)) w9 → (w9.cell? ⟨w.heap.size + 1, 0, none⟩ = some (.int .i64 0) ∧ w9.cell? ⟨w.heap.size + 1, 1, none⟩ = some (.int .i64 0)) ∧ w9.frozen? ⟨w.heap.size + 1, 0, none⟩ = false ∧ w9.frozen? ⟨w.heap.size + 1, 1, none⟩ = false) := fun w9 k9 => by
    have := new_kept k9
    rw [World.size_alloc] at this
    exact two_facts this
  have HN3 : Hid (∀ w9, Keep [] ((w.alloc (.cells #[.int .i64 x.k, .int .i64 x.m] 29)).alloc (.cells #[.int .i64 0, .int .i64 0] 29)) w9 → w9.heap[w.heap.size + 1]? = some (.cells #[.int .i64 0, .int .i64 0] 29)) := fun w9 k9 => by
    have := new_kept k9
    rw [World.size_alloc] at this
    exact this
  have HN2 : Hid (∀ w9, Keep [] (((w.alloc (.cells #[.int .i64 x.k, .int .i64 x.m] 29)).alloc (.cells #[.int .i64 0, .int .i64 0] 29)).alloc (.cells #[.int .i64 0, .int .i64 0] 29)).drew w9 → (w9.cell? ⟨w.heap.size + 1 + 1, 0, none⟩ = some (.int .i64 0) ∧ w9.cell? ⟨w.heap.size + 1 + 1, 1, none⟩ = some (.int .i64 0)) ∧ w9.frozen? ⟨w.heap.size + 1 + 1, 0, none⟩ = false ∧ w9.frozen? ⟨w.heap.size + 1 + 1, 1, none⟩ = false) := fun w9 k9 => by
    have := new_kept (w := ((w.alloc (.cells #[.int .i64 x.k, .int .i64 x.m] 29)).alloc (.cells #[.int .i64 0, .int .i64 0] 29))) (o := (.cells #[.int .i64 0, .int .i64 0] 29)) ((Keep.refl [] _).drew.trans' k9)
    rw [World.size_alloc, World.size_alloc] at this
    exact two_facts this
  have HPlA : Hid (type_of% ((HPl.out _ ((HK.alloc (.cells #[.int .i64 0, .int .i64 0] 29)).drew)).mono (fun e w' h => (⟨h.1, HN2.out w' h.2, HN1.out w' (((Keep.alloc1 _ _).drew).trans' h.2), h.2⟩ : _ ∧ _ ∧ _ ∧ _)))) := (HPl.out _ ((HK.alloc (.cells #[.int .i64 0, .int .i64 0] 29)).drew)).mono (fun e w' h => ⟨h.1, HN2.out w' h.2, HN1.out w' (((Keep.alloc1 _ _).drew).trans' h.2), h.2⟩)
  have HPlB : Hid (type_of% ((HPl.out _ HK.drew).mono (fun e w' h => (⟨h.1, HN1.out w' ((Keep.refl [] _).drew.trans' h.2), h.2⟩ : _ ∧ _ ∧ _)))) := (HPl.out _ HK.drew).mono (fun e w' h => ⟨h.1, HN1.out w' ((Keep.refl [] _).drew.trans' h.2), h.2⟩)
  clear a c d h hk0 hl hs HPl
  go_enter Try.func33, Try.ntmps33
  go_wp2
  go_region_held3 (fun w' => w'.cell? ⟨b, 0, none⟩ = some (vF k) ∧ w'.cell? ⟨b, 1, none⟩ = some (.pointer p) ∧ w'.cell? ⟨w.heap.size, 0, none⟩ = some (.int .i64 x.k) ∧ w'.cell? ⟨w.heap.size, 1, none⟩ = some (.int .i64 x.m) ∧ Hid (Keep [] ((w.alloc (.cells #[.int .i64 x.k, .int .i64 x.m] 29)).alloc (.cells #[.int .i64 0, .int .i64 0] 29)) w'))
    (first | assumption | exact Cs.base (l := [(⟨b, 0, none⟩, vF k), (⟨b, 1, none⟩, .pointer p), (⟨w.heap.size, 0, none⟩, .int .i64 x.k), (⟨w.heap.size, 1, none⟩, .int .i64 x.m)]) HBC (by (repeat (first | exact Keep.refl _ _ | exact k5 | refine Keep.alloc ?_ _ | refine Keep.setCell ?_ (.inr (by first | (simp; done) | (have := k5.size; simp at this ⊢; omega))) _ | refine Keep.trans' ?_ k5 | refine Keep.drew ?_))))
    (first | (go_at_call 48; refine HPlA.out.mono ?_; clear HPlA; rintro e w5 ⟨rfl, ⟨⟨v0, v1⟩, v2, v3⟩, ⟨⟨u0, u1⟩, u2, u3⟩, k5⟩) | (go_at_call 48; refine HPlB.out.mono ?_; clear HPlB; rintro e w5 ⟨rfl, ⟨⟨u0, u1⟩, u2, u3⟩, k5⟩))
  all_goals
    rename_i hH
    have HKx : Keep [] ((w.alloc (.cells #[.int .i64 x.k, .int .i64 x.m] 29)).alloc (.cells #[.int .i64 0, .int .i64 0] 29)) _ := ((show Cs [(⟨b, 0, none⟩, vF k), (⟨b, 1, none⟩, .pointer p), (⟨w.heap.size, 0, none⟩, .int .i64 x.k), (⟨w.heap.size, 1, none⟩, .int .i64 x.m)] ((w.alloc (.cells #[.int .i64 x.k, .int .i64 x.m] 29)).alloc (.cells #[.int .i64 0, .int .i64 0] 29)) _ from by assumption).kp)
    have HKc : Keep [] w _ := HK.trans' HKx
    clear u0 u1 u2 u3
    obtain ⟨⟨u0, u1⟩, u2, u3⟩ := HN1.out _ HKx
    have HZ : Hid (type_of% (two_facts (two_setCell (u' := .int .i64 y.k) (v' := .int .i64 y.m) (HN3.out _ HKx)))) := two_facts (two_setCell (u' := .int .i64 y.k) (v' := .int .i64 y.m) (HN3.out _ HKx))
    clear hH HKx
    go_wp2
    refine bodyPost_ret (v := .tuple #[vP y, .bool true]) (by simp [results, Try.results33, go_sem, HZ.out.1.1, HZ.out.1.2]) rfl ?_
    exact ⟨rfl, (HKc.setCell (.inr (by simp)) _).setCell (.inr (by simp)) _⟩

set_option maxRecDepth 100000 in
set_option maxHeartbeats 2000000 in
theorem find_no (b k : Nat) (l : List Pr) (x : Pr) (w : World) (h : Sh w b k l) (hs : l.length ≤ 1152921504606846976) (hl : lk l x.k = none) :
    Calls Try.prog 33 #[vA b, vP x] w fun e w' => e = .returned (.tuple #[vP (⟨0, 0⟩ : Pr), .bool false]) ∧ Keep [] w w' := by
  obtain ⟨p, T, a, c, d⟩ := h.ex
  have HPl : Hid (∀ w9, Keep [] w w9 → Calls Try.prog 48 #[.pointer p, vF k, vP x] w9 fun e w' => e = .returned (.tuple #[.int .i64 (rnk l x.k : Int), vP ⟨0, 0⟩, .bool false]) ∧ Keep [] w9 w') := fun w9 kk => by
    have := place_no k h.cmp p T x w9 (c.keep kk) (by rw [d]; exact h.ris) (by rw [d]; omega) (by rw [d]; exact hl)
    rw [d] at this
    exact this
  obtain ⟨x0, x1, hk0⟩ := Bp.new w x
  have c0 : w.cell? ⟨b, 0, none⟩ = some (vF k) := by unfold World.cell?; rw [a]; rfl
  have c1 : w.cell? ⟨b, 1, none⟩ = some (.pointer p) := by unfold World.cell?; rw [a]; rfl
  have HK : Keep [] w ((w.alloc (.cells #[.int .i64 x.k, .int .i64 x.m] 29)).alloc (.cells #[.int .i64 0, .int .i64 0] 29)) := (Keep.alloc1 _ _).alloc _
  have HBC : Cs [(⟨b, 0, none⟩, vF k), (⟨b, 1, none⟩, .pointer p), (⟨w.heap.size, 0, none⟩, .int .i64 x.k), (⟨w.heap.size, 1, none⟩, .int .i64 x.m)] ((w.alloc (.cells #[.int .i64 x.k, .int .i64 x.m] 29)).alloc (.cells #[.int .i64 0, .int .i64 0] 29)) ((w.alloc (.cells #[.int .i64 x.k, .int .i64 x.m] 29)).alloc (.cells #[.int .i64 0, .int .i64 0] 29)) := ⟨HK.cell' c0 (by simp), HK.cell' c1 (by simp), (Keep.alloc1 _ _).cell' x0 (by simp), (Keep.alloc1 _ _).cell' x1 (by simp), Keep.refl _ _⟩
  have HN1 : Hid (∀ w9, Keep [] ((w.alloc (.cells #[.int .i64 x.k, .int .i64 x.m] 29)).alloc (.cells #[.int .i64 0, .int .i64 0] 29)) w9 → (w9.cell? ⟨w.heap.size + 1, 0, none⟩ = some (.int .i64 0) ∧ w9.cell? ⟨w.heap.size + 1, 1, none⟩ = some (.int .i64 0)) ∧ w9.frozen? ⟨w.heap.size + 1, 0, none⟩ = false ∧ w9.frozen? ⟨w.heap.size + 1, 1, none⟩ = false) := fun w9 k9 => by
    have := new_kept k9
    rw [World.size_alloc] at this
    exact two_facts this
  have HN3 : Hid (∀ w9, Keep [] ((w.alloc (.cells #[.int .i64 x.k, .int .i64 x.m] 29)).alloc (.cells #[.int .i64 0, .int .i64 0] 29)) w9 → w9.heap[w.heap.size + 1]? = some (.cells #[.int .i64 0, .int .i64 0] 29)) := fun w9 k9 => by
    have := new_kept k9
    rw [World.size_alloc] at this
    exact this
  have HN2 : Hid (∀ w9, Keep [] (((w.alloc (.cells #[.int .i64 x.k, .int .i64 x.m] 29)).alloc (.cells #[.int .i64 0, .int .i64 0] 29)).alloc (.cells #[.int .i64 0, .int .i64 0] 29)).drew w9 → (w9.cell? ⟨w.heap.size + 1 + 1, 0, none⟩ = some (.int .i64 0) ∧ w9.cell? ⟨w.heap.size + 1 + 1, 1, none⟩ = some (.int .i64 0)) ∧ w9.frozen? ⟨w.heap.size + 1 + 1, 0, none⟩ = false ∧ w9.frozen? ⟨w.heap.size + 1 + 1, 1, none⟩ = false) := fun w9 k9 => by
    have := new_kept (w := ((w.alloc (.cells #[.int .i64 x.k, .int .i64 x.m] 29)).alloc (.cells #[.int .i64 0, .int .i64 0] 29))) (o := (.cells #[.int .i64 0, .int .i64 0] 29)) ((Keep.refl [] _).drew.trans' k9)
    rw [World.size_alloc, World.size_alloc] at this
    exact two_facts this
  have HPlA : Hid (type_of% ((HPl.out _ ((HK.alloc (.cells #[.int .i64 0, .int .i64 0] 29)).drew)).mono (fun e w' h => (⟨h.1, HN2.out w' h.2, HN1.out w' (((Keep.alloc1 _ _).drew).trans' h.2), h.2⟩ : _ ∧ _ ∧ _ ∧ _)))) := (HPl.out _ ((HK.alloc (.cells #[.int .i64 0, .int .i64 0] 29)).drew)).mono (fun e w' h => ⟨h.1, HN2.out w' h.2, HN1.out w' (((Keep.alloc1 _ _).drew).trans' h.2), h.2⟩)
  have HPlB : Hid (type_of% ((HPl.out _ HK.drew).mono (fun e w' h => (⟨h.1, HN1.out w' ((Keep.refl [] _).drew.trans' h.2), h.2⟩ : _ ∧ _ ∧ _)))) := (HPl.out _ HK.drew).mono (fun e w' h => ⟨h.1, HN1.out w' ((Keep.refl [] _).drew.trans' h.2), h.2⟩)
  clear a c d h hk0 hl hs HPl
  go_enter Try.func33, Try.ntmps33
  go_wp2
  go_region_held3 (fun w' => w'.cell? ⟨b, 0, none⟩ = some (vF k) ∧ w'.cell? ⟨b, 1, none⟩ = some (.pointer p) ∧ w'.cell? ⟨w.heap.size, 0, none⟩ = some (.int .i64 x.k) ∧ w'.cell? ⟨w.heap.size, 1, none⟩ = some (.int .i64 x.m) ∧ Hid (Keep [] ((w.alloc (.cells #[.int .i64 x.k, .int .i64 x.m] 29)).alloc (.cells #[.int .i64 0, .int .i64 0] 29)) w'))
    (first | assumption | exact Cs.base (l := [(⟨b, 0, none⟩, vF k), (⟨b, 1, none⟩, .pointer p), (⟨w.heap.size, 0, none⟩, .int .i64 x.k), (⟨w.heap.size, 1, none⟩, .int .i64 x.m)]) HBC (by (repeat (first | exact Keep.refl _ _ | exact k5 | refine Keep.alloc ?_ _ | refine Keep.setCell ?_ (.inr (by first | (simp; done) | (have := k5.size; simp at this ⊢; omega))) _ | refine Keep.trans' ?_ k5 | refine Keep.drew ?_))))
    (first | (go_at_call 48; refine HPlA.out.mono ?_; clear HPlA; rintro e w5 ⟨rfl, ⟨⟨v0, v1⟩, v2, v3⟩, ⟨⟨u0, u1⟩, u2, u3⟩, k5⟩) | (go_at_call 48; refine HPlB.out.mono ?_; clear HPlB; rintro e w5 ⟨rfl, ⟨⟨u0, u1⟩, u2, u3⟩, k5⟩))
  all_goals
    rename_i hH
    have HKx : Keep [] ((w.alloc (.cells #[.int .i64 x.k, .int .i64 x.m] 29)).alloc (.cells #[.int .i64 0, .int .i64 0] 29)) _ := ((show Cs [(⟨b, 0, none⟩, vF k), (⟨b, 1, none⟩, .pointer p), (⟨w.heap.size, 0, none⟩, .int .i64 x.k), (⟨w.heap.size, 1, none⟩, .int .i64 x.m)] ((w.alloc (.cells #[.int .i64 x.k, .int .i64 x.m] 29)).alloc (.cells #[.int .i64 0, .int .i64 0] 29)) _ from by assumption).kp)
    have HKc : Keep [] w _ := HK.trans' HKx
    clear u0 u1 u2 u3
    obtain ⟨⟨u0, u1⟩, u2, u3⟩ := HN1.out _ HKx
    have HZ : Hid (type_of% (two_facts (two_setCell (u' := .int .i64 (⟨0, 0⟩ : Pr).k) (v' := .int .i64 (⟨0, 0⟩ : Pr).m) (HN3.out _ HKx)))) := two_facts (two_setCell (u' := .int .i64 (⟨0, 0⟩ : Pr).k) (v' := .int .i64 (⟨0, 0⟩ : Pr).m) (HN3.out _ HKx))
    clear hH HKx
    go_wp2
    refine bodyPost_ret (v := .tuple #[vP (⟨0, 0⟩ : Pr), .bool false]) (by simp [results, Try.results33, go_sem, HZ.out.1.1, HZ.out.1.2]) rfl ?_
    exact ⟨rfl, (HKc.setCell (.inr (by simp)) _).setCell (.inr (by simp)) _⟩

end Go.Proofs.Ytkelhglflpdpeaa
