/- A shelf: its comparison and its tree. -/
import Derived.Test.YtkelhglflpdpeaaTu

namespace Go.Proofs.Ytkelhglflpdpeaa
open Go.RowKit Go.PlainAid Go.Shelf

abbrev vF (k : Nat) : Value := .func (.func k) #[] #[]
abbrev vA (b : Nat) : Value := .pointer (some ⟨b, 0, none⟩)
/-- at b lies a shelf with the comparison k and the elements l -/
structure Sh (w : World) (b k : Nat) (l : List Pr) : Prop where
  ex : ∃ p T, w.heap[b]? = some (.cells #[vF k, .pointer p] 82 (0, 0)) ∧ IsT w p T ∧ T.list = l
  ris : Ris l
  cmp : k = 10 ∨ k = 32

theorem Sh.lt {w : World} {b k : Nat} {l : List Pr} (h : Sh w b k l) : b < w.heap.size := by
  obtain ⟨p, T, a, _⟩ := h.ex
  exact (Array.getElem?_eq_some_iff.1 a).1
/-- a shelf's block is no node -/
theorem Sh.kt {w w' : World} {b k : Nat} {l : List Pr} (h : Sh w b k l) (kk : Keep [b] w w') : KT w w' := kk.kt (by
  intro r hr c hc
  simp at hr
  subst hr
  obtain ⟨p, T, a, _⟩ := h.ex
  rw [a] at hc
  cases hc)
theorem Sh.keep {F : List Nat} {w w' : World} {b k : Nat} {l : List Pr} (h : Sh w b k l) (kk : Keep F w w') (kt : KT w w') (hn : b ∉ F) : Sh w' b k l := by
  obtain ⟨p, T, a, c, d⟩ := h.ex
  exact ⟨⟨p, T, (kk.block b (Array.getElem?_eq_some_iff.1 a).1 hn).trans a, c.kt kt, d⟩, h.ris, h.cmp⟩
theorem Sh.keep0 {w w' : World} {b k : Nat} {l : List Pr} (h : Sh w b k l) (kk : Keep [] w w') : Sh w' b k l := h.keep kk kk.kt0 (by simp)

theorem elements_any (b k : Nat) (p : Option Addr) (w : World) (h : w.heap[b]? = some (.cells #[vF k, .pointer p] 82 (0, 0))) : Calls Try.prog 52 #[vA b] w fun e w' => e = .returned (.pointer p) ∧ w = w' := by
  have c1 : w.cell? ⟨b, 1, none⟩ = some (.pointer p) := by unfold World.cell?; rw [h]; rfl
  clear h
  go_enter Try.func52, Try.ntmps52
  go_wp2
  go_ret
  exact ⟨rfl, rfl⟩

theorem len_any (b k : Nat) (l : List Pr) (w : World) (h : Sh w b k l) : Calls Try.prog 19 #[vA b] w fun e w' => e = .returned (.int .i64 (l.length : Int)) ∧ w = w' := by
  obtain ⟨p, T, a, c, d⟩ := h.ex
  have HE : Hid (Calls Try.prog 52 #[vA b] w fun e w' => e = .returned (.pointer p) ∧ w = w') := elements_any b k p w a
  have HC : Hid (Calls Try.prog 53 #[.pointer p] w fun e w' => e = .returned (.int .i64 (T.list.length : Int)) ∧ w = w') := (count_any p T w c).mono (fun e w' h => ⟨h.1, h.2.symm⟩)
  rw [← d]
  clear a c d h
  go_enter Try.func19, Try.ntmps19
  go_wp2_with (first | (go_at_call 52; refine HE.out.mono ?_; clear HE; rintro e w5 ⟨rfl, rfl⟩) | (go_at_call 53; refine HC.out.mono ?_; clear HC; rintro e w5 ⟨rfl, rfl⟩))
  go_ret
  exact ⟨rfl, rfl⟩

set_option maxRecDepth 100000 in
theorem new_any (k : Nat) (hk : k = 10 ∨ k = 32) (w : World) : Calls Try.prog 9 #[vF k] w fun e w' => ∃ b, e = .returned (vA b) ∧ Sh w' b k [] ∧ Keep [] w w' ∧ w.heap.size ≤ b := by
  have HK : Hid (k = 10 ∨ k = 32) := hk
  have heq : ∀ w, Sem.run Try.prog (binOp BinOp.eql 30 (vF k) Value.nilFunc) w = .ok (.bool false) w := fun w => rfl
  rcases hk with rfl | rfl
  all_goals
    go_enter Try.func9, Try.ntmps9
    go_wp2
    go_ret
    exact ⟨w.heap.size, rfl, ⟨⟨none, .leaf, heap_alloc_new _ _, rfl, rfl⟩, List.Pairwise.nil, by decide⟩, Keep.alloc1 _ _, Nat.le_refl _⟩

theorem Cs.base {l : List (Addr × Value)} {w0 w1 w2 : World} (h : Cs l w0 w1) (k : Keep [] w1 w2) : Cs l w0 w2 := Cs.more k h
theorem place_yes (k : Nat) (hk : k = 10 ∨ k = 32) (p : Option Addr) (T : TT) (x y : Pr) (w : World) (h : IsT w p T) (hr : Ris T.list) (hs : T.list.length ≤ 1152921504606846976) (hl : lk T.list x.k = some y) :
    Calls Try.prog 48 #[.pointer p, .func (.func k) #[] #[], vP x] w fun e w' => e = .returned (.tuple #[.int .i64 (rnk T.list x.k : Int), vP y, .bool true]) ∧ Keep [] w w' := (place_any k hk p T x w h hr hs).mono (by
  rintro e w' ⟨z, c, he, h1, h2, h3⟩
  rw [hl] at h1
  cases c
  · cases h1
  · cases h1
    exact ⟨he, h3⟩)
theorem place_no (k : Nat) (hk : k = 10 ∨ k = 32) (p : Option Addr) (T : TT) (x : Pr) (w : World) (h : IsT w p T) (hr : Ris T.list) (hs : T.list.length ≤ 1152921504606846976) (hl : lk T.list x.k = none) :
    Calls Try.prog 48 #[.pointer p, .func (.func k) #[] #[], vP x] w fun e w' => e = .returned (.tuple #[.int .i64 (rnk T.list x.k : Int), vP ⟨0, 0⟩, .bool false]) ∧ Keep [] w w' := (place_any k hk p T x w h hr hs).mono (by
  rintro e w' ⟨z, c, he, h1, h2, h3⟩
  rw [hl] at h1
  cases c
  · rw [h2 rfl] at he
    exact ⟨he, h3⟩
  · cases h1)
theorem Sh.set {w w1 : World} {b k : Nat} {l l' : List Pr} {p' : Option Addr} {T' : TT} (h : Sh w b k l) (kk : Keep [] w w1) (ht : IsT w1 p' T') (hl : T'.list = l') (hr : Ris l') : Sh (w1.setCell ⟨b, 1, none⟩ (.pointer p')) b k l' ∧ Keep [b] w (w1.setCell ⟨b, 1, none⟩ (.pointer p')) := by
  have h1 := h.keep0 kk
  obtain ⟨p, T, a, _, _⟩ := h1.ex
  have k1 : Keep [b] w1 (w1.setCell ⟨b, 1, none⟩ (.pointer p')) := Keep.set1 w1 ⟨b, 1, none⟩ _
  refine ⟨⟨⟨p', T', at_setCell a, ht.kt (h1.kt k1), hl⟩, hr, h.cmp⟩, (kk.mono (by simp)).trans' k1⟩

set_option maxRecDepth 100000 in
set_option maxHeartbeats 2000000 in
theorem add_any (b k : Nat) (l : List Pr) (x : Pr) (w : World) (h : Sh w b k l) (hs : l.length + 2 ≤ 1152921504606846976) :
    Calls Try.prog 13 #[vA b, vP x] w fun e w' => e = .returned (.bool (lk l x.k).isNone) ∧ Sh w' b k (addL l x) ∧ Keep [b] w w' := by
  obtain ⟨p, T, a, c, d⟩ := h.ex
  have hbl := h.lt
  have HS : Hid (Sh w b k l) := h
  have HRi : Hid (Ris l) := h.ris
  obtain ⟨x0, x1, hk0⟩ := Bp.new w x
  have c0 : w.cell? ⟨b, 0, none⟩ = some (vF k) := by unfold World.cell?; rw [a]; rfl
  have c1 : w.cell? ⟨b, 1, none⟩ = some (.pointer p) := by unfold World.cell?; rw [a]; rfl
  have fr : w.frozen? ⟨b, 1, none⟩ = false := by unfold World.frozen?; rw [a]; rfl
  have HK : Keep [] w (w.alloc (.cells #[.int .i64 x.k, .int .i64 x.m] 29)) := Keep.alloc1 _ _
  have n0 : ((w.alloc (.cells #[.int .i64 x.k, .int .i64 x.m] 29)).alloc (.cells #[.int .i64 0, .int .i64 0] 29)).heap[w.heap.size + 1]? = some (.cells #[.int .i64 0, .int .i64 0] 29 (0, 0)) := by
    have := heap_alloc_new (w.alloc (.cells #[.int .i64 x.k, .int .i64 x.m] 29)) (.cells #[.int .i64 0, .int .i64 0] 29)
    rwa [World.size_alloc] at this
  have HN0 : Hid (∀ w9, Keep [] ((w.alloc (.cells #[.int .i64 x.k, .int .i64 x.m] 29)).alloc (.cells #[.int .i64 0, .int .i64 0] 29)).drew w9 → (w9.cell? ⟨w.heap.size + 1, 0, none⟩ = some (.int .i64 0) ∧ w9.cell? ⟨w.heap.size + 1, 1, none⟩ = some (.int .i64 0)) ∧ w9.frozen? ⟨w.heap.size + 1, 0, none⟩ = false ∧ w9.frozen? ⟨w.heap.size + 1, 1, none⟩ = false) := fun w9 k9 => by
    have hb := (k9.block _ (Array.getElem?_eq_some_iff.1 n0).1 (by simp)).trans n0
    refine ⟨⟨?_, ?_⟩, ?_, ?_⟩ <;> first | (unfold World.cell?; rw [hb]; rfl) | (unfold World.frozen?; rw [hb]; rfl)
  clear n0
  have HBC : Cs [(⟨b, 0, none⟩, vF k), (⟨b, 1, none⟩, .pointer p), (⟨w.heap.size, 0, none⟩, .int .i64 x.k), (⟨w.heap.size, 1, none⟩, .int .i64 x.m)] w (w.alloc (.cells #[.int .i64 x.k, .int .i64 x.m] 29)) := ⟨HK.cell' c0 (by simp), HK.cell' c1 (by simp), x0, x1, HK⟩
  cases hl : lk l x.k with
  | some y =>
    have HPl : Hid (∀ w9, Keep [] w w9 → Calls Try.prog 48 #[.pointer p, vF k, vP x] w9 fun e w' => e = .returned (.tuple #[.int .i64 (rnk l x.k : Int), vP y, .bool true]) ∧ Keep [] w9 w') := fun w9 kk => by
      have := place_yes k h.cmp p T x y w9 (c.keep kk) (by rw [d]; exact h.ris) (by rw [d]; omega) (by rw [d]; exact hl)
      rw [d] at this
      exact this
    have HPlA : Hid (type_of% ((HPl.out _ (((Keep.alloc1 w (.cells #[.int .i64 x.k, .int .i64 x.m] 29)).alloc (.cells #[.int .i64 0, .int .i64 0] 29)).drew)).mono (fun e w' h => (⟨h.1, HN0.out w' h.2, h.2⟩ : _ ∧ _ ∧ _)))) := (HPl.out _ (((Keep.alloc1 w (.cells #[.int .i64 x.k, .int .i64 x.m] 29)).alloc (.cells #[.int .i64 0, .int .i64 0] 29)).drew)).mono (fun e w' h => ⟨h.1, HN0.out w' h.2, h.2⟩)
    have HL : Hid (type_of% hl) := hl
    clear a c d h hk0 hl hs
    go_enter Try.func13, Try.ntmps13
    go_wp2
    go_region_held3 (fun w' => w'.cell? ⟨b, 0, none⟩ = some (vF k) ∧ w'.cell? ⟨b, 1, none⟩ = some (.pointer p) ∧ w'.cell? ⟨w.heap.size, 0, none⟩ = some (.int .i64 x.k) ∧ w'.cell? ⟨w.heap.size, 1, none⟩ = some (.int .i64 x.m) ∧ Hid (Keep [] w w'))
      (first | assumption | exact Cs.base (l := [(⟨b, 0, none⟩, vF k), (⟨b, 1, none⟩, .pointer p), (⟨w.heap.size, 0, none⟩, .int .i64 x.k), (⟨w.heap.size, 1, none⟩, .int .i64 x.m)]) HBC (by (repeat (first | exact Keep.refl _ _ | exact k5 | refine Keep.alloc ?_ _ | refine Keep.setCell ?_ (.inr (by first | (simp; done) | (have := k5.size; simp at this ⊢; omega))) _ | refine Keep.trans' ?_ k5 | refine Keep.drew ?_))))
      (first | (go_at_call 48; refine HPlA.out.mono ?_; clear HPlA; rintro e w5 ⟨rfl, ⟨⟨v0, v1⟩, v2, v3⟩, k5⟩) | (go_at_call 48; refine (HPl.out _ ((show Cs [(⟨b, 0, none⟩, vF k), (⟨b, 1, none⟩, .pointer p), (⟨w.heap.size, 0, none⟩, .int .i64 x.k), (⟨w.heap.size, 1, none⟩, .int .i64 x.m)] w _ from by assumption).kp)).mono ?_; clear HPl; rintro e w5 ⟨rfl, k5⟩))
    all_goals
      rename_i hH
      have HKc : Keep [] w _ := ((show Cs [(⟨b, 0, none⟩, vF k), (⟨b, 1, none⟩, .pointer p), (⟨w.heap.size, 0, none⟩, .int .i64 x.k), (⟨w.heap.size, 1, none⟩, .int .i64 x.m)] w _ from by assumption).kp)
      obtain ⟨y0, y1, y2, y3, _⟩ := hH
      go_wp2
      go_ret
      exact ⟨rfl, by unfold addL; rw [HL.out]; exact HS.out.keep0 HKc, HKc.mono (by simp)⟩
  | none =>
    have HPl : Hid (∀ w9, Keep [] w w9 → Calls Try.prog 48 #[.pointer p, vF k, vP x] w9 fun e w' => e = .returned (.tuple #[.int .i64 (rnk l x.k : Int), vP ⟨0, 0⟩, .bool false]) ∧ Keep [] w9 w') := fun w9 kk => by
      have := place_no k h.cmp p T x w9 (c.keep kk) (by rw [d]; exact h.ris) (by rw [d]; omega) (by rw [d]; exact hl)
      rw [d] at this
      exact this
    have HIn : Hid (∀ w9, Keep [] w w9 → Calls Try.prog 49 #[.pointer p, .int .i64 (rnk l x.k : Int), vP x] w9 fun e w' => ∃ p' T', e = .returned (.pointer p') ∧ IsT w' p' T' ∧ T'.list = insL l (rnk l x.k) x ∧ Keep [] w9 w') := fun w9 kk => by
      rw [← d]
      exact insert_any x T p (rnk T.list x.k) w9 (c.keep kk) (rnk_le _ _) (by rw [d]; omega)
    have HPlA : Hid (type_of% ((HPl.out _ (((Keep.alloc1 w (.cells #[.int .i64 x.k, .int .i64 x.m] 29)).alloc (.cells #[.int .i64 0, .int .i64 0] 29)).drew)).mono (fun e w' h => (⟨h.1, HN0.out w' h.2, h.2⟩ : _ ∧ _ ∧ _)))) := (HPl.out _ (((Keep.alloc1 w (.cells #[.int .i64 x.k, .int .i64 x.m] 29)).alloc (.cells #[.int .i64 0, .int .i64 0] 29)).drew)).mono (fun e w' h => ⟨h.1, HN0.out w' h.2, h.2⟩)
    have HL : Hid (type_of% hl) := hl
    clear a c d h hk0 hl hs
    go_enter Try.func13, Try.ntmps13
    go_wp2
    go_region_held3 (fun w' => w'.cell? ⟨b, 0, none⟩ = some (vF k) ∧ w'.cell? ⟨b, 1, none⟩ = some (.pointer p) ∧ w'.cell? ⟨w.heap.size, 0, none⟩ = some (.int .i64 x.k) ∧ w'.cell? ⟨w.heap.size, 1, none⟩ = some (.int .i64 x.m) ∧ Hid (Keep [] w w'))
      (first | assumption | exact Cs.base (l := [(⟨b, 0, none⟩, vF k), (⟨b, 1, none⟩, .pointer p), (⟨w.heap.size, 0, none⟩, .int .i64 x.k), (⟨w.heap.size, 1, none⟩, .int .i64 x.m)]) HBC (by (repeat (first | exact Keep.refl _ _ | exact k5 | refine Keep.alloc ?_ _ | refine Keep.setCell ?_ (.inr (by first | (simp; done) | (have := k5.size; simp at this ⊢; omega))) _ | refine Keep.trans' ?_ k5 | refine Keep.drew ?_))))
      (first | (go_at_call 48; refine HPlA.out.mono ?_; clear HPlA; rintro e w5 ⟨rfl, ⟨⟨v0, v1⟩, v2, v3⟩, k5⟩) | (go_at_call 48; refine (HPl.out _ ((show Cs [(⟨b, 0, none⟩, vF k), (⟨b, 1, none⟩, .pointer p), (⟨w.heap.size, 0, none⟩, .int .i64 x.k), (⟨w.heap.size, 1, none⟩, .int .i64 x.m)] w _ from by assumption).kp)).mono ?_; clear HPl; rintro e w5 ⟨rfl, k5⟩))
    all_goals
      rename_i hH
      have HKc : Keep [] w _ := ((show Cs [(⟨b, 0, none⟩, vF k), (⟨b, 1, none⟩, .pointer p), (⟨w.heap.size, 0, none⟩, .int .i64 x.k), (⟨w.heap.size, 1, none⟩, .int .i64 x.m)] w _ from by assumption).kp)
      obtain ⟨y0, y1, y2, y3, _⟩ := hH
      go_wp2_with (first | (go_at_call 49; refine (HIn.out _ HKc).mono ?_; clear HIn; rintro e w6 ⟨p6, T6, rfl, t6, l6, k6⟩; have fr6 := (HKc.trans' k6).frozen (p := ⟨b, 1, none⟩) hbl (by simp); rw [fr] at fr6; have cc6 := (HKc.trans' k6).cell' c1 (by simp)))
      go_ret
      exact ⟨rfl, by unfold addL; rw [HL.out]; exact (HS.out.set (HKc.trans' k6) t6 l6 (ins_ris HRi.out HL.out)).1, (HS.out.set (HKc.trans' k6) t6 l6 (ins_ris HRi.out HL.out)).2⟩

set_option maxRecDepth 100000 in
set_option maxHeartbeats 2000000 in
theorem put_any (b k : Nat) (l : List Pr) (x : Pr) (w : World) (h : Sh w b k l) (hs : l.length + 2 ≤ 1152921504606846976) :
    Calls Try.prog 14 #[vA b, vP x] w fun e w' => e = .returned (.bool (lk l x.k).isSome) ∧ Sh w' b k (putL l x) ∧ Keep [b] w w' := by
  obtain ⟨p, T, a, c, d⟩ := h.ex
  have hbl := h.lt
  have HS : Hid (Sh w b k l) := h
  have HRi : Hid (Ris l) := h.ris
  obtain ⟨x0, x1, hk0⟩ := Bp.new w x
  have c0 : w.cell? ⟨b, 0, none⟩ = some (vF k) := by unfold World.cell?; rw [a]; rfl
  have c1 : w.cell? ⟨b, 1, none⟩ = some (.pointer p) := by unfold World.cell?; rw [a]; rfl
  have fr : w.frozen? ⟨b, 1, none⟩ = false := by unfold World.frozen?; rw [a]; rfl
  have HK : Keep [] w (w.alloc (.cells #[.int .i64 x.k, .int .i64 x.m] 29)) := Keep.alloc1 _ _
  have n0 : ((w.alloc (.cells #[.int .i64 x.k, .int .i64 x.m] 29)).alloc (.cells #[.int .i64 0, .int .i64 0] 29)).heap[w.heap.size + 1]? = some (.cells #[.int .i64 0, .int .i64 0] 29 (0, 0)) := by
    have := heap_alloc_new (w.alloc (.cells #[.int .i64 x.k, .int .i64 x.m] 29)) (.cells #[.int .i64 0, .int .i64 0] 29)
    rwa [World.size_alloc] at this
  have HN0 : Hid (∀ w9, Keep [] ((w.alloc (.cells #[.int .i64 x.k, .int .i64 x.m] 29)).alloc (.cells #[.int .i64 0, .int .i64 0] 29)).drew w9 → (w9.cell? ⟨w.heap.size + 1, 0, none⟩ = some (.int .i64 0) ∧ w9.cell? ⟨w.heap.size + 1, 1, none⟩ = some (.int .i64 0)) ∧ w9.frozen? ⟨w.heap.size + 1, 0, none⟩ = false ∧ w9.frozen? ⟨w.heap.size + 1, 1, none⟩ = false) := fun w9 k9 => by
    have hb := (k9.block _ (Array.getElem?_eq_some_iff.1 n0).1 (by simp)).trans n0
    refine ⟨⟨?_, ?_⟩, ?_, ?_⟩ <;> first | (unfold World.cell?; rw [hb]; rfl) | (unfold World.frozen?; rw [hb]; rfl)
  clear n0
  have HBC : Cs [(⟨b, 0, none⟩, vF k), (⟨b, 1, none⟩, .pointer p), (⟨w.heap.size, 0, none⟩, .int .i64 x.k), (⟨w.heap.size, 1, none⟩, .int .i64 x.m)] w (w.alloc (.cells #[.int .i64 x.k, .int .i64 x.m] 29)) := ⟨HK.cell' c0 (by simp), HK.cell' c1 (by simp), x0, x1, HK⟩
  cases hl : lk l x.k with
  | some y =>
    have HPl : Hid (∀ w9, Keep [] w w9 → Calls Try.prog 48 #[.pointer p, vF k, vP x] w9 fun e w' => e = .returned (.tuple #[.int .i64 (rnk l x.k : Int), vP y, .bool true]) ∧ Keep [] w9 w') := fun w9 kk => by
      have := place_yes k h.cmp p T x y w9 (c.keep kk) (by rw [d]; exact h.ris) (by rw [d]; omega) (by rw [d]; exact hl)
      rw [d] at this
      exact this
    have HIn : Hid (∀ w9, Keep [] w w9 → Calls Try.prog 50 #[.pointer p, .int .i64 (rnk l x.k : Int), vP x] w9 fun e w' => ∃ p' T', e = .returned (.pointer p') ∧ IsT w' p' T' ∧ T'.list = setL l (rnk l x.k) x ∧ Keep [] w9 w') := fun w9 kk => by
      rw [← d] at hl ⊢
      exact replace_any x T p (rnk T.list x.k) w9 (c.keep kk) (lk_at hl).1 (by rw [d]; omega)
    have HPlA : Hid (type_of% ((HPl.out _ (((Keep.alloc1 w (.cells #[.int .i64 x.k, .int .i64 x.m] 29)).alloc (.cells #[.int .i64 0, .int .i64 0] 29)).drew)).mono (fun e w' h => (⟨h.1, HN0.out w' h.2, h.2⟩ : _ ∧ _ ∧ _)))) := (HPl.out _ (((Keep.alloc1 w (.cells #[.int .i64 x.k, .int .i64 x.m] 29)).alloc (.cells #[.int .i64 0, .int .i64 0] 29)).drew)).mono (fun e w' h => ⟨h.1, HN0.out w' h.2, h.2⟩)
    have HL : Hid (type_of% hl) := hl
    clear a c d h hk0 hl hs
    go_enter Try.func14, Try.ntmps14
    go_wp2
    go_region_held3 (fun w' => w'.cell? ⟨b, 0, none⟩ = some (vF k) ∧ w'.cell? ⟨b, 1, none⟩ = some (.pointer p) ∧ w'.cell? ⟨w.heap.size, 0, none⟩ = some (.int .i64 x.k) ∧ w'.cell? ⟨w.heap.size, 1, none⟩ = some (.int .i64 x.m) ∧ Hid (Keep [] w w'))
      (first | assumption | exact Cs.base (l := [(⟨b, 0, none⟩, vF k), (⟨b, 1, none⟩, .pointer p), (⟨w.heap.size, 0, none⟩, .int .i64 x.k), (⟨w.heap.size, 1, none⟩, .int .i64 x.m)]) HBC (by (repeat (first | exact Keep.refl _ _ | exact k5 | refine Keep.alloc ?_ _ | refine Keep.setCell ?_ (.inr (by first | (simp; done) | (have := k5.size; simp at this ⊢; omega))) _ | refine Keep.trans' ?_ k5 | refine Keep.drew ?_))))
      (first | (go_at_call 48; refine HPlA.out.mono ?_; clear HPlA; rintro e w5 ⟨rfl, ⟨⟨v0, v1⟩, v2, v3⟩, k5⟩) | (go_at_call 48; refine (HPl.out _ ((show Cs [(⟨b, 0, none⟩, vF k), (⟨b, 1, none⟩, .pointer p), (⟨w.heap.size, 0, none⟩, .int .i64 x.k), (⟨w.heap.size, 1, none⟩, .int .i64 x.m)] w _ from by assumption).kp)).mono ?_; clear HPl; rintro e w5 ⟨rfl, k5⟩))
    all_goals
      rename_i hH
      have HKc : Keep [] w _ := ((show Cs [(⟨b, 0, none⟩, vF k), (⟨b, 1, none⟩, .pointer p), (⟨w.heap.size, 0, none⟩, .int .i64 x.k), (⟨w.heap.size, 1, none⟩, .int .i64 x.m)] w _ from by assumption).kp)
      obtain ⟨y0, y1, y2, y3, _⟩ := hH
      go_wp2_with (first | (go_at_call 50; refine (HIn.out _ HKc).mono ?_; clear HIn; rintro e w6 ⟨p6, T6, rfl, t6, l6, k6⟩; have fr6 := (HKc.trans' k6).frozen (p := ⟨b, 1, none⟩) hbl (by simp); rw [fr] at fr6; have cc6 := (HKc.trans' k6).cell' c1 (by simp)))
      go_ret
      exact ⟨rfl, by unfold putL; rw [HL.out]; exact (HS.out.set (HKc.trans' k6) t6 l6 (set_ris HRi.out HL.out)).1, (HS.out.set (HKc.trans' k6) t6 l6 (set_ris HRi.out HL.out)).2⟩
  | none =>
    have HPl : Hid (∀ w9, Keep [] w w9 → Calls Try.prog 48 #[.pointer p, vF k, vP x] w9 fun e w' => e = .returned (.tuple #[.int .i64 (rnk l x.k : Int), vP ⟨0, 0⟩, .bool false]) ∧ Keep [] w9 w') := fun w9 kk => by
      have := place_no k h.cmp p T x w9 (c.keep kk) (by rw [d]; exact h.ris) (by rw [d]; omega) (by rw [d]; exact hl)
      rw [d] at this
      exact this
    have HIn : Hid (∀ w9, Keep [] w w9 → Calls Try.prog 49 #[.pointer p, .int .i64 (rnk l x.k : Int), vP x] w9 fun e w' => ∃ p' T', e = .returned (.pointer p') ∧ IsT w' p' T' ∧ T'.list = insL l (rnk l x.k) x ∧ Keep [] w9 w') := fun w9 kk => by
      rw [← d]
      exact insert_any x T p (rnk T.list x.k) w9 (c.keep kk) (rnk_le _ _) (by rw [d]; omega)
    have HPlA : Hid (type_of% ((HPl.out _ (((Keep.alloc1 w (.cells #[.int .i64 x.k, .int .i64 x.m] 29)).alloc (.cells #[.int .i64 0, .int .i64 0] 29)).drew)).mono (fun e w' h => (⟨h.1, HN0.out w' h.2, h.2⟩ : _ ∧ _ ∧ _)))) := (HPl.out _ (((Keep.alloc1 w (.cells #[.int .i64 x.k, .int .i64 x.m] 29)).alloc (.cells #[.int .i64 0, .int .i64 0] 29)).drew)).mono (fun e w' h => ⟨h.1, HN0.out w' h.2, h.2⟩)
    have HL : Hid (type_of% hl) := hl
    clear a c d h hk0 hl hs
    go_enter Try.func14, Try.ntmps14
    go_wp2
    go_region_held3 (fun w' => w'.cell? ⟨b, 0, none⟩ = some (vF k) ∧ w'.cell? ⟨b, 1, none⟩ = some (.pointer p) ∧ w'.cell? ⟨w.heap.size, 0, none⟩ = some (.int .i64 x.k) ∧ w'.cell? ⟨w.heap.size, 1, none⟩ = some (.int .i64 x.m) ∧ Hid (Keep [] w w'))
      (first | assumption | exact Cs.base (l := [(⟨b, 0, none⟩, vF k), (⟨b, 1, none⟩, .pointer p), (⟨w.heap.size, 0, none⟩, .int .i64 x.k), (⟨w.heap.size, 1, none⟩, .int .i64 x.m)]) HBC (by (repeat (first | exact Keep.refl _ _ | exact k5 | refine Keep.alloc ?_ _ | refine Keep.setCell ?_ (.inr (by first | (simp; done) | (have := k5.size; simp at this ⊢; omega))) _ | refine Keep.trans' ?_ k5 | refine Keep.drew ?_))))
      (first | (go_at_call 48; refine HPlA.out.mono ?_; clear HPlA; rintro e w5 ⟨rfl, ⟨⟨v0, v1⟩, v2, v3⟩, k5⟩) | (go_at_call 48; refine (HPl.out _ ((show Cs [(⟨b, 0, none⟩, vF k), (⟨b, 1, none⟩, .pointer p), (⟨w.heap.size, 0, none⟩, .int .i64 x.k), (⟨w.heap.size, 1, none⟩, .int .i64 x.m)] w _ from by assumption).kp)).mono ?_; clear HPl; rintro e w5 ⟨rfl, k5⟩))
    all_goals
      rename_i hH
      have HKc : Keep [] w _ := ((show Cs [(⟨b, 0, none⟩, vF k), (⟨b, 1, none⟩, .pointer p), (⟨w.heap.size, 0, none⟩, .int .i64 x.k), (⟨w.heap.size, 1, none⟩, .int .i64 x.m)] w _ from by assumption).kp)
      obtain ⟨y0, y1, y2, y3, _⟩ := hH
      go_wp2_with (first | (go_at_call 49; refine (HIn.out _ HKc).mono ?_; clear HIn; rintro e w6 ⟨p6, T6, rfl, t6, l6, k6⟩; have fr6 := (HKc.trans' k6).frozen (p := ⟨b, 1, none⟩) hbl (by simp); rw [fr] at fr6; have cc6 := (HKc.trans' k6).cell' c1 (by simp)))
      go_ret
      exact ⟨rfl, by unfold putL; rw [HL.out]; exact (HS.out.set (HKc.trans' k6) t6 l6 (ins_ris HRi.out HL.out)).1, (HS.out.set (HKc.trans' k6) t6 l6 (ins_ris HRi.out HL.out)).2⟩

set_option maxRecDepth 100000 in
set_option maxHeartbeats 2000000 in
theorem rem_any (b k : Nat) (l : List Pr) (x : Pr) (w : World) (h : Sh w b k l) (hs : l.length + 2 ≤ 1152921504606846976) :
    Calls Try.prog 16 #[vA b, vP x] w fun e w' => e = .returned (.bool (lk l x.k).isSome) ∧ Sh w' b k (remL l x) ∧ Keep [b] w w' := by
  obtain ⟨p, T, a, c, d⟩ := h.ex
  have hbl := h.lt
  have HS : Hid (Sh w b k l) := h
  have HRi : Hid (Ris l) := h.ris
  obtain ⟨x0, x1, hk0⟩ := Bp.new w x
  have c0 : w.cell? ⟨b, 0, none⟩ = some (vF k) := by unfold World.cell?; rw [a]; rfl
  have c1 : w.cell? ⟨b, 1, none⟩ = some (.pointer p) := by unfold World.cell?; rw [a]; rfl
  have fr : w.frozen? ⟨b, 1, none⟩ = false := by unfold World.frozen?; rw [a]; rfl
  have HK : Keep [] w (w.alloc (.cells #[.int .i64 x.k, .int .i64 x.m] 29)) := Keep.alloc1 _ _
  have n0 : ((w.alloc (.cells #[.int .i64 x.k, .int .i64 x.m] 29)).alloc (.cells #[.int .i64 0, .int .i64 0] 29)).heap[w.heap.size + 1]? = some (.cells #[.int .i64 0, .int .i64 0] 29 (0, 0)) := by
    have := heap_alloc_new (w.alloc (.cells #[.int .i64 x.k, .int .i64 x.m] 29)) (.cells #[.int .i64 0, .int .i64 0] 29)
    rwa [World.size_alloc] at this
  have HN0 : Hid (∀ w9, Keep [] ((w.alloc (.cells #[.int .i64 x.k, .int .i64 x.m] 29)).alloc (.cells #[.int .i64 0, .int .i64 0] 29)).drew w9 → (w9.cell? ⟨w.heap.size + 1, 0, none⟩ = some (.int .i64 0) ∧ w9.cell? ⟨w.heap.size + 1, 1, none⟩ = some (.int .i64 0)) ∧ w9.frozen? ⟨w.heap.size + 1, 0, none⟩ = false ∧ w9.frozen? ⟨w.heap.size + 1, 1, none⟩ = false) := fun w9 k9 => by
    have hb := (k9.block _ (Array.getElem?_eq_some_iff.1 n0).1 (by simp)).trans n0
    refine ⟨⟨?_, ?_⟩, ?_, ?_⟩ <;> first | (unfold World.cell?; rw [hb]; rfl) | (unfold World.frozen?; rw [hb]; rfl)
  clear n0
  have HBC : Cs [(⟨b, 0, none⟩, vF k), (⟨b, 1, none⟩, .pointer p), (⟨w.heap.size, 0, none⟩, .int .i64 x.k), (⟨w.heap.size, 1, none⟩, .int .i64 x.m)] w (w.alloc (.cells #[.int .i64 x.k, .int .i64 x.m] 29)) := ⟨HK.cell' c0 (by simp), HK.cell' c1 (by simp), x0, x1, HK⟩
  cases hl : lk l x.k with
  | some y =>
    have HPl : Hid (∀ w9, Keep [] w w9 → Calls Try.prog 48 #[.pointer p, vF k, vP x] w9 fun e w' => e = .returned (.tuple #[.int .i64 (rnk l x.k : Int), vP y, .bool true]) ∧ Keep [] w9 w') := fun w9 kk => by
      have := place_yes k h.cmp p T x y w9 (c.keep kk) (by rw [d]; exact h.ris) (by rw [d]; omega) (by rw [d]; exact hl)
      rw [d] at this
      exact this
    have HIn : Hid (∀ w9, Keep [] w w9 → Calls Try.prog 51 #[.pointer p, .int .i64 (rnk l x.k : Int)] w9 fun e w' => ∃ p' T', e = .returned (.pointer p') ∧ IsT w' p' T' ∧ T'.list = delL l (rnk l x.k) ∧ Keep [] w9 w') := fun w9 kk => by
      rw [← d] at hl ⊢
      exact remove_any T p (rnk T.list x.k) w9 (c.keep kk) (lk_at hl).1 (by rw [d]; omega)
    have HPlA : Hid (type_of% ((HPl.out _ (((Keep.alloc1 w (.cells #[.int .i64 x.k, .int .i64 x.m] 29)).alloc (.cells #[.int .i64 0, .int .i64 0] 29)).drew)).mono (fun e w' h => (⟨h.1, HN0.out w' h.2, h.2⟩ : _ ∧ _ ∧ _)))) := (HPl.out _ (((Keep.alloc1 w (.cells #[.int .i64 x.k, .int .i64 x.m] 29)).alloc (.cells #[.int .i64 0, .int .i64 0] 29)).drew)).mono (fun e w' h => ⟨h.1, HN0.out w' h.2, h.2⟩)
    have HL : Hid (type_of% hl) := hl
    clear a c d h hk0 hl hs
    go_enter Try.func16, Try.ntmps16
    go_wp2
    go_region_held3 (fun w' => w'.cell? ⟨b, 0, none⟩ = some (vF k) ∧ w'.cell? ⟨b, 1, none⟩ = some (.pointer p) ∧ w'.cell? ⟨w.heap.size, 0, none⟩ = some (.int .i64 x.k) ∧ w'.cell? ⟨w.heap.size, 1, none⟩ = some (.int .i64 x.m) ∧ Hid (Keep [] w w'))
      (first | assumption | exact Cs.base (l := [(⟨b, 0, none⟩, vF k), (⟨b, 1, none⟩, .pointer p), (⟨w.heap.size, 0, none⟩, .int .i64 x.k), (⟨w.heap.size, 1, none⟩, .int .i64 x.m)]) HBC (by (repeat (first | exact Keep.refl _ _ | exact k5 | refine Keep.alloc ?_ _ | refine Keep.setCell ?_ (.inr (by first | (simp; done) | (have := k5.size; simp at this ⊢; omega))) _ | refine Keep.trans' ?_ k5 | refine Keep.drew ?_))))
      (first | (go_at_call 48; refine HPlA.out.mono ?_; clear HPlA; rintro e w5 ⟨rfl, ⟨⟨v0, v1⟩, v2, v3⟩, k5⟩) | (go_at_call 48; refine (HPl.out _ ((show Cs [(⟨b, 0, none⟩, vF k), (⟨b, 1, none⟩, .pointer p), (⟨w.heap.size, 0, none⟩, .int .i64 x.k), (⟨w.heap.size, 1, none⟩, .int .i64 x.m)] w _ from by assumption).kp)).mono ?_; clear HPl; rintro e w5 ⟨rfl, k5⟩))
    all_goals
      rename_i hH
      have HKc : Keep [] w _ := ((show Cs [(⟨b, 0, none⟩, vF k), (⟨b, 1, none⟩, .pointer p), (⟨w.heap.size, 0, none⟩, .int .i64 x.k), (⟨w.heap.size, 1, none⟩, .int .i64 x.m)] w _ from by assumption).kp)
      obtain ⟨y0, y1, y2, y3, _⟩ := hH
      go_wp2_with (first | (go_at_call 51; refine (HIn.out _ HKc).mono ?_; clear HIn; rintro e w6 ⟨p6, T6, rfl, t6, l6, k6⟩; have fr6 := (HKc.trans' k6).frozen (p := ⟨b, 1, none⟩) hbl (by simp); rw [fr] at fr6; have cc6 := (HKc.trans' k6).cell' c1 (by simp)))
      go_ret
      exact ⟨rfl, by unfold remL; rw [HL.out]; exact (HS.out.set (HKc.trans' k6) t6 l6 (del_ris HRi.out _)).1, (HS.out.set (HKc.trans' k6) t6 l6 (del_ris HRi.out _)).2⟩
  | none =>
    have HPl : Hid (∀ w9, Keep [] w w9 → Calls Try.prog 48 #[.pointer p, vF k, vP x] w9 fun e w' => e = .returned (.tuple #[.int .i64 (rnk l x.k : Int), vP ⟨0, 0⟩, .bool false]) ∧ Keep [] w9 w') := fun w9 kk => by
      have := place_no k h.cmp p T x w9 (c.keep kk) (by rw [d]; exact h.ris) (by rw [d]; omega) (by rw [d]; exact hl)
      rw [d] at this
      exact this
    have HPlA : Hid (type_of% ((HPl.out _ (((Keep.alloc1 w (.cells #[.int .i64 x.k, .int .i64 x.m] 29)).alloc (.cells #[.int .i64 0, .int .i64 0] 29)).drew)).mono (fun e w' h => (⟨h.1, HN0.out w' h.2, h.2⟩ : _ ∧ _ ∧ _)))) := (HPl.out _ (((Keep.alloc1 w (.cells #[.int .i64 x.k, .int .i64 x.m] 29)).alloc (.cells #[.int .i64 0, .int .i64 0] 29)).drew)).mono (fun e w' h => ⟨h.1, HN0.out w' h.2, h.2⟩)
    have HL : Hid (type_of% hl) := hl
    clear a c d h hk0 hl hs
    go_enter Try.func16, Try.ntmps16
    go_wp2
    go_region_held3 (fun w' => w'.cell? ⟨b, 0, none⟩ = some (vF k) ∧ w'.cell? ⟨b, 1, none⟩ = some (.pointer p) ∧ w'.cell? ⟨w.heap.size, 0, none⟩ = some (.int .i64 x.k) ∧ w'.cell? ⟨w.heap.size, 1, none⟩ = some (.int .i64 x.m) ∧ Hid (Keep [] w w'))
      (first | assumption | exact Cs.base (l := [(⟨b, 0, none⟩, vF k), (⟨b, 1, none⟩, .pointer p), (⟨w.heap.size, 0, none⟩, .int .i64 x.k), (⟨w.heap.size, 1, none⟩, .int .i64 x.m)]) HBC (by (repeat (first | exact Keep.refl _ _ | exact k5 | refine Keep.alloc ?_ _ | refine Keep.setCell ?_ (.inr (by first | (simp; done) | (have := k5.size; simp at this ⊢; omega))) _ | refine Keep.trans' ?_ k5 | refine Keep.drew ?_))))
      (first | (go_at_call 48; refine HPlA.out.mono ?_; clear HPlA; rintro e w5 ⟨rfl, ⟨⟨v0, v1⟩, v2, v3⟩, k5⟩) | (go_at_call 48; refine (HPl.out _ ((show Cs [(⟨b, 0, none⟩, vF k), (⟨b, 1, none⟩, .pointer p), (⟨w.heap.size, 0, none⟩, .int .i64 x.k), (⟨w.heap.size, 1, none⟩, .int .i64 x.m)] w _ from by assumption).kp)).mono ?_; clear HPl; rintro e w5 ⟨rfl, k5⟩))
    all_goals
      rename_i hH
      have HKc : Keep [] w _ := ((show Cs [(⟨b, 0, none⟩, vF k), (⟨b, 1, none⟩, .pointer p), (⟨w.heap.size, 0, none⟩, .int .i64 x.k), (⟨w.heap.size, 1, none⟩, .int .i64 x.m)] w _ from by assumption).kp)
      obtain ⟨y0, y1, y2, y3, _⟩ := hH
      go_wp2
      go_ret
      exact ⟨rfl, by unfold remL; rw [HL.out]; exact HS.out.keep0 HKc, HKc.mono (by simp)⟩

theorem freeze_any (b k : Nat) (l : List Pr) (w : World) (h : Sh w b k l) : Calls Try.prog 17 #[vA b] w fun e w' => ∃ b', e = .returned (vA b') ∧ Sh w' b' k l ∧ Keep [] w w' ∧ w.heap.size ≤ b' := by
  obtain ⟨p, T, a, c, d⟩ := h.ex
  have HS : Hid (Sh w b k l) := h
  have HA : Hid (IsT w p T ∧ T.list = l) := ⟨c, d⟩
  have c0 : w.cell? ⟨b, 0, none⟩ = some (vF k) := by unfold World.cell?; rw [a]; rfl
  have c1 : w.cell? ⟨b, 1, none⟩ = some (.pointer p) := by unfold World.cell?; rw [a]; rfl
  clear a c d h
  go_enter Try.func17, Try.ntmps17
  go_wp2
  go_region_held3 (fun w' => w'.cell? ⟨b, 0, none⟩ = some (vF k) ∧ w'.cell? ⟨b, 1, none⟩ = some (.pointer p) ∧ Hid (Keep [] w w'))
    (first | assumption | exact ⟨c0, c1, (Keep.refl _ _).drew⟩ | exact Cs.alloc (l := [(⟨b, 0, none⟩, vF k), (⟨b, 1, none⟩, .pointer p)]) _ (by assumption))
    (fail)
  go_wp2
  go_ret
  exact ⟨w.heap.size, rfl, ⟨⟨p, T, heap_alloc_new _ _, HA.out.1.keep ((Keep.alloc1 _ _).drew), HA.out.2⟩, HS.out.ris, HS.out.cmp⟩, (Keep.alloc1 _ _).drew, Nat.le_refl _⟩

end Go.Proofs.Ytkelhglflpdpeaa
