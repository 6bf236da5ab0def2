/- A shelf asked: Rank, From, All, Nth. -/
import Derived.Test.YtkelhglflpdpeaaTx

namespace Go.Proofs.Ytkelhglflpdpeaa
open Go.RowKit Go.PlainAid Go.Shelf
attribute [local go_sem] Oper.semAt_some

set_option maxRecDepth 100000 in
set_option maxHeartbeats 2000000 in
theorem shRank_any (b k : Nat) (l : List Pr) (x : Pr) (w : World) (h : Sh w b k l) (hs : l.length ≤ 1152921504606846976) :
    Calls Try.prog 35 #[vA b, vP x] w fun e w' => e = .returned (.int .i64 (rnk l x.k : Int)) ∧ Keep [] w w' := by
  obtain ⟨p, T, a, c, d⟩ := h.ex
  have hbl := h.lt
  obtain ⟨x0, x1, hk0⟩ := Bp.new w x
  have c0 : w.cell? ⟨b, 0, none⟩ = some (vF k) := by unfold World.cell?; rw [a]; rfl
  have c1 : w.cell? ⟨b, 1, none⟩ = some (.pointer p) := by unfold World.cell?; rw [a]; rfl
  have HK : Keep [] w (w.alloc (.cells #[.int .i64 x.k, .int .i64 x.m] 29)) := Keep.alloc1 _ _
  have HBC : Cs [(⟨b, 0, none⟩, vF k), (⟨b, 1, none⟩, .pointer p), (⟨w.heap.size, 0, none⟩, .int .i64 x.k), (⟨w.heap.size, 1, none⟩, .int .i64 x.m)] w (w.alloc (.cells #[.int .i64 x.k, .int .i64 x.m] 29)) := ⟨HK.cell' c0 (by simp), HK.cell' c1 (by simp), x0, x1, HK⟩
  have HRk : Hid (∀ w9, Keep [] w w9 → Calls Try.prog 55 #[.pointer p, vF k, vP x] w9 fun e w' => e = .returned (.int .i64 (rnk l x.k : Int)) ∧ Keep [] w9 w') := fun w9 kk => by
    rw [← d]
    exact rank_any k h.cmp p T x w9 (c.keep kk) (by rw [d]; exact h.ris) (by rw [d]; omega)
  clear a c d h hk0 hs
  go_enter Try.func35, Try.ntmps35
  go_wp2
  go_region_held3 (fun w' => w'.cell? ⟨b, 0, none⟩ = some (vF k) ∧ w'.cell? ⟨b, 1, none⟩ = some (.pointer p) ∧ w'.cell? ⟨w.heap.size, 0, none⟩ = some (.int .i64 x.k) ∧ w'.cell? ⟨w.heap.size, 1, none⟩ = some (.int .i64 x.m) ∧ Hid (Keep [] w w'))
    (first | assumption | exact Cs.drew (l := [(⟨b, 0, none⟩, vF k), (⟨b, 1, none⟩, .pointer p), (⟨w.heap.size, 0, none⟩, .int .i64 x.k), (⟨w.heap.size, 1, none⟩, .int .i64 x.m)]) HBC | exact Cs.alloc (l := [(⟨b, 0, none⟩, vF k), (⟨b, 1, none⟩, .pointer p), (⟨w.heap.size, 0, none⟩, .int .i64 x.k), (⟨w.heap.size, 1, none⟩, .int .i64 x.m)]) _ (by assumption) | exact Cs.more (l := [(⟨b, 0, none⟩, vF k), (⟨b, 1, none⟩, .pointer p), (⟨w.heap.size, 0, none⟩, .int .i64 x.k), (⟨w.heap.size, 1, none⟩, .int .i64 x.m)]) (by assumption) (by assumption))
    (first | (go_at_call 55; refine (HRk.out _ ((show Cs [(⟨b, 0, none⟩, vF k), (⟨b, 1, none⟩, .pointer p), (⟨w.heap.size, 0, none⟩, .int .i64 x.k), (⟨w.heap.size, 1, none⟩, .int .i64 x.m)] w _ from by assumption).kp)).mono ?_; clear HRk; rintro e w5 ⟨rfl, k5⟩))
  go_wp2
  go_ret
  exact ⟨rfl, ((show Cs [(⟨b, 0, none⟩, vF k), (⟨b, 1, none⟩, .pointer p), (⟨w.heap.size, 0, none⟩, .int .i64 x.k), (⟨w.heap.size, 1, none⟩, .int .i64 x.m)] w _ from by assumption).kp)⟩

/-- a sequence that tells l, made anew -/
def SqN (w w' : World) (v : Value) (l : List Pr) : Prop := ∃ B1 B2, v = vSq B1 B2 ∧ Sq w' B1 B2 l ∧ Keep [] w w' ∧ w.heap.size ≤ B1 ∧ w.heap.size ≤ B2

set_option maxRecDepth 100000 in
set_option maxHeartbeats 2000000 in
theorem shFrom_any (b k : Nat) (l : List Pr) (x : Pr) (w : World) (h : Sh w b k l) (hs : l.length ≤ 1152921504606846976) :
    Calls Try.prog 26 #[vA b, vP x] w fun e w' => ∃ v, e = .returned v ∧ SqN w w' v (l.drop (rnk l x.k)) := by
  obtain ⟨p, T, a, c, d⟩ := h.ex
  have hbl := h.lt
  obtain ⟨x0, x1, hk0⟩ := Bp.new w x
  have c0 : w.cell? ⟨b, 0, none⟩ = some (vF k) := by unfold World.cell?; rw [a]; rfl
  have c1 : w.cell? ⟨b, 1, none⟩ = some (.pointer p) := by unfold World.cell?; rw [a]; rfl
  have HK : Keep [] w (w.alloc (.cells #[.int .i64 x.k, .int .i64 x.m] 29)) := Keep.alloc1 _ _
  have HBC : Cs [(⟨b, 0, none⟩, vF k), (⟨b, 1, none⟩, .pointer p), (⟨w.heap.size, 0, none⟩, .int .i64 x.k), (⟨w.heap.size, 1, none⟩, .int .i64 x.m)] w (w.alloc (.cells #[.int .i64 x.k, .int .i64 x.m] 29)) := ⟨HK.cell' c0 (by simp), HK.cell' c1 (by simp), x0, x1, HK⟩
  have HRk : Hid (∀ w9, Keep [] w w9 → Calls Try.prog 55 #[.pointer p, vF k, vP x] w9 fun e w' => e = .returned (.int .i64 (rnk l x.k : Int)) ∧ Keep [] w9 w') := fun w9 kk => by
    rw [← d]
    exact rank_any k h.cmp p T x w9 (c.keep kk) (by rw [d]; exact h.ris) (by rw [d]; omega)
  have HFr : Hid (∀ w9, Keep [] w w9 → Calls Try.prog 54 #[.pointer p, .int .i64 (rnk l x.k : Int)] w9 fun e w' => ∃ B1 B2, e = .returned (vSq B1 B2) ∧ Sq w' B1 B2 (l.drop (rnk l x.k)) ∧ Keep [] w9 w' ∧ w.heap.size ≤ B1 ∧ w.heap.size ≤ B2) := fun w9 kk =>
    (from_any p _ w9).mono (by
      rintro e w' ⟨he, hw⟩
      have hq := Sq.of_from (rnk l x.k) (c.keep kk) (by rw [d]; omega) (by have := rnk_le l x.k; omega)
      rw [d] at hq
      refine ⟨_, _, he, by rw [hw]; exact hq, by rw [hw]; exact (Keep.alloc1 _ _).alloc _, kk.size, Nat.le_succ_of_le kk.size⟩)
  clear a c d h hk0 hs
  go_enter Try.func26, Try.ntmps26
  go_wp2
  go_region_held3 (fun w' => w'.cell? ⟨b, 0, none⟩ = some (vF k) ∧ w'.cell? ⟨b, 1, none⟩ = some (.pointer p) ∧ w'.cell? ⟨w.heap.size, 0, none⟩ = some (.int .i64 x.k) ∧ w'.cell? ⟨w.heap.size, 1, none⟩ = some (.int .i64 x.m) ∧ Hid (Keep [] w w'))
    (first | assumption | exact Cs.drew (l := [(⟨b, 0, none⟩, vF k), (⟨b, 1, none⟩, .pointer p), (⟨w.heap.size, 0, none⟩, .int .i64 x.k), (⟨w.heap.size, 1, none⟩, .int .i64 x.m)]) HBC | exact Cs.alloc (l := [(⟨b, 0, none⟩, vF k), (⟨b, 1, none⟩, .pointer p), (⟨w.heap.size, 0, none⟩, .int .i64 x.k), (⟨w.heap.size, 1, none⟩, .int .i64 x.m)]) _ (by assumption) | exact Cs.more (l := [(⟨b, 0, none⟩, vF k), (⟨b, 1, none⟩, .pointer p), (⟨w.heap.size, 0, none⟩, .int .i64 x.k), (⟨w.heap.size, 1, none⟩, .int .i64 x.m)]) (by assumption) (by assumption))
    (first | (go_at_call 55; refine (HRk.out _ ((show Cs [(⟨b, 0, none⟩, vF k), (⟨b, 1, none⟩, .pointer p), (⟨w.heap.size, 0, none⟩, .int .i64 x.k), (⟨w.heap.size, 1, none⟩, .int .i64 x.m)] w _ from by assumption).kp)).mono ?_; clear HRk; rintro e w5 ⟨rfl, k5⟩) | (go_at_call 54; refine (HFr.out _ ((show Cs [(⟨b, 0, none⟩, vF k), (⟨b, 1, none⟩, .pointer p), (⟨w.heap.size, 0, none⟩, .int .i64 x.k), (⟨w.heap.size, 1, none⟩, .int .i64 x.m)] w _ from by assumption).kp)).mono ?_; clear HFr; rintro e w6 ⟨B1, B2, rfl, q6, k6, s1, s2⟩))
  go_wp2
  go_ret
  exact ⟨_, rfl, B1, B2, rfl, q6.keep0 (by first | exact Keep.refl _ _ | exact (Keep.refl _ _).drew), ((show Cs [(⟨b, 0, none⟩, vF k), (⟨b, 1, none⟩, .pointer p), (⟨w.heap.size, 0, none⟩, .int .i64 x.k), (⟨w.heap.size, 1, none⟩, .int .i64 x.m)] w _ from by assumption).kp), s1, s2⟩

theorem shAll_any (b k : Nat) (l : List Pr) (w : World) (h : Sh w b k l) (hs : l.length ≤ 1152921504606846976) :
    Calls Try.prog 22 #[vA b] w fun e w' => ∃ v, e = .returned v ∧ SqN w w' v l := by
  obtain ⟨p, T, a, c, d⟩ := h.ex
  have HE : Hid (Calls Try.prog 52 #[vA b] w fun e w' => e = .returned (.pointer p) ∧ w = w') := elements_any b k p w a
  have HFr : Hid (Calls Try.prog 54 #[.pointer p, .int .i64 0] w fun e w' => ∃ B1 B2, e = .returned (vSq B1 B2) ∧ Sq w' B1 B2 l ∧ Keep [] w w' ∧ w.heap.size ≤ B1 ∧ w.heap.size ≤ B2) :=
    (from_any p 0 w).mono (by
      rintro e w' ⟨he, hw⟩
      have hq := Sq.of_from 0 c (by rw [d]; omega) (by omega)
      rw [d] at hq
      exact ⟨_, _, he, by rw [hw]; exact hq, by rw [hw]; exact (Keep.alloc1 _ _).alloc _, Nat.le_refl _, Nat.le_succ _⟩)
  clear a c d h hs
  go_enter Try.func22, Try.ntmps22
  go_wp2_with (first | (go_at_call 52; refine HE.out.mono ?_; clear HE; rintro e w5 ⟨rfl, rfl⟩) | (go_at_call 54; refine HFr.out.mono ?_; clear HFr; rintro e w6 ⟨B1, B2, rfl, q6, k6, s1, s2⟩))
  go_ret
  exact ⟨_, rfl, B1, B2, rfl, q6, k6, s1, s2⟩

/-- the variables of Nth -/
structure Nt (w : World) (H : Nat) (z : Pr) (c : Bool) (W : World) : Prop where
  b0 : W.heap[H]? = some (.cells #[.int .i64 z.k, .int .i64 z.m] 29 (0, 0))
  b1 : W.heap[H + 1]? = some (.cells #[.bool c] 4 (0, 0))
  kp : Keep [] w W
  hH : H = w.heap.size
theorem Nt.keep {w : World} {H : Nat} {z : Pr} {c : Bool} {W W' : World} {R : List Nat} (h : Nt w H z c W) (kk : Keep R W W') (hR : ∀ r ∈ R, H + 2 ≤ r) : Nt w H z c W' := by
  have g : ∀ j o, j < 2 → W.heap[H + j]? = some o → W'.heap[H + j]? = some o := fun j o hj ho => (kk.block _ (Array.getElem?_eq_some_iff.1 ho).1 (fun hm => by have := hR _ hm; omega)).trans ho
  exact ⟨g 0 _ (by omega) h.b0, g 1 _ (by omega) h.b1, h.kp.more kk (fun r hr => .inr (by have := hR r hr; have := h.hH; omega)), h.hH⟩
theorem Nt.cells {w : World} {H : Nat} {z : Pr} {c : Bool} {W : World} (h : Nt w H z c W) :
    (W.cell? ⟨H, 0, none⟩ = some (.int .i64 z.k) ∧ W.cell? ⟨H, 1, none⟩ = some (.int .i64 z.m) ∧ W.cell? ⟨H + 1, 0, none⟩ = some (.bool c)) ∧ (W.frozen? ⟨H, 0, none⟩ = false ∧ W.frozen? ⟨H, 1, none⟩ = false ∧ W.frozen? ⟨H + 1, 0, none⟩ = false) := by
  obtain ⟨b0, b1, _, _⟩ := h
  refine ⟨⟨?_, ?_, ?_⟩, ?_, ?_, ?_⟩
  all_goals first | (unfold World.cell?; first | (rw [b0]; rfl) | (rw [b1]; rfl)) | (unfold World.frozen?; first | (rw [b0]; rfl) | (rw [b1]; rfl))
theorem Nt.size {w : World} {H : Nat} {z : Pr} {c : Bool} {W : World} (h : Nt w H z c W) : H + 2 ≤ W.heap.size := (Array.getElem?_eq_some_iff.1 h.b1).1
theorem Nt.new (w : World) : Nt w w.heap.size ⟨0, 0⟩ false ((w.alloc (.cells #[.int .i64 0, .int .i64 0] 29)).alloc (.cells #[.bool false] 4)) := by
  refine ⟨(Below.heap_alloc _ _ _ (by simp)).trans (heap_alloc_new _ _), ?_, (Keep.alloc1 _ _).alloc _, rfl⟩
  have := heap_alloc_new (w.alloc (.cells #[.int .i64 0, .int .i64 0] 29)) (.cells #[.bool false] 4)
  rwa [World.size_alloc] at this
theorem Nt.set {w : World} {H : Nat} {z : Pr} {c : Bool} {W : World} (h : Nt w H z c W) (y : Pr) (d : Bool) : Nt w H y d (((W.setCell ⟨H, 0, none⟩ (.int .i64 y.k)).setCell ⟨H, 1, none⟩ (.int .i64 y.m)).setCell ⟨H + 1, 0, none⟩ (.bool d)) := by
  have kk : Keep [H] W ((W.setCell ⟨H, 0, none⟩ (.int .i64 y.k)).setCell ⟨H, 1, none⟩ (.int .i64 y.m)) := (Keep.set1 W ⟨H, 0, none⟩ _).trans' (Keep.set1 _ ⟨H, 1, none⟩ _)
  have k2 : Keep [H + 1] ((W.setCell ⟨H, 0, none⟩ (.int .i64 y.k)).setCell ⟨H, 1, none⟩ (.int .i64 y.m)) (((W.setCell ⟨H, 0, none⟩ (.int .i64 y.k)).setCell ⟨H, 1, none⟩ (.int .i64 y.m)).setCell ⟨H + 1, 0, none⟩ (.bool d)) := Keep.set1 _ ⟨H + 1, 0, none⟩ _
  have g0 := two_setCell (u' := .int .i64 y.k) (v' := .int .i64 y.m) h.b0
  have g1 := (kk.block (H + 1) (Array.getElem?_eq_some_iff.1 h.b1).1 (by simp)).trans h.b1
  have e := h.hH
  exact ⟨(k2.block H (Array.getElem?_eq_some_iff.1 g0).1 (by simp)).trans g0, one_setCell g1, (h.kp.more kk (fun r hr => .inr (by simp at hr; omega))).more k2 (fun r hr => .inr (by simp at hr; omega)), h.hH⟩

set_option maxRecDepth 100000 in
set_option maxHeartbeats 2000000 in
theorem nth_below (b : Nat) (i : Int) (w : World) (hi : i < 0) : Calls Try.prog 34 #[vA b, .int .i64 i] w fun e w' => e = .returned (.tuple #[vP ⟨0, 0⟩, .bool false]) ∧ Keep [] w w' := by
  have hn : ¬ 0 ≤ i := by omega
  go_enter Try.func34, Try.ntmps34
  go_wp2
  have z := (((Nt.new w).keep (Keep.alloc1 _ (.cells #[.int .i64 0, .int .i64 0] 29)) (by simp)).cells).1
  refine bodyPost_ret (v := .tuple #[vP ⟨0, 0⟩, .bool false]) (by simp [results, Try.results34, go_sem]) rfl ?_
  exact ⟨rfl, ((Keep.alloc1 _ _).alloc _).alloc _⟩

set_option maxRecDepth 100000 in
set_option maxHeartbeats 2000000 in
theorem nth_any (b k : Nat) (l : List Pr) (i : Nat) (w : World) (h : Sh w b k l) (hs : l.length ≤ 1152921504606846976) (hi : i ≤ 9223372036854775807) :
    Calls Try.prog 34 #[vA b, .int .i64 (i : Int)] w fun e w' => ∃ z c, e = .returned (.tuple #[vP z, .bool c]) ∧ (l[i]? = if c then some z else none) ∧ (c = false → z = ⟨0, 0⟩) ∧ Keep [] w w' := by
  obtain ⟨p, T, a, c, d⟩ := h.ex
  have HE : Hid (∀ w9, Keep [] w w9 → Calls Try.prog 52 #[vA b] w9 fun e w' => e = .returned (.pointer p) ∧ w9 = w') := fun w9 kk => elements_any b k p w9 ((kk.block b (Array.getElem?_eq_some_iff.1 a).1 (by simp)).trans a)
  have HFr : Hid (∀ w9, Keep [] w w9 → Calls Try.prog 54 #[.pointer p, .int .i64 (i : Int)] w9 fun e w' => e = .returned (vSq w9.heap.size (w9.heap.size + 1)) ∧ Sq w' w9.heap.size (w9.heap.size + 1) (l.drop i) ∧ Keep [] w9 w' ∧ w9.heap.size + 2 = w'.heap.size) := fun w9 kk =>
    (from_any p _ w9).mono (by
      rintro e w' ⟨he, hw⟩
      have hq := Sq.of_from i (c.keep kk) (by rw [d]; omega) hi
      rw [d] at hq
      exact ⟨he, by rw [hw]; exact hq, by rw [hw]; exact (Keep.alloc1 _ _).alloc _, by rw [hw]; simp⟩)
  clear a c d h hs hi
  have hi0 : (0 : Int) ≤ (i : Int) := by omega
  obtain ⟨H, HH⟩ : ∃ H : Nat, Hid (H = w.heap.size) := ⟨_, show _ = _ from rfl⟩
  have hP0 := Nt.new w
  rw [← HH.out] at hP0
  have HP0 : Hid (type_of% hP0) := hP0
  clear hP0
  refine (callsIn_wide (n := 6)).1 ?_
  refine callsIn_of_wp_marks Try.func34 rfl trivial ?_ rfl
  simp only [Try.ntmps34, List.size_toArray, List.length_cons, List.length_nil, Nat.reduceAdd, Nat.reduceSub, Array.replicate_succ, Array.replicate_zero, List.push_toArray, List.append_toArray, List.nil_append, List.cons_append]
  gi_wp2_with fail
  refine ⟨trivial, (callsIn_wide.2 (HE.out _ HP0.out.kp)).mono ?_⟩
  rintro e w6 ⟨rfl, rfl⟩
  gi_wp2_with fail
  refine ⟨trivial, (callsIn_wide.2 (HFr.out _ HP0.out.kp)).mono ?_⟩
  rintro e w8 ⟨rfl, q8, k8, s8⟩
  have hP8 := HP0.out.keep k8 (by simp)
  have HP8 : Hid (type_of% hP8) := hP8
  have HSq : Hid (type_of% q8) := q8
  have HB : Hid (H + 4 = w8.heap.size) := by show _ = _; rw [← s8]; simp; have := HH.out; omega
  clear hP8 q8 k8 s8 HP0 HE HFr
  simp only [World.size_alloc] at HSq ⊢
  rw [← HH.out] at HSq ⊢
  simp only [Nat.add_assoc, Nat.reduceAdd] at HSq ⊢
  gi_wp2_with fail
  refine wpIn_rangeFunc_ownH (w := w8) rfl (by omega) (gf := 68) (lb := #[.pointer (some ⟨H + 2, 0, none⟩), .pointer (some ⟨H + 3, 0, none⟩)]) rfl trivial (enters_of Try.func68 (by kernel_rfl) rfl)
    (HSq.out.stops 5) (fun h k => h.trans k) (fun W l o o' _ h1 h2 _ => kt_putObj W l o o' h1 h2) (Below.refl _ _) (fun _ => rfl)
    (fun pre W => pre = [] ∧ Nt w H ⟨0, 0⟩ false W ∧ w8.heap.size ≤ W.heap.size)
    (fun c pre W => ∃ y, pre = [y] ∧ c = .ret ∧ Nt w H y true W)
    (fun s A B row hs hg hr => ⟨hs.1, hs.2.1.keep (Keep.grown hg) (fun r hm => by have := (hr r (by simpa using hm)).1; have := HB.out; omega), Nat.le_trans hs.2.2 hg.size⟩)
    (fun c s A B row hs hg hr => by
      have hR : ∀ r ∈ row.toList, H + 2 ≤ r := fun r hm => by have := (hr r (by simpa using hm)).1; have := HB.out; omega
      obtain ⟨y, hy, h1, h2⟩ := hs
      exact ⟨y, hy, h1, h2.keep (Keep.grown hg) hR⟩)
    ⟨rfl, HP8.out, Nat.le_refl _⟩
    (fun y a' W => ∃ Bx, w8.heap.size ≤ Bx ∧ W.heap[Bx]? = some (.cells #[.int .i64 y.k, .int .i64 y.m] 29 (0, 0)) ∧ a' = { tmps := #[vA b, .int .i64 (i : Int), undef, undef, .pointer (some ⟨H, 0, none⟩), .pointer (some ⟨H + 1, 0, none⟩), .pointer (some ⟨Bx, 0, none⟩), .int .i64 (i : Int), .bool true, vA b, .pointer p, .int .i64 (i : Int), vSq (H + 2) (H + 3), vP y, undef, undef, undef, undef], defers := [] })
    ?ax ?assign ?body ?done ?stop
  case ax =>
    rintro y a' _ A B row ⟨Bx, h1, h2, h3⟩ hg hr
    refine ⟨Bx, h1, (hg.block Bx (Array.getElem?_eq_some_iff.1 h2).1 (fun e => ?_)).trans h2, h3⟩
    obtain ⟨_, o, ho, hc⟩ := hr Bx e.symm
    rw [h2] at ho
    cases ho
    cases hc
  case assign =>
    rintro l pre y W K hi hK
    gi_wp2
    exact hK _ _ ((Keep.alloc1 W _).from (by simp)) (Keep.alloc1 W _).kt0 ⟨hi.1, hi.2.1.keep (Keep.alloc1 W _) (by simp), Nat.le_trans hi.2.2 (Keep.alloc1 W _).size⟩ ⟨W.heap.size, hi.2.2, heap_alloc_new _ _, rfl⟩
  case body =>
    rintro l pre y a' W hl _ ⟨rfl, hP, _⟩ ⟨Bx, hBx, hbx, rfl⟩ _
    obtain ⟨⟨c9, c10⟩, _, _⟩ := two_facts hbx
    have HP : Hid (type_of% hP) := hP
    obtain ⟨⟨c0, c1, c2⟩, f2, f3, f4⟩ := hP.cells
    have hne : Bx ≠ H ∧ Bx ≠ H + 1 := by have := HB.out; omega
    obtain ⟨n1, n2⟩ := hne
    clear hP hbx
    gi_wp2
    have hB8 := HB.out
    refine ⟨Keep.from (R := [H, H + 1]) ?_ (by intro r hr; simp at hr; omega), y, rfl, rfl, HP.out.set y true⟩
    exact ((((Keep.refl _ W).setCell (.inl (by simp)) _).setCell (.inl (by simp)) _).setCell (.inl (by simp)) _)
  case stop =>
    rintro D c pre W hD hpre ⟨y, rfl, rfl, hP⟩ hK
    gi_wp2
    refine ⟨by simp, .inl ⟨_, _, rfl, run_takeDeferred hK, ?_⟩⟩
    have hQ := hP.keep (Keep.grown (grownBy_putObj' W D (.deferred none))) (fun r hr => by simp at hr; have := HB.out; omega)
    obtain ⟨⟨c0, c1, c2⟩, f2, f3, f4⟩ := hQ.cells
    refine ⟨_, by simp [results, Try.results34, go_sem, c0, c1, c2], y, true, rfl, ?_, by simp, hQ.kp⟩
    obtain ⟨t, ht⟩ := hpre
    have := congrArg List.head? ht
    simp at this
    simp [this]
  case done =>
    rintro D ys W hD hys ⟨rfl, hP, _⟩ hK
    have HP : Hid (type_of% hP) := hP
    obtain ⟨⟨c0, c1, c2⟩, f2, f3, f4⟩ := hP.cells
    have hlt : H < W.heap.size ∧ H + 1 < W.heap.size := by have := hP.size; omega
    obtain ⟨hl1, hl2⟩ := hlt
    have hn1 : ¬ H = W.heap.size := by omega
    have hn2 : ¬ H + 1 = W.heap.size := by omega
    clear hP
    gi_wp2
    have hP9 := (HP.out.set ⟨0, 0⟩ false).keep (Keep.alloc1 _ (.cells #[.int .i64 0, .int .i64 0] 29)) (by simp)
    have hB8 := HB.out
    have kD : Keep [H, H + 1] W ((((W.setCell ⟨H, 0, none⟩ (.int .i64 0)).setCell ⟨H, 1, none⟩ (.int .i64 0)).setCell ⟨H + 1, 0, none⟩ (.bool false)).alloc (.cells #[.int .i64 0, .int .i64 0] 29)) :=
      ((((Keep.refl _ W).setCell (.inl (by simp)) _).setCell (.inl (by simp)) _).setCell (.inl (by simp)) _).alloc _
    have hK9 := (kD.block D (Array.getElem?_eq_some_iff.1 hK).1 (by simp; omega)).trans hK
    refine ⟨by simp, .inl ⟨_, _, rfl, run_takeDeferred hK9, ?_⟩⟩
    have hQ := hP9.keep (Keep.grown (grownBy_putObj' _ D (.deferred none))) (fun r hr => by simp at hr; omega)
    obtain ⟨⟨c0, c1, c2⟩, f2, f3, f4⟩ := hQ.cells
    refine ⟨_, by simp [results, Try.results34, go_sem, c0, c1, c2], ⟨0, 0⟩, .inl ⟨rfl, ?_, rfl, hQ.kp⟩⟩
    have := congrArg List.length hys
    simp at this
    omega

end Go.Proofs.Ytkelhglflpdpeaa
