/- Where an element stands, and which one is like it. -/
import Derived.Test.YtkelhglflpdpeaaTq
import Derived.Test.YtkelhglflpdpeaaTv

namespace Go.Proofs.Ytkelhglflpdpeaa
open Go.RowKit Go.PlainAid Go.Shelf
attribute [local go_sem] Oper.semAt_some


/-- the variables of place: comparison, element, place, like one, is it there -/
structure Pl (w : World) (H k : Nat) (x : Pr) (i : Int) (z : Pr) (c : Bool) (W : World) : Prop where
  b0 : W.heap[H]? = some (.cells #[.func (.func k) #[] #[]] 30 (0, 0))
  b1 : W.heap[H + 1]? = some (.cells #[.int .i64 x.k, .int .i64 x.m] 29 (0, 0))
  b2 : W.heap[H + 2]? = some (.cells #[.int .i64 i] 3 (0, 0))
  b3 : W.heap[H + 3]? = some (.cells #[.int .i64 z.k, .int .i64 z.m] 29 (0, 0))
  b4 : W.heap[H + 4]? = some (.cells #[.bool c] 4 (0, 0))
  kp : Keep [] w W
  hH : H = w.heap.size
theorem Pl.keep {w : World} {H k : Nat} {x : Pr} {i : Int} {z : Pr} {c : Bool} {W W' : World} {R : List Nat} (h : Pl w H k x i z c W) (kk : Keep R W W') (hR : ∀ r ∈ R, H + 5 ≤ r) : Pl w H k x i z c W' := by
  have g : ∀ j o, j < 5 → W.heap[H + j]? = some o → W'.heap[H + j]? = some o := fun j o hj ho => (kk.block _ (Array.getElem?_eq_some_iff.1 ho).1 (fun hm => by have := hR _ hm; omega)).trans ho
  exact ⟨g 0 _ (by omega) h.b0, g 1 _ (by omega) h.b1, g 2 _ (by omega) h.b2, g 3 _ (by omega) h.b3, g 4 _ (by omega) h.b4, h.kp.more kk (fun r hr => .inr (by have := hR r hr; have := h.hH; omega)), h.hH⟩
theorem Pl.size {w : World} {H k : Nat} {x : Pr} {i : Int} {z : Pr} {c : Bool} {W : World} (h : Pl w H k x i z c W) : H + 5 ≤ W.heap.size := (Array.getElem?_eq_some_iff.1 h.b4).1
theorem Pl.cells {w : World} {H k : Nat} {x : Pr} {i : Int} {z : Pr} {c : Bool} {W : World} (h : Pl w H k x i z c W) :
    (W.cell? ⟨H, 0, none⟩ = some (.func (.func k) #[] #[]) ∧ W.cell? ⟨H + 1, 0, none⟩ = some (.int .i64 x.k) ∧ W.cell? ⟨H + 1, 1, none⟩ = some (.int .i64 x.m) ∧ W.cell? ⟨H + 2, 0, none⟩ = some (.int .i64 i) ∧ W.cell? ⟨H + 3, 0, none⟩ = some (.int .i64 z.k) ∧ W.cell? ⟨H + 3, 1, none⟩ = some (.int .i64 z.m) ∧ W.cell? ⟨H + 4, 0, none⟩ = some (.bool c)) ∧
    (W.frozen? ⟨H + 2, 0, none⟩ = false ∧ W.frozen? ⟨H + 3, 0, none⟩ = false ∧ W.frozen? ⟨H + 3, 1, none⟩ = false ∧ W.frozen? ⟨H + 4, 0, none⟩ = false) := by
  obtain ⟨b0, b1, b2, b3, b4, _, _⟩ := h
  refine ⟨⟨?_, ?_, ?_, ?_, ?_, ?_, ?_⟩, ?_, ?_, ?_, ?_⟩
  all_goals first | (unfold World.cell?; first | (rw [b0]; rfl) | (rw [b1]; rfl) | (rw [b2]; rfl) | (rw [b3]; rfl) | (rw [b4]; rfl)) | (unfold World.frozen?; first | (rw [b2]; rfl) | (rw [b3]; rfl) | (rw [b4]; rfl))
theorem Pl.new (w : World) (k : Nat) (x : Pr) : Pl w w.heap.size k x 0 ⟨0, 0⟩ false (((((w.alloc (.cells #[.func (.func k) #[] #[]] 30)).alloc (.cells #[.int .i64 x.k, .int .i64 x.m] 29)).alloc (.cells #[.int .i64 0] 3)).alloc (.cells #[.int .i64 0, .int .i64 0] 29)).alloc (.cells #[.bool false] 4)) := by
  refine ⟨?_, ?_, ?_, ?_, ?_, ((((Keep.alloc1 _ _).alloc _).alloc _).alloc _).alloc _, rfl⟩
  · exact (Below.heap_alloc _ _ _ (by simp only [World.size_alloc]; omega)).trans ((Below.heap_alloc _ _ _ (by simp only [World.size_alloc]; omega)).trans ((Below.heap_alloc _ _ _ (by simp only [World.size_alloc]; omega)).trans ((Below.heap_alloc _ _ _ (by simp)).trans (heap_alloc_new _ _))))
  · have := heap_alloc_new (w.alloc (.cells #[.func (.func k) #[] #[]] 30)) (.cells #[.int .i64 x.k, .int .i64 x.m] 29)
    rw [World.size_alloc] at this
    exact (Below.heap_alloc _ _ _ (by simp only [World.size_alloc]; omega)).trans ((Below.heap_alloc _ _ _ (by simp only [World.size_alloc]; omega)).trans ((Below.heap_alloc _ _ _ (by simp)).trans this))
  · have := heap_alloc_new ((w.alloc (.cells #[.func (.func k) #[] #[]] 30)).alloc (.cells #[.int .i64 x.k, .int .i64 x.m] 29)) (.cells #[.int .i64 0] 3)
    rw [World.size_alloc, World.size_alloc] at this
    exact (Below.heap_alloc _ _ _ (by simp only [World.size_alloc]; omega)).trans ((Below.heap_alloc _ _ _ (by simp)).trans this)
  · have := heap_alloc_new (((w.alloc (.cells #[.func (.func k) #[] #[]] 30)).alloc (.cells #[.int .i64 x.k, .int .i64 x.m] 29)).alloc (.cells #[.int .i64 0] 3)) (.cells #[.int .i64 0, .int .i64 0] 29)
    rw [World.size_alloc, World.size_alloc, World.size_alloc] at this
    exact (Below.heap_alloc _ _ _ (by simp)).trans this
  · have := heap_alloc_new ((((w.alloc (.cells #[.func (.func k) #[] #[]] 30)).alloc (.cells #[.int .i64 x.k, .int .i64 x.m] 29)).alloc (.cells #[.int .i64 0] 3)).alloc (.cells #[.int .i64 0, .int .i64 0] 29)) (.cells #[.bool false] 4)
    rw [World.size_alloc, World.size_alloc, World.size_alloc, World.size_alloc] at this
    exact this
theorem Pl.setI {w : World} {H k : Nat} {x : Pr} {i : Int} {z : Pr} {c : Bool} {W : World} (h : Pl w H k x i z c W) (j : Int) : Pl w H k x j z c (W.setCell ⟨H + 2, 0, none⟩ (.int .i64 j)) := by
  have kk : Keep [H + 2] W (W.setCell ⟨H + 2, 0, none⟩ (.int .i64 j)) := Keep.set1 W ⟨H + 2, 0, none⟩ _
  have g : ∀ m o, m ≠ 2 → W.heap[H + m]? = some o → (W.setCell ⟨H + 2, 0, none⟩ (.int .i64 j)).heap[H + m]? = some o := fun m o hm ho => (kk.block _ (Array.getElem?_eq_some_iff.1 ho).1 (by simp; omega)).trans ho
  exact ⟨g 0 _ (by omega) h.b0, g 1 _ (by omega) h.b1, one_setCell h.b2, g 3 _ (by omega) h.b3, g 4 _ (by omega) h.b4, h.kp.more kk (fun r hr => .inr (by simp at hr; have := h.hH; omega)), h.hH⟩

theorem at_setCell {W : World} {b j : Nat} {c : Array Value} {u : Value} {t : TypeId} (h : W.heap[b]? = some (.cells c t (0, 0))) : (W.setCell ⟨b, j, none⟩ u).heap[b]? = some (.cells (c.setIfInBounds j u) t (0, 0)) := by
  have hlt := (Array.getElem?_eq_some_iff.1 h).1
  have h' : W.heap[b] = .cells c t (0, 0) := by simpa [Array.getElem?_eq_getElem hlt] using h
  show (W.heap.modify b _)[b]? = _
  rw [Array.getElem?_eq_getElem (by simpa using hlt), Array.getElem_modify_self, h']
  rfl
theorem two_setCell {W : World} {b : Nat} {u v u' v' : Value} {t : TypeId} (h : W.heap[b]? = some (.cells #[u, v] t (0, 0))) : ((W.setCell ⟨b, 0, none⟩ u').setCell ⟨b, 1, none⟩ v').heap[b]? = some (.cells #[u', v'] t (0, 0)) := by
  exact at_setCell (at_setCell h)
theorem Pl.setZ {w : World} {H k : Nat} {x : Pr} {i : Int} {z : Pr} {c : Bool} {W : World} (h : Pl w H k x i z c W) (y : Pr) : Pl w H k x i y c ((W.setCell ⟨H + 3, 0, none⟩ (.int .i64 y.k)).setCell ⟨H + 3, 1, none⟩ (.int .i64 y.m)) := by
  have kk : Keep [H + 3] W ((W.setCell ⟨H + 3, 0, none⟩ (.int .i64 y.k)).setCell ⟨H + 3, 1, none⟩ (.int .i64 y.m)) := (Keep.set1 W ⟨H + 3, 0, none⟩ _).trans' (Keep.set1 _ ⟨H + 3, 1, none⟩ _)
  have g : ∀ m o, m ≠ 3 → W.heap[H + m]? = some o → ((W.setCell ⟨H + 3, 0, none⟩ (.int .i64 y.k)).setCell ⟨H + 3, 1, none⟩ (.int .i64 y.m)).heap[H + m]? = some o := fun m o hm ho => (kk.block _ (Array.getElem?_eq_some_iff.1 ho).1 (by simp; omega)).trans ho
  exact ⟨g 0 _ (by omega) h.b0, g 1 _ (by omega) h.b1, g 2 _ (by omega) h.b2, two_setCell h.b3, g 4 _ (by omega) h.b4, h.kp.more kk (fun r hr => .inr (by simp at hr; have := h.hH; omega)), h.hH⟩
theorem Pl.setC {w : World} {H k : Nat} {x : Pr} {i : Int} {z : Pr} {c : Bool} {W : World} (h : Pl w H k x i z c W) (d : Bool) : Pl w H k x i z d (W.setCell ⟨H + 4, 0, none⟩ (.bool d)) := by
  have kk : Keep [H + 4] W (W.setCell ⟨H + 4, 0, none⟩ (.bool d)) := Keep.set1 W ⟨H + 4, 0, none⟩ _
  have g : ∀ m o, m ≠ 4 → W.heap[H + m]? = some o → (W.setCell ⟨H + 4, 0, none⟩ (.bool d)).heap[H + m]? = some o := fun m o hm ho => (kk.block _ (Array.getElem?_eq_some_iff.1 ho).1 (by simp; omega)).trans ho
  exact ⟨g 0 _ (by omega) h.b0, g 1 _ (by omega) h.b1, g 2 _ (by omega) h.b2, g 3 _ (by omega) h.b3, one_setCell h.b4, h.kp.more kk (fun r hr => .inr (by simp at hr; have := h.hH; omega)), h.hH⟩
/-- only new blocks, and some below B -/
theorem Keep.from {R : List Nat} {W W' : World} {B : Nat} (h : Keep R W W') (hR : ∀ r ∈ R, r < B) : KeepsFrom B W W' :=
  ⟨h.size, fun k o hB hk _ => (h.block k (Array.getElem?_eq_some_iff.1 hk).1 (fun hm => by have := hR k hm; omega)).trans hk⟩
theorem kt_putObj (W : World) (l : Nat) (o o' : Obj) (hl : W.heap[l]? = some o) (ho : o.isCells = false) : KT W (W.putObj l o') := fun b c hb => by
  rw [World.putObj_heap_other (fun e => ?_)]
  · exact hb
  · subst e; rw [hl] at hb; cases hb; cases ho

set_option maxRecDepth 100000 in
set_option maxHeartbeats 2000000 in
theorem place10_any (p : Option Addr) (T : TT) (x : Pr) (w : World) (h : IsT w p T) (hr : Ris T.list) (hs : T.list.length ≤ 1152921504606846976) :
    Calls Try.prog 48 #[.pointer p, .func (.func 10) #[] #[], vP x] w fun e w' => ∃ z c, e = .returned (.tuple #[.int .i64 (rnk T.list x.k : Int), vP z, .bool c]) ∧ (lk T.list x.k = if c then some z else none) ∧ (c = false → z = ⟨0, 0⟩) ∧ Keep [] w w' := by
  have HRk : Hid (∀ w9, Keep [] w w9 → Calls Try.prog 55 #[.pointer p, .func (.func 10) #[] #[], vP x] w9 fun e w' => e = .returned (.int .i64 (rnk T.list x.k : Int)) ∧ Keep [] w9 w') := fun w9 k => rank_any 10 (by decide) p T x w9 (h.keep k) hr hs
  have HFr : Hid (∀ w9, Calls Try.prog 54 #[.pointer p, .int .i64 (rnk T.list x.k : Int)] w9 fun e w' => e = .returned (vSq w9.heap.size (w9.heap.size + 1)) ∧ w' = (w9.alloc (.cells #[.pointer p] 80)).alloc (.cells #[.int .i64 (rnk T.list x.k : Int)] 3)) := fun w9 => from_any p _ w9
  have HT : Hid (IsT w p T ∧ T.list.length ≤ 1152921504606846976) := ⟨h, hs⟩
  have HRL : Hid (rnk T.list x.k ≤ T.list.length) := rnk_le _ _
  clear h hr hs
  obtain ⟨i, HI⟩ : ∃ i : Nat, Hid (i = rnk T.list x.k) := ⟨_, show _ = _ from rfl⟩
  rw [← HI.out] at HRk HFr HRL ⊢
  obtain ⟨H, HH⟩ : ∃ H : Nat, Hid (H = w.heap.size) := ⟨_, show _ = _ from rfl⟩
  refine (callsIn_wide (n := 6)).1 ?_
  refine callsIn_of_wp_marks Try.func48 rfl trivial ?_ rfl
  simp only [Try.ntmps48, List.size_toArray, List.length_cons, List.length_nil, Nat.reduceAdd, Nat.reduceSub, Array.replicate_succ, Array.replicate_zero, List.push_toArray, List.append_toArray, List.nil_append, List.cons_append]
  gi_wp2_with fail
  have hP0 := Pl.new w 10 x
  rw [← HH.out] at hP0
  have HP0 : Hid (type_of% hP0) := hP0
  clear hP0
  refine ⟨trivial, (callsIn_wide.2 (HRk.out _ HP0.out.kp)).mono ?_⟩
  rintro e w6 ⟨rfl, k6⟩
  rw [← HH.out]
  simp only [Nat.add_assoc, Nat.reduceAdd]
  have hP6 := HP0.out.keep k6 (by simp)
  have HP6 : Hid (type_of% hP6) := hP6
  obtain ⟨⟨c0, c1, c2, c3, c4, c5, c6⟩, f2, f3, f4, f5⟩ := hP6.cells
  clear hP6 HP0 k6
  gi_wp2_with fail
  have HP7 : Hid (Pl w H 10 x (i : Int) ⟨0, 0⟩ false (w6.setCell ⟨H + 2, 0, none⟩ (.int .i64 (i : Int)))) := HP6.out.setI _
  generalize w6.setCell ⟨H + 2, 0, none⟩ (.int .i64 (i : Int)) = w7 at *
  clear HP6 c0 c1 c2 c3 c4 c5 c6 f2 f3 f4 f5 HRk
  refine ⟨trivial, (callsIn_wide.2 (HFr.out _)).mono ?_⟩
  rintro e w8 ⟨rfl, hw8⟩
  have hP8 : Pl w H 10 x (i : Int) ⟨0, 0⟩ false w8 := by rw [hw8]; exact HP7.out.keep ((Keep.alloc1 _ _).alloc _) (by simp)
  have hSq : Sq w8 w7.heap.size (w7.heap.size + 1) (T.list.drop i) := by rw [hw8]; exact Sq.of_from i (HT.out.1.keep HP7.out.kp) HT.out.2 (by have := HRL.out; have := HT.out.2; omega)
  have HP8 : Hid (type_of% hP8) := hP8
  have HSq : Hid (type_of% hSq) := hSq
  have hB : w7.heap.size + 2 = w8.heap.size := by rw [hw8]; simp
  have HB : Hid (type_of% hB) := hB
  have HB7 : Hid (H + 5 ≤ w7.heap.size) := HP7.out.size
  clear hB
  obtain ⟨B1, HB1⟩ : ∃ B1 : Nat, Hid (B1 = w7.heap.size) := ⟨_, show _ = _ from rfl⟩
  rw [← HB1.out] at HSq HB HB7 ⊢
  clear hP8 hSq hw8 HFr HP7 HB1
  gi_wp2_with fail
  refine wpIn_rangeFunc_ownH (w := w8) rfl (by omega) (gf := 68) (lb := #[.pointer (some ⟨B1, 0, none⟩), .pointer (some ⟨B1 + 1, 0, none⟩)]) rfl trivial (enters_of Try.func68 (by kernel_rfl) rfl)
    (HSq.out.stops 5) (fun h k => h.trans k) (fun W l o o' _ h1 h2 _ => kt_putObj W l o o' h1 h2) (Below.refl _ _) (fun _ => rfl)
    (fun pre W => pre = [] ∧ Pl w H 10 x (i : Int) ⟨0, 0⟩ false W ∧ w8.heap.size ≤ W.heap.size)
    (fun c pre W => ∃ y, pre = [y] ∧ ((c = .ret ∧ y.k = x.k ∧ Pl w H 10 x (i : Int) y true W) ∨ (c = .exit 0 ∧ y.k ≠ x.k ∧ Pl w H 10 x (i : Int) ⟨0, 0⟩ false W)))
    (fun s A B row hs hg hr => ⟨hs.1, hs.2.1.keep (Keep.grown hg) (fun r hm => by have := (hr r (by simpa using hm)).1; have := HB.out; have := HB7.out; omega), Nat.le_trans hs.2.2 hg.size⟩)
    (fun c s A B row hs hg hr => by
      have hR : ∀ r ∈ row.toList, H + 5 ≤ r := fun r hm => by have := (hr r (by simpa using hm)).1; have := HB.out; have := HB7.out; omega
      obtain ⟨y, hy, h1 | h1⟩ := hs
      · exact ⟨y, hy, .inl ⟨h1.1, h1.2.1, h1.2.2.keep (Keep.grown hg) hR⟩⟩
      · exact ⟨y, hy, .inr ⟨h1.1, h1.2.1, h1.2.2.keep (Keep.grown hg) hR⟩⟩)
    ⟨rfl, HP8.out, Nat.le_refl _⟩
    (fun y a' W => ∃ Bx, w8.heap.size ≤ Bx ∧ W.heap[Bx]? = some (.cells #[.int .i64 y.k, .int .i64 y.m] 29 (0, 0)) ∧ a' = { tmps := #[.pointer p, .func (.func 10) #[] #[], vP x, undef, .pointer (some ⟨H, 0, none⟩), .pointer (some ⟨H + 1, 0, none⟩), .pointer (some ⟨H + 2, 0, none⟩), .pointer (some ⟨H + 3, 0, none⟩), .pointer (some ⟨H + 4, 0, none⟩), .pointer (some ⟨Bx, 0, none⟩), .pointer p, .func (.func 10) #[] #[], .agg #[.int .i64 x.k, .int .i64 x.m], .int .i64 (i : Int), .pointer p, .int .i64 (i : Int), vSq B1 (B1 + 1), vP y, undef, undef, undef, undef, undef, undef, undef, undef, undef], defers := [] })
    ?ax ?assign ?body ?done ?stop
  case ax =>
    rintro y a' _ A B row ⟨Bx, h1, h2, h3⟩ hg hr
    refine ⟨Bx, h1, (hg.block Bx (Array.getElem?_eq_some_iff.1 h2).1 (fun e => ?_)).trans h2, h3⟩
    obtain ⟨_, o, ho, hc⟩ := hr Bx e.symm
    rw [h2] at ho
    cases ho
    cases hc
  case assign =>
    rintro l pre y W K hi hK
    gi_wp2
    refine hK _ _ ((Keep.alloc1 W _).from (by simp)) (Keep.alloc1 W _).kt0 ⟨hi.1, hi.2.1.keep (Keep.alloc1 W _) (by simp), Nat.le_trans hi.2.2 (Keep.alloc1 W _).size⟩ ⟨W.heap.size, hi.2.2, heap_alloc_new _ _, rfl⟩
  case body =>
    rintro l pre y a' W hl _ ⟨rfl, hP, _⟩ ⟨Bx, hBx, hbx, rfl⟩ _
    have c9 : W.cell? ⟨Bx, 0, none⟩ = some (.int .i64 y.k) ∧ W.cell? ⟨Bx, 1, none⟩ = some (.int .i64 y.m) := by constructor <;> (unfold World.cell?; rw [hbx]; rfl)
    obtain ⟨c9, c10⟩ := c9
    have HP : Hid (type_of% hP) := hP
    have HBX : Hid (type_of% hbx) := hbx
    obtain ⟨⟨c0, c1, c2, c3, c4, c5, c6⟩, f2, f3, f4, f5⟩ := hP.cells
    by_cases hk : y.k = x.k
    · have HC : Hid (Calls Try.prog 10 #[vP y, vP x] W fun e w' => e = .returned (.int .i64 0) ∧ Keep [] W w') := cmp_eq 10 (by decide) y x W hk
      have HK : Hid (y.k = x.k) := hk
      clear hP hbx hk
      gi_wp2_with fail
      refine ⟨trivial, (CallsIn.inRound l (callsIn_wide.2 HC.out)).mono ?_⟩
      rintro e w9 ⟨rfl, k9⟩
      have HP9 : Hid (type_of% (HP.out.keep k9 (by simp))) := HP.out.keep k9 (by simp)
      have d9 := k9.cell' c9 (by simp)
      have d10 := k9.cell' c10 (by simp)
      clear c0 c1 c2 c3 c4 c5 c6 f2 f3 f4 f5 c9 c10
      obtain ⟨⟨c0, c1, c2, c3, c4, c5, c6⟩, f2, f3, f4, f5⟩ := HP9.out.cells
      have hne : Bx ≠ H + 2 ∧ Bx ≠ H + 3 ∧ Bx ≠ H + 4 := by have := HB.out; have := HB7.out; omega
      obtain ⟨n1, n2, n3⟩ := hne
      have hmx : Try.prog.follows .mixedOrders = true := by kernel_rfl
      gi_wp2
      gi_region_o
      all_goals gi_wp2
      all_goals
        have hP9 := ((HP9.out.setI (i : Int)).setZ y).setC true
        have hsz := HP9.out.size
        have hB8 := HB.out
        have hB7 := HB7.out
        refine ⟨Keep.from (R := [H + 2, H + 3, H + 4]) ?_ (by intro r hr; simp at hr; omega), y, rfl, .inl ⟨rfl, HK.out, hP9.keep ((Keep.refl [] _).drew) (by simp)⟩⟩
        exact ((((k9.mono (by simp)).setCell (.inl (by simp)) _).setCell (.inl (by simp)) _).setCell (.inl (by simp)) _).setCell (.inl (by simp)) _ |>.drew
    · have HC : Hid (Calls Try.prog 10 #[vP y, vP x] W fun e w' => ∃ c, e = .returned (.int .i64 c) ∧ c ≠ 0 ∧ Keep [] W w') := by
        rcases Int.lt_or_gt_of_ne hk with h1 | h1
        · exact (cmp_lt 10 (by decide) y x W h1).mono (fun e w' ⟨c, a, b, d⟩ => ⟨c, a, by omega, d⟩)
        · exact (cmp_gt 10 (by decide) y x W h1).mono (fun e w' ⟨c, a, b, d⟩ => ⟨c, a, by omega, d⟩)
      have HK : Hid (y.k ≠ x.k) := hk
      clear hP hbx hk
      gi_wp2_with fail
      refine ⟨trivial, (CallsIn.inRound l (callsIn_wide.2 HC.out)).mono ?_⟩
      rintro e w9 ⟨c9, rfl, hc9, k9⟩
      have HP9 : Hid (type_of% (HP.out.keep k9 (by simp))) := HP.out.keep k9 (by simp)
      clear c0 c1 c2 c3 c4 c5 c6 f2 f3 f4 f5 c10
      gi_wp2
      exact ⟨Keep.from k9 (by simp), y, rfl, .inr ⟨rfl, HK.out, HP9.out⟩⟩
  case stop =>
    rintro D c pre W hD hpre ⟨y, rfl, ⟨rfl, hk, hP⟩ | ⟨rfl, hk, hP⟩⟩ hK
    · gi_wp2
      refine ⟨by simp, .inl ⟨_, _, rfl, run_takeDeferred hK, ?_⟩⟩
      have hQ := hP.keep (Keep.grown (grownBy_putObj' W D (.deferred none))) (fun r hr => by simp at hr; have := HB.out; have := HB7.out; omega)
      obtain ⟨⟨c0, c1, c2, c3, c4, c5, c6⟩, f2, f3, f4, f5⟩ := hQ.cells
      refine ⟨_, by simp [results, Try.results48, go_sem, c3, c4, c5, c6], y, true, rfl, ?_, by simp, hQ.kp⟩
      obtain ⟨t, ht⟩ := hpre
      unfold lk
      rw [← HI.out, ← ht]
      simp [hk]
    · have HP : Hid (type_of% hP) := hP
      obtain ⟨⟨c0, c1, c2, c3, c4, c5, c6⟩, f2, f3, f4, f5⟩ := hP.cells
      have hmx : Try.prog.follows .mixedOrders = true := by kernel_rfl
      clear hP
      gi_wp2
      gi_region_o
      all_goals gi_wp2
      all_goals
        have hP9 := (((HP.out.setI (i : Int)).setZ ⟨0, 0⟩).setC false).keep ((Keep.refl [] _).drew) (by simp)
        have hB8 := HB.out
        have hB7 := HB7.out
        have kD : Keep [H + 2, H + 3, H + 4] W ((((W.setCell ⟨H + 2, 0, none⟩ (.int .i64 (i : Int))).setCell ⟨H + 3, 0, none⟩ (.int .i64 0)).setCell ⟨H + 3, 1, none⟩ (.int .i64 0)).setCell ⟨H + 4, 0, none⟩ (.bool false)).drew :=
          (((((Keep.refl _ W).setCell (.inl (by simp)) _).setCell (.inl (by simp)) _).setCell (.inl (by simp)) _).setCell (.inl (by simp)) _).drew
        have hK9 := (kD.block D (Array.getElem?_eq_some_iff.1 hK).1 (by simp; omega)).trans hK
        refine ⟨by simp, .inl ⟨_, _, rfl, run_takeDeferred hK9, ?_⟩⟩
        have hQ := hP9.keep (Keep.grown (grownBy_putObj' _ D (.deferred none))) (fun r hr => by simp at hr; omega)
        obtain ⟨⟨c0, c1, c2, c3, c4, c5, c6⟩, f2, f3, f4, f5⟩ := hQ.cells
        refine ⟨_, by simp [results, Try.results48, go_sem, c3, c4, c5, c6], ⟨0, 0⟩, false, rfl, ?_, by simp, hQ.kp⟩
        obtain ⟨t, ht⟩ := hpre
        unfold lk
        rw [← HI.out, ← ht]
        simp [hk]
  case done =>
    rintro D ys W hD hys ⟨rfl, hP, _⟩ hK
    have HP : Hid (type_of% hP) := hP
    obtain ⟨⟨c0, c1, c2, c3, c4, c5, c6⟩, f2, f3, f4, f5⟩ := hP.cells
    have hmx : Try.prog.follows .mixedOrders = true := by kernel_rfl
    clear hP
    gi_wp2
    gi_region_o
    all_goals gi_wp2
    all_goals
      have hP9 := (((HP.out.setI (i : Int)).setZ ⟨0, 0⟩).setC false).keep ((Keep.refl [] _).drew) (by simp)
      have hB8 := HB.out
      have hB7 := HB7.out
      have kD : Keep [H + 2, H + 3, H + 4] W ((((W.setCell ⟨H + 2, 0, none⟩ (.int .i64 (i : Int))).setCell ⟨H + 3, 0, none⟩ (.int .i64 0)).setCell ⟨H + 3, 1, none⟩ (.int .i64 0)).setCell ⟨H + 4, 0, none⟩ (.bool false)).drew :=
        (((((Keep.refl _ W).setCell (.inl (by simp)) _).setCell (.inl (by simp)) _).setCell (.inl (by simp)) _).setCell (.inl (by simp)) _).drew
      have hK9 := (kD.block D (Array.getElem?_eq_some_iff.1 hK).1 (by simp; omega)).trans hK
      refine ⟨by simp, .inl ⟨_, _, rfl, run_takeDeferred hK9, ?_⟩⟩
      have hQ := hP9.keep (Keep.grown (grownBy_putObj' _ D (.deferred none))) (fun r hr => by simp at hr; omega)
      obtain ⟨⟨c0, c1, c2, c3, c4, c5, c6⟩, f2, f3, f4, f5⟩ := hQ.cells
      refine ⟨_, by simp [results, Try.results48, go_sem, c3, c4, c5, c6], ⟨0, 0⟩, false, rfl, ?_, by simp, hQ.kp⟩
      unfold lk
      rw [← HI.out, ← hys]
      simp

set_option maxRecDepth 100000 in
set_option maxHeartbeats 2000000 in
theorem place32_any (p : Option Addr) (T : TT) (x : Pr) (w : World) (h : IsT w p T) (hr : Ris T.list) (hs : T.list.length ≤ 1152921504606846976) :
    Calls Try.prog 48 #[.pointer p, .func (.func 32) #[] #[], vP x] w fun e w' => ∃ z c, e = .returned (.tuple #[.int .i64 (rnk T.list x.k : Int), vP z, .bool c]) ∧ (lk T.list x.k = if c then some z else none) ∧ (c = false → z = ⟨0, 0⟩) ∧ Keep [] w w' := by
  have HRk : Hid (∀ w9, Keep [] w w9 → Calls Try.prog 55 #[.pointer p, .func (.func 32) #[] #[], vP x] w9 fun e w' => e = .returned (.int .i64 (rnk T.list x.k : Int)) ∧ Keep [] w9 w') := fun w9 k => rank_any 32 (by decide) p T x w9 (h.keep k) hr hs
  have HFr : Hid (∀ w9, Calls Try.prog 54 #[.pointer p, .int .i64 (rnk T.list x.k : Int)] w9 fun e w' => e = .returned (vSq w9.heap.size (w9.heap.size + 1)) ∧ w' = (w9.alloc (.cells #[.pointer p] 80)).alloc (.cells #[.int .i64 (rnk T.list x.k : Int)] 3)) := fun w9 => from_any p _ w9
  have HT : Hid (IsT w p T ∧ T.list.length ≤ 1152921504606846976) := ⟨h, hs⟩
  have HRL : Hid (rnk T.list x.k ≤ T.list.length) := rnk_le _ _
  clear h hr hs
  obtain ⟨i, HI⟩ : ∃ i : Nat, Hid (i = rnk T.list x.k) := ⟨_, show _ = _ from rfl⟩
  rw [← HI.out] at HRk HFr HRL ⊢
  obtain ⟨H, HH⟩ : ∃ H : Nat, Hid (H = w.heap.size) := ⟨_, show _ = _ from rfl⟩
  refine (callsIn_wide (n := 6)).1 ?_
  refine callsIn_of_wp_marks Try.func48 rfl trivial ?_ rfl
  simp only [Try.ntmps48, List.size_toArray, List.length_cons, List.length_nil, Nat.reduceAdd, Nat.reduceSub, Array.replicate_succ, Array.replicate_zero, List.push_toArray, List.append_toArray, List.nil_append, List.cons_append]
  gi_wp2_with fail
  have hP0 := Pl.new w 32 x
  rw [← HH.out] at hP0
  have HP0 : Hid (type_of% hP0) := hP0
  clear hP0
  refine ⟨trivial, (callsIn_wide.2 (HRk.out _ HP0.out.kp)).mono ?_⟩
  rintro e w6 ⟨rfl, k6⟩
  rw [← HH.out]
  simp only [Nat.add_assoc, Nat.reduceAdd]
  have hP6 := HP0.out.keep k6 (by simp)
  have HP6 : Hid (type_of% hP6) := hP6
  obtain ⟨⟨c0, c1, c2, c3, c4, c5, c6⟩, f2, f3, f4, f5⟩ := hP6.cells
  clear hP6 HP0 k6
  gi_wp2_with fail
  have HP7 : Hid (Pl w H 32 x (i : Int) ⟨0, 0⟩ false (w6.setCell ⟨H + 2, 0, none⟩ (.int .i64 (i : Int)))) := HP6.out.setI _
  generalize w6.setCell ⟨H + 2, 0, none⟩ (.int .i64 (i : Int)) = w7 at *
  clear HP6 c0 c1 c2 c3 c4 c5 c6 f2 f3 f4 f5 HRk
  refine ⟨trivial, (callsIn_wide.2 (HFr.out _)).mono ?_⟩
  rintro e w8 ⟨rfl, hw8⟩
  have hP8 : Pl w H 32 x (i : Int) ⟨0, 0⟩ false w8 := by rw [hw8]; exact HP7.out.keep ((Keep.alloc1 _ _).alloc _) (by simp)
  have hSq : Sq w8 w7.heap.size (w7.heap.size + 1) (T.list.drop i) := by rw [hw8]; exact Sq.of_from i (HT.out.1.keep HP7.out.kp) HT.out.2 (by have := HRL.out; have := HT.out.2; omega)
  have HP8 : Hid (type_of% hP8) := hP8
  have HSq : Hid (type_of% hSq) := hSq
  have hB : w7.heap.size + 2 = w8.heap.size := by rw [hw8]; simp
  have HB : Hid (type_of% hB) := hB
  have HB7 : Hid (H + 5 ≤ w7.heap.size) := HP7.out.size
  clear hB
  obtain ⟨B1, HB1⟩ : ∃ B1 : Nat, Hid (B1 = w7.heap.size) := ⟨_, show _ = _ from rfl⟩
  rw [← HB1.out] at HSq HB HB7 ⊢
  clear hP8 hSq hw8 HFr HP7 HB1
  gi_wp2_with fail
  refine wpIn_rangeFunc_ownH (w := w8) rfl (by omega) (gf := 68) (lb := #[.pointer (some ⟨B1, 0, none⟩), .pointer (some ⟨B1 + 1, 0, none⟩)]) rfl trivial (enters_of Try.func68 (by kernel_rfl) rfl)
    (HSq.out.stops 5) (fun h k => h.trans k) (fun W l o o' _ h1 h2 _ => kt_putObj W l o o' h1 h2) (Below.refl _ _) (fun _ => rfl)
    (fun pre W => pre = [] ∧ Pl w H 32 x (i : Int) ⟨0, 0⟩ false W ∧ w8.heap.size ≤ W.heap.size)
    (fun c pre W => ∃ y, pre = [y] ∧ ((c = .ret ∧ y.k = x.k ∧ Pl w H 32 x (i : Int) y true W) ∨ (c = .exit 0 ∧ y.k ≠ x.k ∧ Pl w H 32 x (i : Int) ⟨0, 0⟩ false W)))
    (fun s A B row hs hg hr => ⟨hs.1, hs.2.1.keep (Keep.grown hg) (fun r hm => by have := (hr r (by simpa using hm)).1; have := HB.out; have := HB7.out; omega), Nat.le_trans hs.2.2 hg.size⟩)
    (fun c s A B row hs hg hr => by
      have hR : ∀ r ∈ row.toList, H + 5 ≤ r := fun r hm => by have := (hr r (by simpa using hm)).1; have := HB.out; have := HB7.out; omega
      obtain ⟨y, hy, h1 | h1⟩ := hs
      · exact ⟨y, hy, .inl ⟨h1.1, h1.2.1, h1.2.2.keep (Keep.grown hg) hR⟩⟩
      · exact ⟨y, hy, .inr ⟨h1.1, h1.2.1, h1.2.2.keep (Keep.grown hg) hR⟩⟩)
    ⟨rfl, HP8.out, Nat.le_refl _⟩
    (fun y a' W => ∃ Bx, w8.heap.size ≤ Bx ∧ W.heap[Bx]? = some (.cells #[.int .i64 y.k, .int .i64 y.m] 29 (0, 0)) ∧ a' = { tmps := #[.pointer p, .func (.func 32) #[] #[], vP x, undef, .pointer (some ⟨H, 0, none⟩), .pointer (some ⟨H + 1, 0, none⟩), .pointer (some ⟨H + 2, 0, none⟩), .pointer (some ⟨H + 3, 0, none⟩), .pointer (some ⟨H + 4, 0, none⟩), .pointer (some ⟨Bx, 0, none⟩), .pointer p, .func (.func 32) #[] #[], .agg #[.int .i64 x.k, .int .i64 x.m], .int .i64 (i : Int), .pointer p, .int .i64 (i : Int), vSq B1 (B1 + 1), vP y, undef, undef, undef, undef, undef, undef, undef, undef, undef], defers := [] })
    ?ax ?assign ?body ?done ?stop
  case ax =>
    rintro y a' _ A B row ⟨Bx, h1, h2, h3⟩ hg hr
    refine ⟨Bx, h1, (hg.block Bx (Array.getElem?_eq_some_iff.1 h2).1 (fun e => ?_)).trans h2, h3⟩
    obtain ⟨_, o, ho, hc⟩ := hr Bx e.symm
    rw [h2] at ho
    cases ho
    cases hc
  case assign =>
    rintro l pre y W K hi hK
    gi_wp2
    refine hK _ _ ((Keep.alloc1 W _).from (by simp)) (Keep.alloc1 W _).kt0 ⟨hi.1, hi.2.1.keep (Keep.alloc1 W _) (by simp), Nat.le_trans hi.2.2 (Keep.alloc1 W _).size⟩ ⟨W.heap.size, hi.2.2, heap_alloc_new _ _, rfl⟩
  case body =>
    rintro l pre y a' W hl _ ⟨rfl, hP, _⟩ ⟨Bx, hBx, hbx, rfl⟩ _
    have c9 : W.cell? ⟨Bx, 0, none⟩ = some (.int .i64 y.k) ∧ W.cell? ⟨Bx, 1, none⟩ = some (.int .i64 y.m) := by constructor <;> (unfold World.cell?; rw [hbx]; rfl)
    obtain ⟨c9, c10⟩ := c9
    have HP : Hid (type_of% hP) := hP
    have HBX : Hid (type_of% hbx) := hbx
    obtain ⟨⟨c0, c1, c2, c3, c4, c5, c6⟩, f2, f3, f4, f5⟩ := hP.cells
    by_cases hk : y.k = x.k
    · have HC : Hid (Calls Try.prog 32 #[vP y, vP x] W fun e w' => e = .returned (.int .i64 0) ∧ Keep [] W w') := cmp_eq 32 (by decide) y x W hk
      have HK : Hid (y.k = x.k) := hk
      clear hP hbx hk
      gi_wp2_with fail
      refine ⟨trivial, (CallsIn.inRound l (callsIn_wide.2 HC.out)).mono ?_⟩
      rintro e w9 ⟨rfl, k9⟩
      have HP9 : Hid (type_of% (HP.out.keep k9 (by simp))) := HP.out.keep k9 (by simp)
      have d9 := k9.cell' c9 (by simp)
      have d10 := k9.cell' c10 (by simp)
      clear c0 c1 c2 c3 c4 c5 c6 f2 f3 f4 f5 c9 c10
      obtain ⟨⟨c0, c1, c2, c3, c4, c5, c6⟩, f2, f3, f4, f5⟩ := HP9.out.cells
      have hne : Bx ≠ H + 2 ∧ Bx ≠ H + 3 ∧ Bx ≠ H + 4 := by have := HB.out; have := HB7.out; omega
      obtain ⟨n1, n2, n3⟩ := hne
      have hmx : Try.prog.follows .mixedOrders = true := by kernel_rfl
      gi_wp2
      gi_region_o
      all_goals gi_wp2
      all_goals
        have hP9 := ((HP9.out.setI (i : Int)).setZ y).setC true
        have hsz := HP9.out.size
        have hB8 := HB.out
        have hB7 := HB7.out
        refine ⟨Keep.from (R := [H + 2, H + 3, H + 4]) ?_ (by intro r hr; simp at hr; omega), y, rfl, .inl ⟨rfl, HK.out, hP9.keep ((Keep.refl [] _).drew) (by simp)⟩⟩
        exact ((((k9.mono (by simp)).setCell (.inl (by simp)) _).setCell (.inl (by simp)) _).setCell (.inl (by simp)) _).setCell (.inl (by simp)) _ |>.drew
    · have HC : Hid (Calls Try.prog 32 #[vP y, vP x] W fun e w' => ∃ c, e = .returned (.int .i64 c) ∧ c ≠ 0 ∧ Keep [] W w') := by
        rcases Int.lt_or_gt_of_ne hk with h1 | h1
        · exact (cmp_lt 32 (by decide) y x W h1).mono (fun e w' ⟨c, a, b, d⟩ => ⟨c, a, by omega, d⟩)
        · exact (cmp_gt 32 (by decide) y x W h1).mono (fun e w' ⟨c, a, b, d⟩ => ⟨c, a, by omega, d⟩)
      have HK : Hid (y.k ≠ x.k) := hk
      clear hP hbx hk
      gi_wp2_with fail
      refine ⟨trivial, (CallsIn.inRound l (callsIn_wide.2 HC.out)).mono ?_⟩
      rintro e w9 ⟨c9, rfl, hc9, k9⟩
      have HP9 : Hid (type_of% (HP.out.keep k9 (by simp))) := HP.out.keep k9 (by simp)
      clear c0 c1 c2 c3 c4 c5 c6 f2 f3 f4 f5 c10
      gi_wp2
      exact ⟨Keep.from k9 (by simp), y, rfl, .inr ⟨rfl, HK.out, HP9.out⟩⟩
  case stop =>
    rintro D c pre W hD hpre ⟨y, rfl, ⟨rfl, hk, hP⟩ | ⟨rfl, hk, hP⟩⟩ hK
    · gi_wp2
      refine ⟨by simp, .inl ⟨_, _, rfl, run_takeDeferred hK, ?_⟩⟩
      have hQ := hP.keep (Keep.grown (grownBy_putObj' W D (.deferred none))) (fun r hr => by simp at hr; have := HB.out; have := HB7.out; omega)
      obtain ⟨⟨c0, c1, c2, c3, c4, c5, c6⟩, f2, f3, f4, f5⟩ := hQ.cells
      refine ⟨_, by simp [results, Try.results48, go_sem, c3, c4, c5, c6], y, true, rfl, ?_, by simp, hQ.kp⟩
      obtain ⟨t, ht⟩ := hpre
      unfold lk
      rw [← HI.out, ← ht]
      simp [hk]
    · have HP : Hid (type_of% hP) := hP
      obtain ⟨⟨c0, c1, c2, c3, c4, c5, c6⟩, f2, f3, f4, f5⟩ := hP.cells
      have hmx : Try.prog.follows .mixedOrders = true := by kernel_rfl
      clear hP
      gi_wp2
      gi_region_o
      all_goals gi_wp2
      all_goals
        have hP9 := (((HP.out.setI (i : Int)).setZ ⟨0, 0⟩).setC false).keep ((Keep.refl [] _).drew) (by simp)
        have hB8 := HB.out
        have hB7 := HB7.out
        have kD : Keep [H + 2, H + 3, H + 4] W ((((W.setCell ⟨H + 2, 0, none⟩ (.int .i64 (i : Int))).setCell ⟨H + 3, 0, none⟩ (.int .i64 0)).setCell ⟨H + 3, 1, none⟩ (.int .i64 0)).setCell ⟨H + 4, 0, none⟩ (.bool false)).drew :=
          (((((Keep.refl _ W).setCell (.inl (by simp)) _).setCell (.inl (by simp)) _).setCell (.inl (by simp)) _).setCell (.inl (by simp)) _).drew
        have hK9 := (kD.block D (Array.getElem?_eq_some_iff.1 hK).1 (by simp; omega)).trans hK
        refine ⟨by simp, .inl ⟨_, _, rfl, run_takeDeferred hK9, ?_⟩⟩
        have hQ := hP9.keep (Keep.grown (grownBy_putObj' _ D (.deferred none))) (fun r hr => by simp at hr; omega)
        obtain ⟨⟨c0, c1, c2, c3, c4, c5, c6⟩, f2, f3, f4, f5⟩ := hQ.cells
        refine ⟨_, by simp [results, Try.results48, go_sem, c3, c4, c5, c6], ⟨0, 0⟩, false, rfl, ?_, by simp, hQ.kp⟩
        obtain ⟨t, ht⟩ := hpre
        unfold lk
        rw [← HI.out, ← ht]
        simp [hk]
  case done =>
    rintro D ys W hD hys ⟨rfl, hP, _⟩ hK
    have HP : Hid (type_of% hP) := hP
    obtain ⟨⟨c0, c1, c2, c3, c4, c5, c6⟩, f2, f3, f4, f5⟩ := hP.cells
    have hmx : Try.prog.follows .mixedOrders = true := by kernel_rfl
    clear hP
    gi_wp2
    gi_region_o
    all_goals gi_wp2
    all_goals
      have hP9 := (((HP.out.setI (i : Int)).setZ ⟨0, 0⟩).setC false).keep ((Keep.refl [] _).drew) (by simp)
      have hB8 := HB.out
      have hB7 := HB7.out
      have kD : Keep [H + 2, H + 3, H + 4] W ((((W.setCell ⟨H + 2, 0, none⟩ (.int .i64 (i : Int))).setCell ⟨H + 3, 0, none⟩ (.int .i64 0)).setCell ⟨H + 3, 1, none⟩ (.int .i64 0)).setCell ⟨H + 4, 0, none⟩ (.bool false)).drew :=
        (((((Keep.refl _ W).setCell (.inl (by simp)) _).setCell (.inl (by simp)) _).setCell (.inl (by simp)) _).setCell (.inl (by simp)) _).drew
      have hK9 := (kD.block D (Array.getElem?_eq_some_iff.1 hK).1 (by simp; omega)).trans hK
      refine ⟨by simp, .inl ⟨_, _, rfl, run_takeDeferred hK9, ?_⟩⟩
      have hQ := hP9.keep (Keep.grown (grownBy_putObj' _ D (.deferred none))) (fun r hr => by simp at hr; omega)
      obtain ⟨⟨c0, c1, c2, c3, c4, c5, c6⟩, f2, f3, f4, f5⟩ := hQ.cells
      refine ⟨_, by simp [results, Try.results48, go_sem, c3, c4, c5, c6], ⟨0, 0⟩, false, rfl, ?_, by simp, hQ.kp⟩
      unfold lk
      rw [← HI.out, ← hys]
      simp

theorem place_any (k : Nat) (hk : k = 10 ∨ k = 32) (p : Option Addr) (T : TT) (x : Pr) (w : World) (h : IsT w p T) (hr : Ris T.list) (hs : T.list.length ≤ 1152921504606846976) :
    Calls Try.prog 48 #[.pointer p, .func (.func k) #[] #[], vP x] w fun e w' => ∃ z c, e = .returned (.tuple #[.int .i64 (rnk T.list x.k : Int), vP z, .bool c]) ∧ (lk T.list x.k = if c then some z else none) ∧ (c = false → z = ⟨0, 0⟩) ∧ Keep [] w w' := by
  rcases hk with rfl | rfl
  · exact place10_any p T x w h hr hs
  · exact place32_any p T x w h hr hs

end Go.Proofs.Ytkelhglflpdpeaa
