/- Three shelves and three lists: what the document and the program have, behind each call. -/
import Derived.Test.YtkelhglflpdpeaaAt
import Derived.Test.YtkelhglflpdpeaaRu
import Derived.Test.YtkelhglflpdpeaaOc

namespace Go.Proofs.Ytkelhglflpdpeaa
open Go.RowKit Go.PlainAid


theorem asked_any (b : Nat) (vl : Value) (L : List Pr) (a : Oc) (w : World) (h : Sh w b 10 L) (hv : Rd encP 2 w vl L) (hl : L.length ≤ 8796093021951) (hc : -9223372036854775808 ≤ a.c ∧ a.c ≤ 9223372036854775807) (hk : a.x.k ≤ 9223372036854775807) (hz : 3 ≤ pickZ a.c 8 ∧ pickZ a.c 8 ≤ 6) :
    Calls Try.prog 18 #[vA b, vl, .agg #[.int .i64 a.o, .int .i64 a.c, .int .i64 a.x.k, .int .i64 a.x.m]] w fun e w' => e = .returned (.bool true) ∧ Keep [] w w' := by
  have h4 : pickZ a.c 8 = 3 ∨ pickZ a.c 8 = 4 ∨ pickZ a.c 8 = 5 ∨ pickZ a.c 8 = 6 := by omega
  rcases h4 with h4 | h4 | h4 | h4
  · cases hlk : lk L a.x.k with
    | some y => exact asked3_yes b vl L a w h hv hl hc h4 y hlk
    | none => exact asked3_no b vl L a w h hv hl hc h4 hlk
  · obtain ⟨o, c, x, m⟩ := a
    simp only [] at hc hk h4
    by_cases h0 : 0 ≤ x
    · obtain ⟨n, rfl⟩ : ∃ n : Nat, x = (n : Int) := ⟨x.toNat, by omega⟩
      by_cases hn : n < L.length
      · exact asked4_in b vl L o c m n w h hv hl hc h4 hn
      · exact asked4_over b vl L o c m n w h hv hl hc h4 hk (by omega)
    · exact asked4_below b vl L o c x m w h hv hl hc h4 hk h0
  · exact asked5 b vl L a w h hv hl hc h4
  · exact asked6 b vl L a w h hv hl hc h4

/-- three shelves (their elements Ls) and three lists (Ms) -/
structure Ply (w : World) (A B : Nat) (bs : List Nat) (vs : List Value) (Ls Ms : List (List Pr)) (W : World) : Prop where
  nb : bs.length = 3
  nv : vs.length = 3
  nL : Ls.length = 3
  nM : Ms.length = 3
  a : W.heap[A]? = some (.cells (bs.map vA).toArray 24 (0, 0))
  b : W.heap[B]? = some (.cells vs.toArray 26 (0, 0))
  s : ∀ i, i < 3 → Sh W (bs.getD i 0) 10 (Ls.getD i [])
  l : ∀ i, i < 3 → Rw 29 encP 2 W (vs.getD i (.bool false)) (Ms.getD i [])
  kp : Keep [] w W
  dis : ∀ i j, i < 3 → j < 3 → i ≠ j → bs.getD i 0 ≠ bs.getD j 0
  ge : w.heap.size ≤ A ∧ w.heap.size ≤ B ∧ ∀ i, i < 3 → w.heap.size ≤ bs.getD i 0

theorem Ply.cellA {w : World} {A B : Nat} {bs : List Nat} {vs : List Value} {Ls Ms : List (List Pr)} {W : World} (h : Ply w A B bs vs Ls Ms W) (n : Nat) (hn : n < 3) : W.cell? ⟨A, n, none⟩ = some (vA (bs.getD n 0)) := by
  unfold World.cell?
  rw [h.a]
  have := h.nb
  simp [List.getD_eq_getElem?_getD, List.getElem?_eq_getElem (l := bs) (i := n) (by omega)]
theorem Ply.cellB {w : World} {A B : Nat} {bs : List Nat} {vs : List Value} {Ls Ms : List (List Pr)} {W : World} (h : Ply w A B bs vs Ls Ms W) (n : Nat) (hn : n < 3) : W.cell? ⟨B, n, none⟩ = some (vs.getD n (.bool false)) := by
  unfold World.cell?
  rw [h.b]
  have := h.nv
  simp [List.getD_eq_getElem?_getD, List.getElem?_eq_getElem (l := vs) (i := n) (by omega)]
theorem free_cells {w9 : World} {n : Nat} {cs : Array Value} {t : TypeId} (h : w9.heap[n]? = some (.cells cs t (0, 0))) (k : Nat) : w9.frozen? ⟨n, k, none⟩ = false := by
  unfold World.frozen?
  rw [h]
  simp
theorem Ply.freeA {w : World} {A B : Nat} {bs : List Nat} {vs : List Value} {Ls Ms : List (List Pr)} {W : World} (h : Ply w A B bs vs Ls Ms W) (n : Nat) : W.frozen? ⟨A, n, none⟩ = false := free_cells h.a n
theorem Ply.freeB {w : World} {A B : Nat} {bs : List Nat} {vs : List Value} {Ls Ms : List (List Pr)} {W : World} (h : Ply w A B bs vs Ls Ms W) (n : Nat) : W.frozen? ⟨B, n, none⟩ = false := free_cells h.b n
theorem Ply.ltA {w : World} {A B : Nat} {bs : List Nat} {vs : List Value} {Ls Ms : List (List Pr)} {W : World} (h : Ply w A B bs vs Ls Ms W) : A < W.heap.size := (Array.getElem?_eq_some_iff.1 h.a).1
theorem Ply.ltB {w : World} {A B : Nat} {bs : List Nat} {vs : List Value} {Ls Ms : List (List Pr)} {W : World} (h : Ply w A B bs vs Ls Ms W) : B < W.heap.size := (Array.getElem?_eq_some_iff.1 h.b).1
theorem Ply.neAB {w : World} {A B : Nat} {bs : List Nat} {vs : List Value} {Ls Ms : List (List Pr)} {W : World} (h : Ply w A B bs vs Ls Ms W) : A ≠ B := fun e => by
  have h1 := h.a
  rw [e, h.b] at h1
  cases h1
theorem Sh.noBlk {W : World} {b k : Nat} {l : List Pr} (h : Sh W b k l) {c : Nat} {cs : Array Value} {t : TypeId} (hc : W.heap[c]? = some (.cells cs t (0, 0))) (ht : t ≠ 82) : b ≠ c := fun e => by
  obtain ⟨p, T, a, _⟩ := h.ex
  rw [e, hc] at a
  cases a
  exact ht rfl
theorem Rw.offBlk {W : World} {v : Value} {l : List Pr} (h : Rw 29 encP 2 W v l) {c : Nat} {cs : Array Value} {t : TypeId} (hc : W.heap[c]? = some (.cells cs t (0, 0))) (ht : t ≠ 29) : Off v [c] := fun g hg hm => by
  simp at hm
  subst hm
  obtain ⟨cur, hb⟩ := RowC.blk h hg
  rw [hc] at hb
  cases hb
  exact ht rfl
theorem Ply.keep0 {w : World} {A B : Nat} {bs : List Nat} {vs : List Value} {Ls Ms : List (List Pr)} {W : World} (h : Ply w A B bs vs Ls Ms W) {W' : World} (k : Keep [] W W') : Ply w A B bs vs Ls Ms W' :=
  ⟨h.nb, h.nv, h.nL, h.nM, (k.block _ h.ltA (by simp)).trans h.a, (k.block _ h.ltB (by simp)).trans h.b, fun i hi => (h.s i hi).keep0 k, fun i hi => (h.l i hi).keep k (Off.nil _), h.kp.trans' k, h.dis, h.ge⟩

theorem getD_set {α : Type} (l : List α) (n : Nat) (x d : α) (i : Nat) (hn : n < l.length) : (l.set n x).getD i d = if i = n then x else l.getD i d := by
  rw [List.getD_eq_getElem?_getD, List.getD_eq_getElem?_getD, List.getElem?_set]
  by_cases h : i = n
  · subst h; simp [hn]
  · rw [if_neg h, if_neg (fun e => h e.symm)]
theorem kt_other {W W' : World} {c : Nat} {cs : Array Value} {t : TypeId} (k : Keep [c] W W') (hc : W.heap[c]? = some (.cells cs t (0, 0))) (ht : t ≠ 106) : KT W W' := k.kt (by
  intro r hr x hx
  simp at hr
  subst hr
  rw [hc] at hx
  cases hx
  exact ht rfl)
theorem heap_set {W : World} {c n : Nat} {l : List Value} {t : TypeId} (h : W.heap[c]? = some (.cells l.toArray t (0, 0))) (v : Value) : (W.setCell ⟨c, n, none⟩ v).heap[c]? = some (.cells (l.set n v).toArray t (0, 0)) := by
  have hc := (Array.getElem?_eq_some_iff.1 h).1
  have h2 := (Array.getElem?_eq_some_iff.1 h).2
  unfold World.setCell
  simp only [Array.getElem?_modify]
  rw [h]
  simp

/-- a new list is laid at n -/
theorem Ply.lay {w : World} {A B : Nat} {bs : List Nat} {vs : List Value} {Ls Ms : List (List Pr)} {W : World} (h : Ply w A B bs vs Ls Ms W) (n : Nat) (hn : n < 3) (v : Value) (L : List Pr) (hr : Rw 29 encP 2 W v L) : Ply w A B bs (vs.set n v) Ls (Ms.set n L) (W.setCell ⟨B, n, none⟩ v) := by
  have k : Keep [B] W (W.setCell ⟨B, n, none⟩ v) := Keep.set1 W ⟨B, n, none⟩ v
  have kt := kt_other k h.b (by decide)
  refine ⟨h.nb, by simp [h.nv], h.nL, by simp [h.nM], (k.block _ h.ltA (by simpa using h.neAB)).trans h.a, heap_set h.b v, fun i hi => (h.s i hi).keep k kt (by simpa using (h.s i hi).noBlk h.b (by decide)), fun i hi => ?_, h.kp.more k (fun x hx => .inr (by simp at hx; have := h.ge; omega)), h.dis, h.ge⟩
  rw [getD_set _ _ _ _ _ (by have := h.nv; omega), getD_set _ _ _ _ _ (by have := h.nM; omega)]
  by_cases hin : i = n
  · rw [if_pos hin, if_pos hin]
    exact hr.keep k (hr.offBlk h.b (by decide))
  · rw [if_neg hin, if_neg hin]
    exact (h.l i hi).keep k ((h.l i hi).offBlk h.b (by decide))
/-- the shelf n is changed -/
theorem Ply.act {w : World} {A B : Nat} {bs : List Nat} {vs : List Value} {Ls Ms : List (List Pr)} {W : World} (h : Ply w A B bs vs Ls Ms W) (n : Nat) (hn : n < 3) {W' : World} (k : Keep [bs.getD n 0] W W') (L : List Pr) (hs : Sh W' (bs.getD n 0) 10 L) : Ply w A B bs vs (Ls.set n L) Ms W' := by
  have kt := (h.s n hn).kt k
  refine ⟨h.nb, h.nv, by simp [h.nL], h.nM, (k.block _ h.ltA (by simpa using fun e => (h.s n hn).noBlk h.a (by decide) e.symm)).trans h.a, (k.block _ h.ltB (by simpa using fun e => (h.s n hn).noBlk h.b (by decide) e.symm)).trans h.b, fun i hi => ?_, fun i hi => (h.l i hi).keep k ((fun g hg hm => by
    simp at hm
    subst hm
    obtain ⟨cur, hb⟩ := RowC.blk (h.l i hi) hg
    exact (h.s n hn).noBlk hb (by decide) rfl)), h.kp.more k (fun x hx => .inr (by rw [List.mem_singleton] at hx; have := h.ge.2.2 n hn; omega)), h.dis, h.ge⟩
  rw [getD_set _ _ _ _ _ (by have := h.nL; omega)]
  by_cases hin : i = n
  · rw [if_pos hin, hin]
    exact hs
  · rw [if_neg hin]
    exact (h.s i hi).keep k kt (by simpa using h.dis i n hi hn hin)
/-- another shelf comes to m, with the list there -/
theorem Ply.put {w : World} {A B : Nat} {bs : List Nat} {vs : List Value} {Ls Ms : List (List Pr)} {W : World} (h : Ply w A B bs vs Ls Ms W) (m : Nat) (hm : m < 3) (b' : Nat) (L : List Pr) (hs : Sh W b' 10 L) (hd : ∀ i, i < 3 → bs.getD i 0 ≠ b') (hg : w.heap.size ≤ b') : Ply w A B (bs.set m b') vs (Ls.set m L) Ms (W.setCell ⟨A, m, none⟩ (vA b')) := by
  have k : Keep [A] W (W.setCell ⟨A, m, none⟩ (vA b')) := Keep.set1 W ⟨A, m, none⟩ (vA b')
  have kt := kt_other k h.a (by decide)
  refine ⟨by simp [h.nb], h.nv, by simp [h.nL], h.nM, ?_, (k.block _ h.ltB (by simpa using fun e => h.neAB e.symm)).trans h.b, fun i hi => ?_, fun i hi => (h.l i hi).keep k ((h.l i hi).offBlk h.a (by decide)), h.kp.more k (fun x hx => .inr (by simp at hx; have := h.ge; omega)), fun i j hi hj hij => ?_, h.ge.1, h.ge.2.1, fun i hi => ?_⟩
  · rw [List.map_set]
    exact heap_set h.a _
  · rw [getD_set _ _ _ _ _ (by have := h.nb; omega), getD_set _ _ _ _ _ (by have := h.nL; omega)]
    by_cases hin : i = m
    · rw [if_pos hin, if_pos hin]
      exact hs.keep k kt (by simpa using hs.noBlk h.a (by decide))
    · rw [if_neg hin, if_neg hin]
      exact (h.s i hi).keep k kt (by simpa using (h.s i hi).noBlk h.a (by decide))
  · rw [getD_set _ _ _ _ _ (by have := h.nb; omega), getD_set _ _ _ _ _ (by have := h.nb; omega)]
    by_cases h1 : i = m
    · rw [if_pos h1, if_neg (by omega)]
      exact fun e => hd j hj e.symm
    · rw [if_neg h1]
      by_cases h2 : j = m
      · rw [if_pos h2]; exact hd i hi
      · rw [if_neg h2]; exact h.dis i j hi hj hij
  · rw [getD_set _ _ _ _ _ (by have := h.nb; omega)]
    by_cases h1 : i = m
    · rw [if_pos h1]; exact hg
    · rw [if_neg h1]; exact h.ge.2.2 i hi

/-- while the shelves are made -/
structure Pp (w : World) (A B : Nat) (k : Nat) (bs : List Nat) (W : World) : Prop where
  nb : bs.length = k
  hk : k ≤ 3
  a : W.heap[A]? = some (.cells (bs.map vA ++ List.replicate (3 - k) (Value.pointer none)).toArray 24 (0, 0))
  b : W.heap[B]? = some (.cells #[.slice none 0 0, .slice none 0 0, .slice none 0 0] 26 (0, 0))
  s : ∀ i, i < k → Sh W (bs.getD i 0) 10 []
  kp : Keep [] w W
  dis : ∀ i j, i < k → j < k → i ≠ j → bs.getD i 0 ≠ bs.getD j 0
  ge : w.heap.size ≤ A ∧ w.heap.size ≤ B ∧ ∀ i, i < k → w.heap.size ≤ bs.getD i 0
theorem Pp.new (w : World) : Pp w w.heap.size (w.heap.size + 1) 0 [] ((w.alloc (.cells #[.pointer none, .pointer none, .pointer none] 24)).alloc (.cells #[.slice none 0 0, .slice none 0 0, .slice none 0 0] 26)) := by
  refine ⟨rfl, by omega, (Below.heap_alloc _ _ _ (by simp)).trans (heap_alloc_new _ _), ?_, fun i hi => absurd hi (by omega), (Keep.alloc1 _ _).alloc _, fun i j hi => absurd hi (by omega), by omega, by omega, fun i hi => absurd hi (by omega)⟩
  have := heap_alloc_new (w.alloc (.cells #[.pointer none, .pointer none, .pointer none] 24)) (.cells #[.slice none 0 0, .slice none 0 0, .slice none 0 0] 26)
  rw [World.size_alloc] at this
  exact this
theorem Pp.cell {w : World} {A B k : Nat} {bs : List Nat} {W : World} (h : Pp w A B k bs W) (hk : k < 3) : W.cell? ⟨A, k, none⟩ = some (.pointer none) ∧ W.frozen? ⟨A, k, none⟩ = false := by
  refine ⟨?_, free_cells h.a k⟩
  unfold World.cell?
  rw [h.a]
  have h1 : (bs.map vA).length = k := by rw [List.length_map, h.nb]
  simp only [List.getElem?_toArray]
  rw [List.getElem?_append_right (by omega), h1, Nat.sub_self, List.getElem?_replicate]
  simp
  omega
theorem Pp.keep0 {w : World} {A B k : Nat} {bs : List Nat} {W W' : World} (h : Pp w A B k bs W) (kk : Keep [] W W') : Pp w A B k bs W' :=
  ⟨h.nb, h.hk, (kk.block _ (Array.getElem?_eq_some_iff.1 h.a).1 (by simp)).trans h.a, (kk.block _ (Array.getElem?_eq_some_iff.1 h.b).1 (by simp)).trans h.b, fun i hi => (h.s i hi).keep0 kk, h.kp.trans' kk, h.dis, h.ge⟩
theorem Pp.step {w : World} {A B k : Nat} {bs : List Nat} {W W1 : World} (h : Pp w A B k bs W) (hk : k < 3) (kk : Keep [] W W1) (b' : Nat) (hs : Sh W1 b' 10 []) (hb : W.heap.size ≤ b') : Pp w A B (k + 1) (bs ++ [b']) (W1.setCell ⟨A, k, none⟩ (vA b')) := by
  have g := h.keep0 kk
  have k2 : Keep [A] W1 (W1.setCell ⟨A, k, none⟩ (vA b')) := Keep.set1 W1 ⟨A, k, none⟩ (vA b')
  have kt := kt_other k2 g.a (by decide)
  have hnb := h.nb
  have e1 : ∀ i, i < k → (bs ++ [b']).getD i 0 = bs.getD i 0 := fun i hi => by
    rw [List.getD_eq_getElem?_getD, List.getD_eq_getElem?_getD, List.getElem?_append_left (by omega)]
  have e2 : (bs ++ [b']).getD k 0 = b' := by
    rw [List.getD_eq_getElem?_getD, List.getElem?_append_right (by omega), hnb]; simp
  have hAB : B ≠ A := fun e => by
    have h1 := g.a
    rw [← e, g.b] at h1
    simp at h1
  have old : ∀ i, i < k → bs.getD i 0 ≠ b' := fun i hi e => by
    have := (h.s i hi).lt
    omega
  have hgb : w.heap.size ≤ b' := Nat.le_trans h.kp.size hb
  refine ⟨by simp [hnb], by omega, ?_, (k2.block _ (Array.getElem?_eq_some_iff.1 g.b).1 (by simpa using hAB)).trans g.b, fun i hi => ?_, g.kp.more k2 (fun x hx => .inr (by simp at hx; have := h.ge; omega)), fun i j hi hj hij => ?_, h.ge.1, h.ge.2.1, fun i hi => ?_⟩
  · have := heap_set (n := k) g.a (vA b')
    rw [this]
    congr 2
    have h1 : (bs.map vA).length = k := by rw [List.length_map, hnb]
    rw [List.set_append_right _ _ (by omega), h1, Nat.sub_self]
    obtain ⟨r, hr⟩ : ∃ r, 3 - k = r + 1 := ⟨2 - k, by omega⟩
    rw [hr, show 3 - (k + 1) = r from by omega, List.replicate_succ, List.set_cons_zero, List.map_append, List.append_assoc]
    rfl
  · by_cases h1 : i = k
    · rw [h1, e2]
      exact hs.keep k2 kt (by simpa using hs.noBlk g.a (by decide))
    · rw [e1 i (by omega)]
      exact (g.s i (by omega)).keep k2 kt (by simpa using (g.s i (by omega)).noBlk g.a (by decide))
  · by_cases h1 : i = k
    · rw [h1, e2, e1 j (by omega)]
      exact fun e => old j (by omega) e.symm
    · rw [e1 i (by omega)]
      by_cases h2 : j = k
      · rw [h2, e2]; exact old i (by omega)
      · rw [e1 j (by omega)]; exact h.dis i j (by omega) (by omega) hij
  · by_cases h1 : i = k
    · rw [h1, e2]; exact hgb
    · rw [e1 i (by omega)]; exact h.ge.2.2 i (by omega)
theorem Pp.done {w : World} {A B : Nat} {bs : List Nat} {W : World} (h : Pp w A B 3 bs W) : Ply w A B bs [.slice none 0 0, .slice none 0 0, .slice none 0 0] [[], [], []] [[], [], []] W := by
  refine ⟨h.nb, rfl, rfl, rfl, ?_, h.b, fun i hi => ?_, fun i hi => ?_, h.kp, h.dis, h.ge⟩
  · rw [h.a]; simp
  · rcases (by omega : i = 0 ∨ i = 1 ∨ i = 2) with rfl | rfl | rfl <;> exact h.s _ (by omega)
  · rcases (by omega : i = 0 ∨ i = 1 ∨ i = 2) with rfl | rfl | rfl <;> exact Rw.nil _ _ _ _

end Go.Proofs.Ytkelhglflpdpeaa
