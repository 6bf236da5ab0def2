/- ShelfWalks: its variables. -/
import Derived.Test.YtkelhglflpdpeaaRr
import Derived.Test.YtkelhglflpdpeaaRk
import Derived.Test.YtkelhglflpdpeaaLd
import Derived.Test.YtkelhglflpdpeaaLm
import Derived.Test.YtkelhglflpdpeaaOm

namespace Go.Proofs.Ytkelhglflpdpeaa
open Go.RowKit Go.PlainAid


/-- the variables of ShelfWalks: all of them lie below N -/
structure Wk (w : World) (x : Pr) (k : Int) (q : Bool) (bx bk bq bw ba bf A1 A2 F1 F2 : Nat) (vw : Value) (want : List Pr) (N : Nat) (W : World) : Prop where
  hx : W.heap[bx]? = some (.cells #[.int .i64 x.k, .int .i64 x.m] 29 (0, 0))
  hk : W.heap[bk]? = some (.cells #[.int .i64 k] 3 (0, 0))
  hq : W.heap[bq]? = some (.cells #[.bool q] 4 (0, 0))
  hv : W.heap[bw]? = some (.cells #[vw] 25 (0, 0))
  ha : W.heap[ba]? = some (.cells #[vSq A1 A2] 44 (0, 0))
  hf : W.heap[bf]? = some (.cells #[vSq F1 F2] 44 (0, 0))
  all : Sq W A1 A2 want
  frm : Sq W F1 F2 (want.drop (rnk want x.k))
  row : Rw 29 encP 2 W vw want
  kp : Keep [] w W
  lt : bx < N ∧ bk < N ∧ bq < N ∧ bw < N ∧ ba < N ∧ bf < N ∧ A1 < N ∧ A2 < N ∧ F1 < N ∧ F2 < N ∧ ∀ g, vw.ownBlock = some g → g < N
  ge : w.heap.size ≤ bq ∧ w.heap.size ≤ N
theorem Wk.keep {w : World} {x : Pr} {k : Int} {q : Bool} {bx bk bq bw ba bf A1 A2 F1 F2 : Nat} {vw : Value} {want : List Pr} {N : Nat} {W : World} (h : Wk w x k q bx bk bq bw ba bf A1 A2 F1 F2 vw want N W) {R : List Nat} {W' : World} (kk : Keep R W W') (kt : KT W W') (hR : ∀ r ∈ R, w.heap.size ≤ r ∧ (N ≤ r ∨ ∃ c, W.heap[r]? = some (.cells c 82 (0, 0)))) : Wk w x k q bx bk bq bw ba bf A1 A2 F1 F2 vw want N W' := by
  have no : ∀ b (c : Array Value) (t : TypeId), b < N → W.heap[b]? = some (.cells c t (0, 0)) → t ≠ 82 → b ∉ R := fun b c t hb ho ht hm => by
    rcases (hR b hm).2 with h1 | ⟨c2, h1⟩
    · omega
    · rw [h1] at ho
      cases ho
      exact ht rfl
  have g : ∀ b (c : Array Value) (t : TypeId), b < N → W.heap[b]? = some (.cells c t (0, 0)) → t ≠ 82 → W'.heap[b]? = some (.cells c t (0, 0)) := fun b c t hb ho ht =>
    (kk.block _ (Array.getElem?_eq_some_iff.1 ho).1 (no b c t hb ho ht)).trans ho
  obtain ⟨l1, l2, l3, l4, l5, l6, l7, l8, l9, l10, l11⟩ := h.lt
  obtain ⟨_, _, _, a1, a2, _⟩ := h.all.ex
  obtain ⟨_, _, _, f1, f2, _⟩ := h.frm.ex
  exact ⟨g _ _ _ l1 h.hx (by decide), g _ _ _ l2 h.hk (by decide), g _ _ _ l3 h.hq (by decide), g _ _ _ l4 h.hv (by decide), g _ _ _ l5 h.ha (by decide), g _ _ _ l6 h.hf (by decide),
    h.all.keep kk kt (no _ _ _ l7 a1 (by decide)) (no _ _ _ l8 a2 (by decide)), h.frm.keep kk kt (no _ _ _ l9 f1 (by decide)) (no _ _ _ l10 f2 (by decide)),
    h.row.keep kk (fun g hg hm => by
      obtain ⟨cur, hb⟩ := RowC.blk h.row hg
      exact no g _ _ (l11 g hg) hb (by decide) hm), h.kp.more kk (fun r hr => .inr (hR r hr).1), h.lt, h.ge⟩
theorem Wk.keep0 {w : World} {x : Pr} {k : Int} {q : Bool} {bx bk bq bw ba bf A1 A2 F1 F2 : Nat} {vw : Value} {want : List Pr} {N : Nat} {W : World} (h : Wk w x k q bx bk bq bw ba bf A1 A2 F1 F2 vw want N W) {W' : World} (kk : Keep [] W W') : Wk w x k q bx bk bq bw ba bf A1 A2 F1 F2 vw want N W' := h.keep kk kk.kt0 (by simp)
theorem one_cell {W : World} {b : Nat} {v : Value} {t : TypeId} (h : W.heap[b]? = some (.cells #[v] t (0, 0))) : W.cell? ⟨b, 0, none⟩ = some v := by unfold World.cell?; rw [h]; rfl
theorem one_free {W : World} {b : Nat} {v : Value} {t : TypeId} (h : W.heap[b]? = some (.cells #[v] t (0, 0))) : W.frozen? ⟨b, 0, none⟩ = false := by unfold World.frozen?; rw [h]; rfl

/-- while all and from are laid: W0 is the world ahead; the boxes and sequences that are there by now -/
structure R5 (W0 : World) (want frm : List Pr) (o5 o6 : Option Nat) (s1 s2 : Option (Nat × Nat)) (W : World) : Prop where
  kp : Keep [] W0 W
  b5 : ∀ c, o5 = some c → W.heap[c]? = some (.cells #[.nilFunc] 44 (0, 0)) ∧ W0.heap.size ≤ c
  b6 : ∀ c, o6 = some c → W.heap[c]? = some (.cells #[.nilFunc] 44 (0, 0)) ∧ W0.heap.size ≤ c
  ne : ∀ c d, o5 = some c → o6 = some d → c ≠ d
  q1 : ∀ p, s1 = some p → Sq W p.1 p.2 want
  q2 : ∀ p, s2 = some p → Sq W p.1 p.2 frm
theorem R5.keep {W0 : World} {want frm : List Pr} {o5 o6 : Option Nat} {s1 s2 : Option (Nat × Nat)} {W W' : World} (h : R5 W0 want frm o5 o6 s1 s2 W) (k : Keep [] W W') : R5 W0 want frm o5 o6 s1 s2 W' :=
  ⟨h.kp.trans' k, fun c e => ⟨(k.block _ (Array.getElem?_eq_some_iff.1 (h.b5 c e).1).1 (by simp)).trans (h.b5 c e).1, (h.b5 c e).2⟩, fun c e => ⟨(k.block _ (Array.getElem?_eq_some_iff.1 (h.b6 c e).1).1 (by simp)).trans (h.b6 c e).1, (h.b6 c e).2⟩, h.ne, fun p e => (h.q1 p e).keep0 k, fun p e => (h.q2 p e).keep0 k⟩
theorem R5.a5 {W0 : World} {want frm : List Pr} {o6 : Option Nat} {s1 s2 : Option (Nat × Nat)} {W : World} (h : R5 W0 want frm none o6 s1 s2 W) : R5 W0 want frm (some W.heap.size) o6 s1 s2 (W.alloc (.cells #[.nilFunc] 44)) := by
  have g := h.keep (Keep.alloc1 W (.cells #[.nilFunc] 44))
  refine ⟨g.kp, fun c e => ?_, g.b6, fun c d e1 e2 e => ?_, g.q1, g.q2⟩
  · cases e; exact ⟨heap_alloc_new _ _, h.kp.size⟩
  · cases e1
    have := (Array.getElem?_eq_some_iff.1 (h.b6 d e2).1).1
    omega
theorem R5.a6 {W0 : World} {want frm : List Pr} {o5 : Option Nat} {s1 s2 : Option (Nat × Nat)} {W : World} (h : R5 W0 want frm o5 none s1 s2 W) : R5 W0 want frm o5 (some W.heap.size) s1 s2 (W.alloc (.cells #[.nilFunc] 44)) := by
  have g := h.keep (Keep.alloc1 W (.cells #[.nilFunc] 44))
  refine ⟨g.kp, g.b5, fun c e => ?_, fun c d e1 e2 e => ?_, g.q1, g.q2⟩
  · cases e; exact ⟨heap_alloc_new _ _, h.kp.size⟩
  · cases e2
    have := (Array.getElem?_eq_some_iff.1 (h.b5 c e1).1).1
    omega
theorem R5.c1 {W0 : World} {want frm : List Pr} {o5 o6 : Option Nat} {s2 : Option (Nat × Nat)} {W W' : World} (h : R5 W0 want frm o5 o6 none s2 W) (k : Keep [] W W') {B1 B2 : Nat} (hq : Sq W' B1 B2 want) : R5 W0 want frm o5 o6 (some (B1, B2)) s2 W' := by
  have g := h.keep k
  exact ⟨g.kp, g.b5, g.b6, g.ne, fun p e => by cases e; exact hq, g.q2⟩
theorem R5.c2 {W0 : World} {want frm : List Pr} {o5 o6 : Option Nat} {s1 : Option (Nat × Nat)} {W W' : World} (h : R5 W0 want frm o5 o6 s1 none W) (k : Keep [] W W') {B1 B2 : Nat} (hq : Sq W' B1 B2 frm) : R5 W0 want frm o5 o6 s1 (some (B1, B2)) W' := by
  have g := h.keep k
  exact ⟨g.kp, g.b5, g.b6, g.ne, g.q1, fun p e => by cases e; exact hq⟩
/-- both boxes are written -/
theorem R5.fin {W0 : World} {want frm : List Pr} {c5 c6 A1 A2 F1 F2 : Nat} {W : World} (h : R5 W0 want frm (some c5) (some c6) (some (A1, A2)) (some (F1, F2)) W) :
    Keep [] W0 ((W.setCell ⟨c5, 0, none⟩ (vSq A1 A2)).setCell ⟨c6, 0, none⟩ (vSq F1 F2)) ∧ ((W.setCell ⟨c5, 0, none⟩ (vSq A1 A2)).setCell ⟨c6, 0, none⟩ (vSq F1 F2)).heap[c5]? = some (.cells #[vSq A1 A2] 44 (0, 0)) ∧ ((W.setCell ⟨c5, 0, none⟩ (vSq A1 A2)).setCell ⟨c6, 0, none⟩ (vSq F1 F2)).heap[c6]? = some (.cells #[vSq F1 F2] 44 (0, 0)) ∧
    Sq ((W.setCell ⟨c5, 0, none⟩ (vSq A1 A2)).setCell ⟨c6, 0, none⟩ (vSq F1 F2)) A1 A2 want ∧ Sq ((W.setCell ⟨c5, 0, none⟩ (vSq A1 A2)).setCell ⟨c6, 0, none⟩ (vSq F1 F2)) F1 F2 frm := by
  obtain ⟨h5, g5⟩ := h.b5 c5 rfl
  obtain ⟨h6, g6⟩ := h.b6 c6 rfl
  have hne := h.ne c5 c6 rfl rfl
  have k1 : Keep [c5] W (W.setCell ⟨c5, 0, none⟩ (vSq A1 A2)) := Keep.set1 W ⟨c5, 0, none⟩ _
  have k2 : Keep [c6] (W.setCell ⟨c5, 0, none⟩ (vSq A1 A2)) ((W.setCell ⟨c5, 0, none⟩ (vSq A1 A2)).setCell ⟨c6, 0, none⟩ (vSq F1 F2)) := Keep.set1 _ ⟨c6, 0, none⟩ _
  have e5 : (W.setCell ⟨c5, 0, none⟩ (vSq A1 A2)).heap[c5]? = some (.cells #[vSq A1 A2] 44 (0, 0)) := one_setCell h5
  have e6 : (W.setCell ⟨c5, 0, none⟩ (vSq A1 A2)).heap[c6]? = some (.cells #[.nilFunc] 44 (0, 0)) := (k1.block _ (Array.getElem?_eq_some_iff.1 h6).1 (by simpa using fun e => hne e.symm)).trans h6
  have kt1 : KT W (W.setCell ⟨c5, 0, none⟩ (vSq A1 A2)) := k1.kt (fun r hr c hc => by simp at hr; subst hr; rw [h5] at hc; cases hc)
  have kt2 : KT (W.setCell ⟨c5, 0, none⟩ (vSq A1 A2)) ((W.setCell ⟨c5, 0, none⟩ (vSq A1 A2)).setCell ⟨c6, 0, none⟩ (vSq F1 F2)) := k2.kt (fun r hr c hc => by simp at hr; subst hr; rw [e6] at hc; cases hc)
  have no : ∀ b (c : Array Value) (t : TypeId), W.heap[b]? = some (.cells c t (0, 0)) → t ≠ 44 → b ≠ c5 ∧ b ≠ c6 := fun b c t hb ht => ⟨fun e => by rw [e, h5] at hb; cases hb; exact ht rfl, fun e => by rw [e, h6] at hb; cases hb; exact ht rfl⟩
  have sq : ∀ {B1 B2 : Nat} {l : List Pr}, Sq W B1 B2 l → Sq ((W.setCell ⟨c5, 0, none⟩ (vSq A1 A2)).setCell ⟨c6, 0, none⟩ (vSq F1 F2)) B1 B2 l := fun hq => by
    obtain ⟨_, _, _, x1, x2, _⟩ := hq.ex
    have y1 := no _ _ _ x1 (by decide)
    have y2 := no _ _ _ x2 (by decide)
    exact (hq.keep k1 kt1 (by simpa using y1.1) (by simpa using y2.1)).keep k2 kt2 (by simpa using y1.2) (by simpa using y2.2)
  exact ⟨(h.kp.more k1 (by intro y hy; simp at hy; omega)).more k2 (by intro y hy; simp at hy; omega), (k2.block _ (Array.getElem?_eq_some_iff.1 e5).1 (by simpa using hne)).trans e5, one_setCell e6, sq (h.q1 _ rfl), sq (h.q2 _ rfl)⟩

/-- and the number n, in bn; M: the heap's size when the range was begun -/
structure Wn (w : World) (x : Pr) (k : Int) (q : Bool) (bx bk bq bw ba bf A1 A2 F1 F2 : Nat) (vw : Value) (want : List Pr) (N bn M m : Nat) (W : World) : Prop where
  wk : Wk w x k q bx bk bq bw ba bf A1 A2 F1 F2 vw want N W
  n : W.heap[bn]? = some (.cells #[.int .i64 (m : Int)] 3 (0, 0))
  hb : N ≤ bn ∧ bn < M
  hM : M ≤ W.heap.size
theorem Wn.keep0 {w : World} {x : Pr} {k : Int} {q : Bool} {bx bk bq bw ba bf A1 A2 F1 F2 : Nat} {vw : Value} {want : List Pr} {N : Nat} {bn M m : Nat} {W : World} (h : Wn w x k q bx bk bq bw ba bf A1 A2 F1 F2 vw want N bn M m W) {W' : World} (kk : Keep [] W W') : Wn w x k q bx bk bq bw ba bf A1 A2 F1 F2 vw want N bn M m W' :=
  ⟨h.wk.keep0 kk, (kk.block _ (Array.getElem?_eq_some_iff.1 h.n).1 (by simp)).trans h.n, h.hb, Nat.le_trans h.hM kk.size⟩
theorem Wn.grow {w : World} {x : Pr} {k : Int} {q : Bool} {bx bk bq bw ba bf A1 A2 F1 F2 : Nat} {vw : Value} {want : List Pr} {N : Nat} {bn M m : Nat} {W : World} (h : Wn w x k q bx bk bq bw ba bf A1 A2 F1 F2 vw want N bn M m W) {W' : World} {row : Option Nat} (hg : W.grownBy W' row) (hr : ∀ r, row = some r → M ≤ r ∧ ∃ o : Obj, W.heap[r]? = some o ∧ o.isCells = false) : Wn w x k q bx bk bq bw ba bf A1 A2 F1 F2 vw want N bn M m W' := by
  have kk := Keep.grown hg
  have hN := h.wk.ge.2
  have hb := h.hb
  refine ⟨h.wk.keep kk (kk.kt (fun r hr' c hc => ?_)) (fun r hr' => ?_), (kk.block _ (Array.getElem?_eq_some_iff.1 h.n).1 (fun hm => ?_)).trans h.n, h.hb, Nat.le_trans h.hM kk.size⟩
  · obtain ⟨_, o, ho, hc'⟩ := hr r (by simpa using hr')
    rw [hc] at ho
    cases ho
    cases hc'
  · have := (hr r (by simpa using hr')).1
    exact ⟨by omega, .inl (by omega)⟩
  · have := (hr bn (by simpa using hm)).1
    omega
theorem Wn.setN {w : World} {x : Pr} {k : Int} {q : Bool} {bx bk bq bw ba bf A1 A2 F1 F2 : Nat} {vw : Value} {want : List Pr} {N : Nat} {bn M m : Nat} {W : World} (h : Wn w x k q bx bk bq bw ba bf A1 A2 F1 F2 vw want N bn M m W) (m' : Nat) : Wn w x k q bx bk bq bw ba bf A1 A2 F1 F2 vw want N bn M m' (W.setCell ⟨bn, 0, none⟩ (.int .i64 (m' : Int))) ∧ Keep [bn] W (W.setCell ⟨bn, 0, none⟩ (.int .i64 (m' : Int))) ∧ KT W (W.setCell ⟨bn, 0, none⟩ (.int .i64 (m' : Int))) := by
  have kk : Keep [bn] W (W.setCell ⟨bn, 0, none⟩ (.int .i64 (m' : Int))) := Keep.set1 W ⟨bn, 0, none⟩ _
  have kt : KT W (W.setCell ⟨bn, 0, none⟩ (.int .i64 (m' : Int))) := kk.kt (fun r hr c hc => by simp at hr; subst hr; rw [h.n] at hc; cases hc)
  have hN := h.wk.ge.2
  have hb := h.hb
  exact ⟨⟨h.wk.keep kk kt (fun r hr => by simp at hr; subst hr; exact ⟨by omega, .inl (by omega)⟩), one_setCell h.n, h.hb, Nat.le_trans h.hM kk.size⟩, kk, kt⟩
theorem Wn.raise {w : World} {x : Pr} {k : Int} {q : Bool} {bx bk bq bw ba bf A1 A2 F1 F2 : Nat} {vw : Value} {want : List Pr} {N : Nat} {bn M m : Nat} {W : World} (h : Wn w x k q bx bk bq bw ba bf A1 A2 F1 F2 vw want N bn M m W) {M' : Nat} (h1 : M ≤ M') (h2 : M' ≤ W.heap.size) : Wn w x k q bx bk bq bw ba bf A1 A2 F1 F2 vw want N bn M' m W := ⟨h.wk, h.n, ⟨h.hb.1, Nat.lt_of_lt_of_le h.hb.2 h1⟩, h2⟩
theorem Wn.qlt {w : World} {x : Pr} {k : Int} {q : Bool} {bx bk bq bw ba bf A1 A2 F1 F2 : Nat} {vw : Value} {want : List Pr} {N : Nat} {bn M m : Nat} {W : World} (h : Wn w x k q bx bk bq bw ba bf A1 A2 F1 F2 vw want N bn M m W) : bq < M ∧ bn < M := ⟨by have := h.wk.lt.2.2.1; have := h.hb; omega, h.hb.2⟩
theorem Wn.cells {w : World} {x : Pr} {k : Int} {q : Bool} {bx bk bq bw ba bf A1 A2 F1 F2 : Nat} {vw : Value} {want : List Pr} {N : Nat} {bn M m : Nat} {W : World} (h : Wn w x k q bx bk bq bw ba bf A1 A2 F1 F2 vw want N bn M m W) :
    W.cell? ⟨bn, 0, none⟩ = some (.int .i64 (m : Int)) ∧ W.cell? ⟨bk, 0, none⟩ = some (.int .i64 k) ∧ W.cell? ⟨bw, 0, none⟩ = some vw ∧ W.cell? ⟨ba, 0, none⟩ = some (vSq A1 A2) ∧ W.cell? ⟨bf, 0, none⟩ = some (vSq F1 F2) ∧ W.cell? ⟨bx, 0, none⟩ = some (.int .i64 x.k) ∧ W.cell? ⟨bx, 1, none⟩ = some (.int .i64 x.m) :=
  ⟨one_cell h.n, one_cell h.wk.hk, one_cell h.wk.hv, one_cell h.wk.ha, one_cell h.wk.hf, (two_facts h.wk.hx).1.1, (two_facts h.wk.hx).1.2⟩
theorem Wn.frees {w : World} {x : Pr} {k : Int} {q : Bool} {bx bk bq bw ba bf A1 A2 F1 F2 : Nat} {vw : Value} {want : List Pr} {N : Nat} {bn M m : Nat} {W : World} (h : Wn w x k q bx bk bq bw ba bf A1 A2 F1 F2 vw want N bn M m W) : W.frozen? ⟨bn, 0, none⟩ = false ∧ W.frozen? ⟨bq, 0, none⟩ = false ∧ W.cell? ⟨bq, 0, none⟩ = some (.bool q) := ⟨one_free h.n, one_free h.wk.hq, one_cell h.wk.hq⟩

end Go.Proofs.Ytkelhglflpdpeaa
