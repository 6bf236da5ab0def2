/- A range over an iterator that keeps what it counts in cells. -/
import Derived.Test.YtkelhglflpdpeaaRs
namespace Go.Proofs.Ytkelhglflpdpeaa
open Go.RowKit Go.PlainAid Go.Shelf

/-- what lay there is as it was, but for the blocks X and for rows of pairs laid from N on -/
def FrG (X : List Nat) (N : Nat) (W W' : World) : Prop := W.heap.size ≤ W'.heap.size ∧ ∀ b o, W.heap[b]? = some o → b ∉ X → (b < N ∨ ∀ c, o ≠ .cells c 29 (0, 0)) → W'.heap[b]? = some o
theorem FrG.refl (X : List Nat) (N : Nat) (W : World) : FrG X N W W := ⟨Nat.le_refl _, fun _ _ h _ _ => h⟩
theorem FrG.trans {X : List Nat} {N : Nat} {A B C : World} (h : FrG X N A B) (k : FrG X N B C) : FrG X N A C := ⟨Nat.le_trans h.1 k.1, fun b o hb hx hn => k.2 b o (h.2 b o hb hx hn) hx hn⟩
theorem FrG.mono {X Y : List Nat} {N : Nat} {A B : World} (h : FrG X N A B) (hs : ∀ x ∈ X, x ∈ Y) : FrG Y N A B := ⟨h.1, fun b o hb hx hn => h.2 b o hb (fun hm => hx (hs b hm)) hn⟩
theorem Keep.frg {R X : List Nat} {N : Nat} {W W' : World} (h : Keep R W W') (hR : ∀ r ∈ R, r ∈ X ∨ (N ≤ r ∧ ∃ c, W.heap[r]? = some (.cells c 29 (0, 0)))) : FrG X N W W' := ⟨h.size, fun b o hb hx hn => by
  refine (h.block b (Array.getElem?_eq_some_iff.1 hb).1 (fun hm => ?_)).trans hb
  rcases hR b hm with h1 | ⟨h1, c, h2⟩
  · exact hx h1
  · rw [h2] at hb
    cases hb
    rcases hn with h3 | h3
    · omega
    · exact h3 c rfl⟩
theorem frg_putObj (X : List Nat) (N : Nat) (W : World) (l : Nat) (o : Obj) (hl : l ∈ X) : FrG X N W (W.putObj l o) := ⟨by simp [World.putObj], fun b o' hb hx _ => by
  have hne : b ≠ l := fun e => hx (by rw [e]; exact hl)
  exact (World.putObj_heap_other hne).trans hb⟩

/-- blocks that such an iterator may write: s0, and boxes of a truth that were laid from B on -/
def StB (s0 B : Nat) (W : World) (r : Nat) : Prop := r = s0 ∨ (B ≤ r ∧ ∃ c, W.heap[r]? = some (.cells c 4 (0, 0)))
/-- what abides such writes -/
def Abd (s0 B : Nat) (J : List Pr → World → Prop) : Prop := ∀ pre W W' R, J pre W → Keep R W W' → (∀ r ∈ R, StB s0 B W r) → J pre W'
/-- the iterator gf tells L, and PS of how many it has handed over -/
def SeqState (gf : Nat) (lb : Array Value) (L : List Pr) (Y : List Nat) (s0 N : Nat) (PS : Nat → World → Prop) (w : World) : Prop :=
  ∀ (lp B : Nat) (X : List Nat) (J Jx : List Pr → World → Prop) (W : World), B ≤ W.heap.size → N ≤ B → Abd s0 B J → Abd s0 B Jx → FrG X N w W → (∀ x ∈ X, N ≤ x) → (∀ x ∈ X, x < B) → (∀ x ∈ X, x ∉ Y) →
    (∀ pre y W1, J pre W1 → pre.length < L.length → YieldAt Fence.wide 4 Try.prog lp #[vP y] W1 fun e W' => (e = .returned (.bool true) ∧ J (pre ++ [y]) W' ∧ FrG X N W1 W') ∨ (e = .returned (.bool false) ∧ Jx (pre ++ [y]) W' ∧ FrG X N W1 W')) →
    J [] W → CallsIn Fence.wide 5 Try.prog gf (#[.func (.yield lp) #[] #[]] ++ lb) W fun e W' => (∃ v, e = .returned v) ∧ ((J L W' ∧ PS L.length W') ∨ ∃ pre, pre <+: L ∧ Jx pre W' ∧ PS pre.length W')

/-- the loop's record -/
abbrev recd (fn : FuncId) (tmps : Array Value) (ps : Array Tmp) (assign body : Code) (D : Nat) (s : LoopState) (j : Option Code) : Loop := { state := s, pending := j, fn := fn, tmps := tmps, params := ps, assign := assign, body := body, defers := D }

theorem range_state {gf : Nat} {lb : Array Value} {g : Operand} {ps : Array Tmp} {assign body : Code} {Q : Exit → Act → World → Prop} {a : Act} {w : World} {s0 N : Nat} {L : List Pr} {X Y : List Nat}
    (hg : a.eval g = .func (.func gf) #[] lb) (eg : ∀ args w, (callFunc gf args).run Try.prog w = .ok (.enter gf args) w) (hps : ps.size = 1)
    {PS : Nat → World → Prop} (hseq : SeqState gf lb L Y s0 N PS w) (hYl : ∀ y ∈ Y, y < w.heap.size) (hPS : ∀ n W l o, PS n W → w.heap.size ≤ l → PS n (W.putObj l o)) (hN : N ≤ w.heap.size) (hs0 : s0 < w.heap.size) (hX : ∀ x ∈ X, N ≤ x ∧ x < w.heap.size ∧ x ∉ Y)
    (I Ix : List Pr → World → Prop) (hIa : Abd s0 (w.heap.size + 2) I) (hXa : Abd s0 (w.heap.size + 2) Ix)
    (hIp : ∀ pre W l o, I pre W → w.heap.size ≤ l → (∃ o', W.heap[l]? = some o' ∧ o'.isCells = false) → I pre (W.putObj l o)) (hXp : ∀ pre W l o, Ix pre W → w.heap.size ≤ l → (∃ o', W.heap[l]? = some o' ∧ o'.isCells = false) → Ix pre (W.putObj l o))
    (hal : ∀ pre W o, I pre W → I pre (W.alloc o)) (h0 : I [] w)
    (fr : Pr → Nat → Act)
    (hassign : ∀ (l : Nat) (y : Pr) (W : World) (K : Act → World → Prop) (B : Nat), B = W.heap.size → K (fr y B) (W.alloc (.cells #[.int .i64 y.k, .int .i64 y.m] 29)) →
      assign.wpIn (Fence.wide.inRound l) 4 Try.prog (Exit.then K (fun _ _ _ => False)) { tmps := (ps.zip #[vP y]).foldl (fun t (p, v) => t.setIfInBounds p v) a.tmps, defers := [] } W)
    (hbody : ∀ (l : Nat) (pre : List Pr) (y : Pr) (W : World) (B : Nat), I pre W → w.heap.size ≤ B → W.heap[B]? = some (.cells #[.int .i64 y.k, .int .i64 y.m] 29 (0, 0)) → pre.length < L.length →
      body.wpIn (Fence.wide.inRound l) 4 Try.prog (fun e _ W' => (e = .normal ∧ I (pre ++ [y]) W' ∧ FrG X N W W') ∨ (e = .ret ∧ Ix (pre ++ [y]) W' ∧ FrG X N W W')) (fr y B) W)
    (hdone : ∀ W, I L W → PS L.length W → W.heap[w.heap.size]? = some (.deferred (some [])) → Q .normal { a with defers := { target := .collected w.heap.size, args := #[] } :: a.defers } W)
    (hret : ∀ pre W, pre <+: L → Ix pre W → PS pre.length W → W.heap[w.heap.size]? = some (.deferred (some [])) → Q .ret { a with defers := { target := .collected w.heap.size, args := #[] } :: a.defers } W) :
    (Code.rangeFunc g ps assign body).wp Try.prog Q a w := by
  refine (wpIn_wide (n := 6)).1 (wpIn_rangeFunc (fun fn _ => ?_))
  -- the two blocks that the loop lays
  let R := recd fn a.tmps ps assign body w.heap.size
  let W1 := (w.alloc (.deferred (some []))).alloc (.loop (R .ready none))
  have e1 : W1.heap[w.heap.size + 1]? = some (.loop (R .ready none)) := by
    have := heap_alloc_new (w.alloc (.deferred (some []))) (.loop (R .ready none))
    rwa [World.size_alloc] at this
  have e0 : W1.heap[w.heap.size]? = some (.deferred (some [])) := (Below.heap_alloc _ _ _ (by simp)).trans (heap_alloc_new w _)
  have i1 : I [] W1 := hal _ _ _ (hal _ _ _ h0)
  have k1 : Keep [] w W1 := (Keep.alloc1 _ _).alloc _
  have z1 : W1.heap.size = w.heap.size + 2 := by simp [W1]
  refine ⟨w.heap.size + 1, [{ target := .collected w.heap.size, args := #[] }], W1, { target := .fn (.func gf) lb, args := #[.func (.yield (w.heap.size + 1)) #[] #[]] }, W1, gf, #[.func (.yield (w.heap.size + 1)) #[] #[]] ++ lb, W1, run_enterLoop_outer _ _ _ _ _, ?_, fun _ _ => trivial, ?_, (fun h => by cases h), ?_⟩
  · simp only [resolve, hg]
    simp [go_sem]
  · simp [invoke, go_sem, eg]
  -- what the client says, with the two blocks beside it
  let J : List Pr → World → Prop := fun pre W => I pre W ∧ W.heap[w.heap.size + 1]? = some (.loop (R .ready none)) ∧ W.heap[w.heap.size]? = some (.deferred (some []))
  let Jx : List Pr → World → Prop := fun pre W => Ix pre W ∧ W.heap[w.heap.size + 1]? = some (.loop (R .done (some .ret))) ∧ W.heap[w.heap.size]? = some (.deferred (some []))
  have away : ∀ {W W' : World} {Z : List Nat} (b : Nat) (o : Obj), Keep Z W W' → (∀ r ∈ Z, StB s0 (w.heap.size + 2) W r) → W.heap[b]? = some o → w.heap.size ≤ b → b < w.heap.size + 2 → W'.heap[b]? = some o := fun b o kk hZ hb h1 h2 =>
    (kk.block _ (Array.getElem?_eq_some_iff.1 hb).1 (fun hm => by
      rcases hZ b hm with h | ⟨h, _⟩ <;> omega)).trans hb
  have aJ : Abd s0 (w.heap.size + 2) J := fun pre W W' Z hj kk hZ => ⟨hIa pre W W' Z hj.1 kk hZ, away _ _ kk hZ hj.2.1 (by omega) (by omega), away _ _ kk hZ hj.2.2 (by omega) (by omega)⟩
  have aX : Abd s0 (w.heap.size + 2) Jx := fun pre W W' Z hj kk hZ => ⟨hXa pre W W' Z hj.1 kk hZ, away _ _ kk hZ hj.2.1 (by omega) (by omega), away _ _ kk hZ hj.2.2 (by omega) (by omega)⟩
  have hX' : ∀ x ∈ (w.heap.size + 1) :: X, (N ≤ x ∧ x < w.heap.size + 2) ∧ x ∉ Y := fun x hx => by
    rcases List.mem_cons.1 hx with h | h
    · exact ⟨by omega, fun hm => by have := hYl x hm; omega⟩
    · have := hX x h
      exact ⟨by omega, this.2.2⟩
  have nX : w.heap.size + 1 ∉ X ∧ w.heap.size ∉ X := ⟨fun h => by have := (hX _ h).2.1; omega, fun h => by have := (hX _ h).2.1; omega⟩
  refine (hseq (w.heap.size + 1) (w.heap.size + 2) ((w.heap.size + 1) :: X) J Jx W1 (by omega) (by omega) aJ aX (k1.frg (by simp)) (fun x hx => (hX' x hx).1.1) (fun x hx => (hX' x hx).1.2) (fun x hx => (hX' x hx).2) ?_ ⟨i1, e1, e0⟩).mono ?_
  · -- one round
    rintro pre y W ⟨hi, hr, hd⟩ hlen
    refine ⟨fn, _, assign, body, run_yield (args := #[vP y]) hr (by simp [R, hps]), roundIn_of_wpIn trivial (hassign _ y W _ _ rfl ?_)⟩
    have ka := Keep.alloc1 W (.cells #[.int .i64 y.k, .int .i64 y.m] 29)
    have ra := (ka.block _ (Array.getElem?_eq_some_iff.1 hr).1 (by simp)).trans hr
    have da := (ka.block _ (Array.getElem?_eq_some_iff.1 hd).1 (by simp)).trans hd
    have ba : (W.alloc (.cells #[.int .i64 y.k, .int .i64 y.m] 29)).heap[W.heap.size]? = some (.cells #[.int .i64 y.k, .int .i64 y.m] 29 (0, 0)) := heap_alloc_new _ _
    have ia := hal _ _ (.cells #[.int .i64 y.k, .int .i64 y.m] 29) hi
    have hlt := (Array.getElem?_eq_some_iff.1 hr).1
    have hB : w.heap.size ≤ W.heap.size := by omega
    have fa : FrG ((w.heap.size + 1) :: X) N W (W.alloc (.cells #[.int .i64 y.k, .int .i64 y.m] 29)) := ka.frg (by simp)
    have hBl : W.heap.size ≠ w.heap.size + 1 := by omega
    generalize W.alloc (.cells #[.int .i64 y.k, .int .i64 y.m] 29) = Wa at *
    generalize W.heap.size = Bx at *
    refine ⟨_, run_beginRound ra rfl, ?_⟩
    have ib := hIp _ _ (w.heap.size + 1) (.loop { R .ready none with state := .busy }) ia (by omega) ⟨_, ra, rfl⟩
    have rb : (Wa.putObj (w.heap.size + 1) (.loop { R .ready none with state := .busy })).heap[w.heap.size + 1]? = some (.loop { R .ready none with state := .busy }) := World.putObj_heap_same (Array.getElem?_eq_some_iff.1 ra).1
    have db : (Wa.putObj (w.heap.size + 1) (.loop { R .ready none with state := .busy })).heap[w.heap.size]? = some (.deferred (some [])) := (World.putObj_heap_other (by omega)).trans da
    have bb : (Wa.putObj (w.heap.size + 1) (.loop { R .ready none with state := .busy })).heap[Bx]? = some (.cells #[.int .i64 y.k, .int .i64 y.m] 29 (0, 0)) := (World.putObj_heap_other hBl).trans ba
    have fb := fa.trans (frg_putObj ((w.heap.size + 1) :: X) N Wa (w.heap.size + 1) (.loop { R .ready none with state := .busy }) (by simp))
    refine wpIn_mono (hbody _ pre y _ Bx ib hB bb hlen) ?_
    generalize Wa.putObj (w.heap.size + 1) (.loop { R .ready none with state := .busy }) = Wb at *
    have ends : ∀ (jump : Option Code) (W3 : World), FrG X N Wb W3 → (Instr.endRound (w.heap.size + 1) jump).run Try.prog W3 = .ok (.bool jump.isNone) (W3.putObj (w.heap.size + 1) (.loop (R (if jump.isNone then .ready else .done) jump))) ∧ (∃ o', W3.heap[w.heap.size + 1]? = some o' ∧ o'.isCells = false) ∧ (W3.putObj (w.heap.size + 1) (.loop (R (if jump.isNone then .ready else .done) jump))).heap[w.heap.size + 1]? = some (.loop (R (if jump.isNone then .ready else .done) jump)) ∧ (W3.putObj (w.heap.size + 1) (.loop (R (if jump.isNone then .ready else .done) jump))).heap[w.heap.size]? = some (.deferred (some [])) ∧ FrG ((w.heap.size + 1) :: X) N W (W3.putObj (w.heap.size + 1) (.loop (R (if jump.isNone then .ready else .done) jump))) := fun jump W3 hf => by
      have r3 := hf.2 _ _ rb nX.1 (.inr (fun c h => by cases h))
      have d3 := hf.2 _ _ db nX.2 (.inr (fun c h => by cases h))
      exact ⟨run_endRound jump r3, ⟨_, r3, rfl⟩, World.putObj_heap_same (Array.getElem?_eq_some_iff.1 r3).1, (World.putObj_heap_other (by omega)).trans d3, (fb.trans (hf.mono (fun x hx => by simp [hx]))).trans (frg_putObj _ _ _ _ _ (by simp))⟩
    rintro e a3 W3 (⟨rfl, h1, h2⟩ | ⟨rfl, h1, h2⟩)
    · obtain ⟨g1, g2, g3, g4, g5⟩ := ends none W3 h2
      exact ⟨_, _, g1, .inl ⟨rfl, ⟨hIp _ _ _ _ h1 (by omega) g2, g3, g4⟩, g5⟩⟩
    · obtain ⟨g1, g2, g3, g4, g5⟩ := ends (some .ret) W3 h2
      exact ⟨_, _, g1, .inr ⟨rfl, ⟨hXp _ _ _ _ h1 (by omega) g2, g3, g4⟩, g5⟩⟩
  · -- the iterator has returned
    rintro e W2 ⟨⟨v, rfl⟩, ⟨⟨hi, hr, hd⟩, hq⟩ | ⟨pre, hp, ⟨hi, hr, hd⟩, hq⟩⟩
    · refine ⟨none, _, run_endLoop hr (by simp [R]), hdone _ (hIp _ _ _ _ hi (by omega) ⟨_, hr, rfl⟩) (hPS _ _ _ _ hq (by omega)) ((World.putObj_heap_other (by omega)).trans hd)⟩
    · refine ⟨some .ret, _, run_endLoop hr (by simp [R]), wpIn_ret (hret pre _ hp (hXp _ _ _ _ hi (by omega) ⟨_, hr, rfl⟩) (hPS _ _ _ _ hq (by omega)) ((World.putObj_heap_other (by omega)).trans hd))⟩

end Go.Proofs.Ytkelhglflpdpeaa
