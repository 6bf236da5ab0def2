/- A range over a sequence of a shelf whose body may break: what follows it is looked at once. -/
import Derived.Test.YtkelhglflpdpeaaRr
import Derived.RangeFuncNested
namespace Go.Proofs.Ytkelhglflpdpeaa
open Go.RowKit Go.PlainAid Go.Shelf

theorem range_sq {B1 B2 : Nat} {L : List Pr} {g : Operand} {ps : Array Tmp} {assign body : Code} {Q0 : Exit → Act → World → Prop} {id : Nat} {a : Act} {w : World}
    (hg : a.eval g = vSq B1 B2) (hps : ps.size = 1) (hsq : Sq w B1 B2 L)
    (I : List Pr → World → Prop) (Ix : Code → List Pr → World → Prop) (hI : OwnFrom w.heap.size I) (hIx : ∀ c, OwnFrom w.heap.size (Ix c)) (h0 : I [] w)
    (hal : ∀ pre W o, I pre W → I pre (W.alloc o)) (hge : ∀ pre W, I pre W → w.heap.size ≤ W.heap.size)
    (R : World → Prop) (hdone : ∀ W, I L W → R W) (hstop : ∀ c pre W, pre <+: L → Ix c pre W → c = .exit id ∧ R W)
    (fr : Pr → Nat → Act)
    (hassign : ∀ (l : Nat) (y : Pr) (W : World) (K : Act → World → Prop) (B : Nat), B = W.heap.size → K (fr y B) (W.alloc (.cells #[.int .i64 y.k, .int .i64 y.m] 29)) →
      assign.wpIn (Fence.wide.inRound l) 4 Try.prog (Exit.then K (fun _ _ _ => False)) { tmps := (ps.zip #[vP y]).foldl (fun t (p, v) => t.setIfInBounds p v) a.tmps, defers := [] } W)
    (hbody : ∀ (l : Nat) (pre : List Pr) (y : Pr) (W : World) (B : Nat), w.heap.size ≤ l → I pre W → w.heap.size ≤ B → W.heap[B]? = some (.cells #[.int .i64 y.k, .int .i64 y.m] 29 (0, 0)) → pre.length < L.length →
      body.wpIn (Fence.wide.inRound l) 4 Try.prog (ownPostG w.heap.size KT I Ix (pre ++ [y]) W) (fr y B) W)
    (hrest : ∀ (D : Nat) (W : World), w.heap.size ≤ D → R W → W.heap[D]? = some (.deferred (some [])) → Q0 .normal { a with defers := { target := .collected D, args := #[] } :: a.defers } W) :
    (Code.rangeFunc g ps assign body).wp Try.prog (Exit.inBlock id Q0) a w := by
  refine (wpIn_wide (n := 6)).1 ?_
  refine wpIn_rangeFunc_ownH (w := w) rfl (by omega) (gf := 68) (lb := #[.pointer (some ⟨B1, 0, none⟩), .pointer (some ⟨B2, 0, none⟩)]) hg trivial (enters_of Try.func68 (by kernel_rfl) rfl)
    (hsq.stops 5) (fun h k => h.trans k) (fun W l o o' _ h1 h2 _ => kt_putObj W l o o' h1 h2) (Below.refl _ _) (fun _ => by simp [hps])
    I Ix hI hIx h0 (fun y a' W => ∃ Bx, w.heap.size ≤ Bx ∧ W.heap[Bx]? = some (.cells #[.int .i64 y.k, .int .i64 y.m] 29 (0, 0)) ∧ a' = fr y Bx) ?ax ?assign ?body ?done ?stop
  case ax =>
    rintro y a' _ A B row ⟨Bx, h1, h2, h3⟩ hg hr
    refine ⟨Bx, h1, (hg.block Bx (Array.getElem?_eq_some_iff.1 h2).1 (fun e => ?_)).trans h2, h3⟩
    obtain ⟨_, o, ho, hc⟩ := hr Bx e.symm
    rw [h2] at ho
    cases ho
    cases hc
  case assign =>
    rintro l9 pre y W K hi hK
    exact hassign l9 y W K _ rfl (hK _ _ ((Keep.alloc1 W _).from (by simp)) (Keep.alloc1 W _).kt0 (hal _ _ _ hi) ⟨W.heap.size, hge _ _ hi, heap_alloc_new _ _, rfl⟩)
  case body =>
    rintro l9 pre y a' W hl9 _ hi ⟨Bx, h1, h2, rfl⟩ hpl
    exact hbody l9 pre y W Bx hl9 hi h1 h2 hpl
  case done =>
    rintro D ys W hD rfl hi hK
    exact hrest D W hD (hdone W hi) hK
  case stop =>
    rintro D c pre W hD hpre hx hK
    obtain ⟨rfl, hR⟩ := hstop c pre W hpre hx
    refine wpIn_exit ?_
    simp only [Exit.inBlock, if_pos]
    exact hrest D W hD hR hK

end Go.Proofs.Ytkelhglflpdpeaa
