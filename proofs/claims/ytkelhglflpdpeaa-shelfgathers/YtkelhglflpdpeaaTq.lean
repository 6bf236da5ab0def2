/- From a place on, as a sequence; where an element stands. -/
import Derived.Test.YtkelhglflpdpeaaTp

namespace Go.Proofs.Ytkelhglflpdpeaa
open Go.RowKit Go.PlainAid Go.Shelf
attribute [local go_sem] Oper.semAt_some

theorem from_any (p : Option Addr) (s : Int) (w : World) : Calls Try.prog 54 #[.pointer p, .int .i64 s] w fun e w' =>
    e = .returned (.func (.func 68) #[] #[.pointer (some ⟨w.heap.size, 0, none⟩), .pointer (some ⟨w.heap.size + 1, 0, none⟩)]) ∧ w' = (w.alloc (.cells #[.pointer p] 80)).alloc (.cells #[.int .i64 s] 3) := by
  go_enter Try.func54, Try.ntmps54
  go_wp2
  go_ret
  exact ⟨rfl, rfl⟩

set_option maxHeartbeats 1000000 in
theorem from1_in (F : Fence) (hd : F.depth = none) (n : Nat) (h53 : F.fn 53) (h68 : F.fn 68) (h69 : F.fn 69) (hro : F.round = none) (hcount : ∀ (n : Nat) (p : Option Addr) (T : TT) (W : World), IsT W p T → CallsIn F n Try.prog 53 #[.pointer p] W fun e w' => e = .returned (.int .i64 (T.list.length : Int)) ∧ W = w')
    (l B1 B2 : Nat) (p : Option Addr) (s : Nat) (T : TT) (J Jx : List Pr → World → Prop) (hTl : T.list.length ≤ 1152921504606846976) (hsl : s ≤ 9223372036854775807)
    (hY : ∀ pre x W, J pre W → pre.length < (T.list.drop s).length → YieldAt F (n - 1) Try.prog l #[vP x] W fun e W' =>
      (e = .returned (.bool true) ∧ J (pre ++ [x]) W' ∧ KT W W') ∨ (e = .returned (.bool false) ∧ Jx (pre ++ [x]) W'))
    (W : World) (hB1 : W.cell? ⟨B1, 0, none⟩ = some (.pointer p)) (hB2 : W.cell? ⟨B2, 0, none⟩ = some (.int .i64 (s : Int))) (hT : IsT W p T) (h0 : J [] W) :
    CallsIn F n Try.prog 68 #[.func (.yield l) #[] #[], .pointer (some ⟨B1, 0, none⟩), .pointer (some ⟨B2, 0, none⟩)] W fun e W' => (∃ v, e = .returned v) ∧
      ((∃ ys, ys = T.list.drop s ∧ J ys W') ∨ (∃ pre, pre <+: T.list.drop s ∧ Jx pre W')) := by
  have hdd : ∀ k : Nat, (F.depth.isSome = true → 1 ≤ k) := fun k h => by rw [hd] at h; cases h
  have hp := show_in F hd h53 h69 hro hcount l (T.list.drop s).length J Jx (fun m pre x W hj hl => yieldAny hd m (hY pre x W hj hl)) T (n - 1) p (s : Int) [] W hT h0 (by simp) hTl (by omega) (by omega)
  rw [Int.toNat_natCast] at hp
  clear hY hT h0 hcount hTl hsl
  refine callsIn_of_wp Try.func68 rfl h68 ?_ hro
  simp only [Try.ntmps68, List.size_toArray, List.length_cons, List.length_nil, Nat.reduceAdd, Nat.reduceSub, Array.replicate_succ, Array.replicate_zero, List.push_toArray, List.append_toArray, List.nil_append, List.cons_append]
  gi_wp2_with ((try refine ⟨hdd _, ?_⟩); gi_at_call 69; refine hp.mono ?_; clear hp; rintro e W1 (⟨rfl, hJ1, _⟩ | ⟨rfl, q, hq, hx⟩))
  · go_end0
    exact ⟨⟨_, rfl⟩, .inl ⟨_, rfl, by simpa using hJ1⟩⟩
  · go_end0
    exact ⟨⟨_, rfl⟩, .inr ⟨q, hq, by simpa using hx⟩⟩

/-- a sequence that tells l -/
structure Sq (w : World) (B1 B2 : Nat) (l : List Pr) : Prop where
  ex : ∃ p s T, w.heap[B1]? = some (.cells #[.pointer p] 80 (0, 0)) ∧ w.heap[B2]? = some (.cells #[.int .i64 ((s : Nat) : Int)] 3 (0, 0)) ∧ IsT w p T ∧ l = T.list.drop s ∧ T.list.length ≤ 1152921504606846976 ∧ s ≤ 9223372036854775807
abbrev vSq (B1 B2 : Nat) : Value := .func (.func 68) #[] #[.pointer (some ⟨B1, 0, none⟩), .pointer (some ⟨B2, 0, none⟩)]
theorem Sq.keep {F : List Nat} {w w' : World} {B1 B2 : Nat} {l : List Pr} (h : Sq w B1 B2 l) (k : Keep F w w') (kt : KT w w') (h1 : B1 ∉ F) (h2 : B2 ∉ F) : Sq w' B1 B2 l := by
  obtain ⟨p, s, T, a, b, c, d⟩ := h.ex
  exact ⟨p, s, T, (k.block _ (Array.getElem?_eq_some_iff.1 a).1 h1).trans a, (k.block _ (Array.getElem?_eq_some_iff.1 b).1 h2).trans b, c.kt kt, d⟩
theorem Sq.keep0 {w w' : World} {B1 B2 : Nat} {l : List Pr} (h : Sq w B1 B2 l) (k : Keep [] w w') : Sq w' B1 B2 l := h.keep k k.kt0 (by simp) (by simp)
theorem Sq.len {w : World} {B1 B2 : Nat} {l : List Pr} (h : Sq w B1 B2 l) : l.length ≤ 1152921504606846976 := by
  obtain ⟨p, s, T, a, b, c, d, e, f⟩ := h.ex
  rw [d]; simp; omega
theorem Sq.lt {w : World} {B1 B2 : Nat} {l : List Pr} (h : Sq w B1 B2 l) : B1 < w.heap.size ∧ B2 < w.heap.size := by
  obtain ⟨p, s, T, a, b, c, d⟩ := h.ex
  exact ⟨(Array.getElem?_eq_some_iff.1 a).1, (Array.getElem?_eq_some_iff.1 b).1⟩
theorem Sq.of_from {p : Option Addr} {T : TT} {w : World} (s : Nat) (h : IsT w p T) (hl : T.list.length ≤ 1152921504606846976) (hs : s ≤ 9223372036854775807) :
    Sq ((w.alloc (.cells #[.pointer p] 80)).alloc (.cells #[.int .i64 (s : Int)] 3)) w.heap.size (w.heap.size + 1) (T.list.drop s) := by
  refine ⟨p, s, T, ?_, ?_, h.keep ((Keep.alloc1 _ _).alloc _), rfl, hl, hs⟩
  · exact (Below.heap_alloc _ _ _ (by simp)).trans (heap_alloc_new w _)
  · have := heap_alloc_new (w.alloc (.cells #[.pointer p] 80)) (.cells #[.int .i64 (s : Int)] 3)
    rwa [World.size_alloc] at this

theorem Sq.stops {w : World} {B1 B2 : Nat} {l : List Pr} (h : Sq w B1 B2 l) (n : Nat) :
    SeqStopsK Fence.wide n Try.prog 68 #[.pointer (some ⟨B1, 0, none⟩), .pointer (some ⟨B2, 0, none⟩)] (fun x : Pr => #[vP x]) KT (fun ys => ys = l) (fun pre => pre <+: l) l.length w := fun l9 J Jx W hW _ _ hY h0 => by
  obtain ⟨p, s, T, a, b, c, d, e1, e2⟩ := (h.keep0 (Keep.ofBelow hW)).ex
  subst d
  refine from1_in Fence.wide rfl n trivial trivial trivial rfl (fun n p T W hT => callsIn_wide.2 ((count_any p T W hT).mono (fun e w' h => ⟨h.1, h.2.symm⟩))) l9 B1 B2 p s T J Jx e1 e2 hY W ?_ ?_ c h0
  · unfold World.cell?; rw [a]; rfl
  · unfold World.cell?; rw [b]; rfl

end Go.Proofs.Ytkelhglflpdpeaa
