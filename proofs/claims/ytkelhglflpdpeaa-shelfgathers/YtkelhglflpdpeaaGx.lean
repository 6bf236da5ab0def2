/- What bears a sequence. -/
import Derived.Test.YtkelhglflpdpeaaGv

namespace Go.Proofs.Ytkelhglflpdpeaa
open Go.RowKit Go.PlainAid

open Go.Shelf
attribute [local go_sem] Oper.semAt_some
abbrev vLs (B3 B2 : Nat) : Value := .func (.func 57) #[] #[.pointer (some ⟨B3, 0, none⟩), .pointer (some ⟨B2, 0, none⟩)]
/-- the counts, and the two boxes of the sequence and its list -/
structure Ls (s0 B2 B3 : Nat) (vl : Value) (l : List Pr) (a0 a1 a2 : Nat) (W : World) : Prop where
  sn : W.heap[s0]? = some (.cells [.int .i64 (a0 : Int), .int .i64 (a1 : Int), .int .i64 (a2 : Int)].toArray 54 (0, 0))
  b3 : W.heap[B3]? = some (.cells #[.pointer (some ⟨s0, 0, none⟩)] 57 (0, 0))
  b2 : W.heap[B2]? = some (.cells #[vl] 25 (0, 0))
  rd : Rd encP 2 W vl l
  off : ∀ k, vl.ownBlock = some k → l ≠ [] → k < s0
theorem Cn.ls {s0 Bw By B2 B3 lp : Nat} {vl : Value} {l : List Pr} {a0 a1 a2 : Nat} {b : Bool} {W : World} (h : Cn s0 Bw By B2 B3 lp vl l a0 a1 a2 b W) : Ls s0 B2 B3 vl l a0 a1 a2 W := ⟨h.sn, h.b3, h.b2, h.rd, h.off⟩
theorem Ls.keep0 {s0 B2 B3 : Nat} {vl : Value} {l : List Pr} {a0 a1 a2 : Nat} {W W' : World} (h : Ls s0 B2 B3 vl l a0 a1 a2 W) (k : Keep [] W W') : Ls s0 B2 B3 vl l a0 a1 a2 W' := by
  have g : ∀ (x : Nat) (o : Obj), W.heap[x]? = some o → W'.heap[x]? = some o := fun x o hx => (k.block x (Array.getElem?_eq_some_iff.1 hx).1 (by simp)).trans hx
  exact ⟨g _ _ h.sn, g _ _ h.b3, g _ _ h.b2, h.rd.keep k (Off.nil _), h.off⟩
theorem Ls.frg {s0 B2 B3 : Nat} {vl : Value} {l : List Pr} {a0 a1 a2 : Nat} {W W' : World} {X : List Nat} {N : Nat} (h : Ls s0 B2 B3 vl l a0 a1 a2 W) (f : FrG X N W W') (hs : s0 < N) (h2 : B2 < N) (h3 : B3 < N) (hX : ∀ x ∈ X, N ≤ x) : Ls s0 B2 B3 vl l a0 a1 a2 W' := by
  have nx : ∀ k, k < N → k ∉ X := fun k hk hm => by have := hX k hm; omega
  exact ⟨f.2 _ _ h.sn (nx _ hs) (.inl hs), f.2 _ _ h.b3 (nx _ h3) (.inl h3), f.2 _ _ h.b2 (nx _ h2) (.inl h2), h.rd.frg f (fun k hk hl => by have := h.off k hk hl; exact ⟨by omega, nx _ (by omega)⟩), h.off⟩
theorem Ls.putObj {s0 B2 B3 : Nat} {vl : Value} {l : List Pr} {a0 a1 a2 : Nat} {W : World} (h : Ls s0 B2 B3 vl l a0 a1 a2 W) (b : Nat) (o : Obj) (hs : s0 < b) (h2 : B2 < b) (h3 : B3 < b) : Ls s0 B2 B3 vl l a0 a1 a2 (W.putObj b o) :=
  h.frg (frg_putObj [b] b W b o (by simp)) hs h2 h3 (by simp)

set_option maxRecDepth 100000 in
set_option maxHeartbeats 4000000 in
theorem steady_any (B3 B2 : Nat) (w : World) : Calls Try.prog 56 #[vLs B3 B2] w fun e w' => e = .returned (.func (.func 71) #[] #[.pointer (some ⟨w.heap.size, 0, none⟩)]) ∧ w' = w.alloc (.cells #[vLs B3 B2] 44) := by
  have heq : ∀ w, Sem.run Try.prog (binOp BinOp.eql 44 (vLs B3 B2) Value.nilFunc) w = .ok (.bool false) w := fun w => rfl
  go_enter Try.func56, Try.ntmps56
  go_wp2
  go_ret
  exact ⟨rfl, rfl⟩
theorem list_any (ao : Option Addr) (n cap : Nat) (s0 : Nat) (w : World) : Calls Try.prog 30 #[.slice ao n cap, .pointer (some ⟨s0, 0, none⟩)] w fun e w' => e = .returned (vLs (w.heap.size + 1) w.heap.size) ∧ w' = (w.alloc (.cells #[.slice ao n cap] 25)).alloc (.cells #[.pointer (some ⟨s0, 0, none⟩)] 57) := by
  go_enter Try.func30, Try.ntmps30
  go_wp2
  go_ret
  exact ⟨rfl, rfl⟩

set_option maxRecDepth 100000 in
set_option maxHeartbeats 4000000 in
theorem steady1_any {lp s0 B1 B2 B3 N B : Nat} {X : List Nat} {vl : Value} {l : List Pr} {J Jx : List Pr → World → Prop} {a0 a1 a2 : Nat} {W : World} (hj : J [] W) (hc : Ls s0 B2 B3 vl l a0 a1 a2 W) (h1 : W.heap[B1]? = some (.cells #[vLs B3 B2] 44 (0, 0))) (ha : a0 ≤ 1099511627776 ∧ a1 ≤ 1099511627776 ∧ a2 + l.length ≤ 1152921504606846976)
    (aJ : Abd s0 B J) (aX : Abd s0 B Jx) (hs : s0 < N) (h2 : B2 < N) (h3 : B3 < N) (hN : N ≤ B) (hB : B ≤ W.heap.size) (hX : ∀ x ∈ X, N ≤ x ∧ x < B)
    (hY : ∀ pre y W1, J pre W1 → pre.length < l.length → YieldAt Fence.wide 4 Try.prog lp #[vP y] W1 fun e W' => (e = .returned (.bool true) ∧ J (pre ++ [y]) W' ∧ FrG X N W1 W') ∨ (e = .returned (.bool false) ∧ Jx (pre ++ [y]) W' ∧ FrG X N W1 W')) :
    Calls Try.prog 71 #[.func (.yield lp) #[] #[], .pointer (some ⟨B1, 0, none⟩)] W fun e W' => (∃ v, e = .returned v) ∧ ((J l W' ∧ Ls s0 B2 B3 vl l (a0 + 1) (a1 + 1) (a2 + l.length) W') ∨ ∃ pre, pre <+: l ∧ Jx pre W' ∧ Ls s0 B2 B3 vl l (a0 + 1) (a1 + 1) (a2 + pre.length) W') := by
  obtain ⟨H, HH⟩ : ∃ H : Nat, Hid (H = W.heap.size) := ⟨_, show _ = _ from rfl⟩
  have T : Tel lp s0 (H + 1) H B2 B3 N B X l J Jx := ⟨aJ, aX, hs, h2, h3, hN, by have := HH.out; omega, by have := HH.out; omega, hX, hY⟩
  have HT : Hid (type_of% T) := T
  have k2 : Keep [] W ((W.alloc (.cells #[.func (.yield lp) #[] #[]] 36)).alloc (.cells #[.bool true] 4)) := (Keep.alloc1 _ _).alloc _
  have hL := hc.keep0 k2
  have HCn : Hid (Cn s0 (H + 1) H B2 B3 lp vl l a0 a1 a2 true ((W.alloc (.cells #[.func (.yield lp) #[] #[]] 36)).alloc (.cells #[.bool true] 4))) := by
    refine ⟨hL.sn, ?_, ?_, hL.b3, hL.b2, hL.rd, hL.off, by have := HH.out; omega⟩
    · have := heap_alloc_new (W.alloc (.cells #[.func (.yield lp) #[] #[]] 36)) (.cells #[.bool true] 4)
      rw [World.size_alloc, ← HH.out] at this
      exact this
    · rw [HH.out]
      exact (Below.heap_alloc _ _ _ (by simp)).trans (heap_alloc_new W _)
  have HJ : Hid (J [] ((W.alloc (.cells #[.func (.yield lp) #[] #[]] 36)).alloc (.cells #[.bool true] 4))) := aJ _ _ _ [] hj k2 (by simp)
  have c1 := (box_cell h1).1
  have z1 := (Array.getElem?_eq_some_iff.1 h1).1
  have HF : Hid (type_of% (list1_any HT.out HJ.out HCn.out ha)) := list1_any HT.out HJ.out HCn.out ha
  clear hj hc h1 ha aJ aX hs h2 h3 hN hX hY T k2 hL HCn HJ hB
  go_enter Try.func71, Try.ntmps71
  go_wp2_with (go_at_call 57; rw [← HH.out]; refine HF.out.mono ?_; clear HF; rintro e w2 ⟨⟨v, rfl⟩, hq⟩; have HQ : Hid (type_of% hq) := hq; obtain ⟨bb, hbb⟩ : ∃ b : Bool, w2.heap[H + 1]? = some (.cells #[.bool b] 4 (0, 0)) := hq.elim (fun h => ⟨_, h.2.bw⟩) (fun ⟨_, h⟩ => ⟨_, h.2.2.bw⟩); obtain ⟨d1, f1⟩ := box_cell hbb; have HBB : Hid (type_of% hbb) := hbb; clear hq hbb)
  go_end0
  have kk := Keep.set1 w2 ⟨H + 1, 0, none⟩ (.bool false)
  have st : ∀ r ∈ [H + 1], StB s0 B w2 r := fun r hr => by simp at hr; subst hr; exact .inr ⟨HT.out.hw, _, HBB.out⟩
  rcases HQ.out with ⟨h1, h2⟩ | ⟨pre, hp, h1, h2⟩
  · exact ⟨⟨_, rfl⟩, .inl ⟨HT.out.aJ _ _ _ _ h1 kk st, (h2.setW false).ls⟩⟩
  · exact ⟨⟨_, rfl⟩, .inr ⟨pre, hp, HT.out.aX _ _ _ _ h1 kk st, (h2.setW false).ls⟩⟩

/-- what bears such a list is a sequence that tells it -/
theorem steady_seq {w : World} {s0 B1 B2 B3 N : Nat} {vl : Value} {l : List Pr} {a0 a1 a2 : Nat} (hc : Ls s0 B2 B3 vl l a0 a1 a2 w) (h1 : w.heap[B1]? = some (.cells #[vLs B3 B2] 44 (0, 0))) (hs : s0 < N) (h2 : B2 < N) (h3 : B3 < N) (ha : a0 ≤ 1099511627776 ∧ a1 ≤ 1099511627776 ∧ a2 + l.length ≤ 1152921504606846976) :
    SeqState 71 #[.pointer (some ⟨B1, 0, none⟩)] l [B1] s0 N (fun n W => Ls s0 B2 B3 vl l (a0 + 1) (a1 + 1) (a2 + n) W) w := fun lp B X J Jx W hB hN aJ aX hf hX1 hX2 hX3 hY h0 => by
  refine callsIn_wide.2 (steady1_any h0 (hc.frg hf hs h2 h3 hX1) (hf.2 _ _ h1 (fun hm => hX3 _ hm (by simp)) (.inr (fun c h => by cases h))) ha aJ aX hs h2 h3 hN hB (fun x hx => ⟨hX1 x hx, hX2 x hx⟩) hY)

end Go.Proofs.Ytkelhglflpdpeaa
