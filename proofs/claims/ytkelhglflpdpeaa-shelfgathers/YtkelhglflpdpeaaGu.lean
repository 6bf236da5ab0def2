/- A list that counts how far it is gone through. -/
import Derived.Test.YtkelhglflpdpeaaGt
import Derived.Test.YtkelhglflpdpeaaPl

namespace Go.Proofs.Ytkelhglflpdpeaa
open Go.RowKit Go.PlainAid

open Go.Shelf
attribute [local go_sem] Oper.semAt_some
/-- the counts, the two boxes of what bears the sequence, the two boxes of the sequence, and its list -/
structure Cn (s0 Bw By B2 B3 lp : Nat) (vl : Value) (l : List Pr) (a0 a1 a2 : Nat) (b : Bool) (W : World) : Prop where
  sn : W.heap[s0]? = some (.cells [.int .i64 (a0 : Int), .int .i64 (a1 : Int), .int .i64 (a2 : Int)].toArray 54 (0, 0))
  bw : W.heap[Bw]? = some (.cells #[.bool b] 4 (0, 0))
  yl : W.heap[By]? = some (.cells #[.func (.yield lp) #[] #[]] 36 (0, 0))
  b3 : W.heap[B3]? = some (.cells #[.pointer (some ⟨s0, 0, none⟩)] 57 (0, 0))
  b2 : W.heap[B2]? = some (.cells #[vl] 25 (0, 0))
  rd : Rd encP 2 W vl l
  off : ∀ k, vl.ownBlock = some k → l ≠ [] → k < s0
  lt : s0 < Bw

theorem Rd.keepN {F : List Nat} {w w' : World} {v : Value} {l : List Pr} (h : Rd encP 2 w v l) (kp : Keep F w w') (hn : l ≠ [] → Off v F) : Rd encP 2 w' v l := by
  by_cases hl : l = []
  · obtain ⟨ao, cap, e, h1, h2, h3, _⟩ := h.ex
    exact ⟨ao, cap, e, h1, h2, h3, fun h => absurd hl h⟩
  · exact h.keep kp (hn hl)
theorem Rd.frg {X : List Nat} {N : Nat} {W W' : World} {v : Value} {l : List Pr} (h : Rd encP 2 W v l) (f : FrG X N W W') (hn : ∀ k, v.ownBlock = some k → l ≠ [] → k < N ∧ k ∉ X) : Rd encP 2 W' v l := by
  obtain ⟨ao, cap, rfl, h1, h2, h3, h4⟩ := h.ex
  refine ⟨ao, cap, rfl, h1, h2, h3, fun hl => ?_⟩
  obtain ⟨b, o, rfl, hb, hc⟩ := h4 hl
  obtain ⟨n1, n2⟩ := hn b rfl hl
  refine ⟨b, o, rfl, Nat.lt_of_lt_of_le hb f.1, fun j hj i hi => ?_⟩
  rw [← hc j hj i hi]
  have e1 : W.heap[b]? = some W.heap[b] := Array.getElem?_eq_getElem hb
  have e2 := f.2 b _ e1 n2 (.inl n1)
  unfold World.cell?
  simp only [e1, e2]

theorem Cn.frg {s0 Bw By B2 B3 lp : Nat} {vl : Value} {l : List Pr} {a0 a1 a2 : Nat} {b : Bool} {W : World} {W' : World} {X : List Nat} {N : Nat} (h : Cn s0 Bw By B2 B3 lp vl l a0 a1 a2 b W) (f : FrG X N W W') (hs : s0 < N) (h2 : B2 < N) (h3 : B3 < N) (hw : Bw ∉ X) (hy : By ∉ X) (hX : ∀ x ∈ X, N ≤ x) : Cn s0 Bw By B2 B3 lp vl l a0 a1 a2 b W' := by
  have nx : ∀ k, k < N → k ∉ X := fun k hk hm => by have := hX k hm; omega
  exact ⟨f.2 _ _ h.sn (nx _ hs) (.inl hs), f.2 _ _ h.bw hw (.inr (fun c hc => by cases hc)), f.2 _ _ h.yl hy (.inr (fun c hc => by cases hc)), f.2 _ _ h.b3 (nx _ h3) (.inl h3), f.2 _ _ h.b2 (nx _ h2) (.inl h2), h.rd.frg f (fun k hk hl => by have := h.off k hk hl; exact ⟨by omega, nx _ (by omega)⟩), h.off, h.lt⟩
theorem Cn.keep0 {s0 Bw By B2 B3 lp : Nat} {vl : Value} {l : List Pr} {a0 a1 a2 : Nat} {b : Bool} {W : World} {W' : World} (h : Cn s0 Bw By B2 B3 lp vl l a0 a1 a2 b W) (k : Keep [] W W') : Cn s0 Bw By B2 B3 lp vl l a0 a1 a2 b W' := by
  have g : ∀ x o, W.heap[x]? = some o → W'.heap[x]? = some o := fun x o hx => (k.block x (Array.getElem?_eq_some_iff.1 hx).1 (by simp)).trans hx
  exact ⟨g _ _ h.sn, g _ _ h.bw, g _ _ h.yl, g _ _ h.b3, g _ _ h.b2, h.rd.keep k (Off.nil _), h.off, h.lt⟩
theorem no_two {W : World} {x y : Nat} {c c' : Array Value} {t t' : TypeId} (h : W.heap[x]? = some (.cells c t (0, 0))) (h' : W.heap[y]? = some (.cells c' t' (0, 0))) (ht : t ≠ t') : x ≠ y := fun e => by
  subst e
  rw [h] at h'
  cases h'
  exact ht rfl
theorem Cn.setS {s0 Bw By B2 B3 lp : Nat} {vl : Value} {l : List Pr} {a0 a1 a2 : Nat} {b : Bool} {W : World} (h : Cn s0 Bw By B2 B3 lp vl l a0 a1 a2 b W) (k : Nat) (v : Value) {b0 b1 b2 : Nat} (e : [Value.int .i64 (a0 : Int), .int .i64 (a1 : Int), .int .i64 (a2 : Int)].set k v = [.int .i64 (b0 : Int), .int .i64 (b1 : Int), .int .i64 (b2 : Int)]) : Cn s0 Bw By B2 B3 lp vl l b0 b1 b2 b (W.setCell ⟨s0, k, none⟩ v) := by
  have kk := Keep.set1 W ⟨s0, k, none⟩ v
  have g : ∀ (x : Nat) (c : Array Value) (t : TypeId), W.heap[x]? = some (Obj.cells c t (0, 0)) → t ≠ 54 → (W.setCell ⟨s0, k, none⟩ v).heap[x]? = some (.cells c t (0, 0)) := fun x c t hx ht => (kk.block x (Array.getElem?_eq_some_iff.1 hx).1 (by simpa using no_two hx h.sn ht)).trans hx
  refine ⟨?_, g _ _ _ h.bw (by decide), g _ _ _ h.yl (by decide), g _ _ _ h.b3 (by decide), g _ _ _ h.b2 (by decide), h.rd.keepN kk (fun hl x hx hm => by have := h.off x hx hl; simp at hm; omega), h.off, h.lt⟩
  rw [heap_set h.sn, e]
theorem Cn.setW {s0 Bw By B2 B3 lp : Nat} {vl : Value} {l : List Pr} {a0 a1 a2 : Nat} {b : Bool} {W : World} (h : Cn s0 Bw By B2 B3 lp vl l a0 a1 a2 b W) (d : Bool) : Cn s0 Bw By B2 B3 lp vl l a0 a1 a2 d (W.setCell ⟨Bw, 0, none⟩ (.bool d)) := by
  have kk := Keep.set1 W ⟨Bw, 0, none⟩ (.bool d)
  have g : ∀ (x : Nat) (c : Array Value) (t : TypeId), W.heap[x]? = some (Obj.cells c t (0, 0)) → t ≠ 4 → (W.setCell ⟨Bw, 0, none⟩ (.bool d)).heap[x]? = some (.cells c t (0, 0)) := fun x c t hx ht => (kk.block x (Array.getElem?_eq_some_iff.1 hx).1 (by simpa using no_two hx h.bw ht)).trans hx
  refine ⟨g _ _ _ h.sn (by decide), ?_, g _ _ _ h.yl (by decide), g _ _ _ h.b3 (by decide), g _ _ _ h.b2 (by decide), h.rd.keepN kk (fun hl x hx hm => by have := h.off x hx hl; have := h.lt; simp at hm; omega), h.off, h.lt⟩
  exact heap_set (l := [.bool b]) h.bw _
theorem Cn.cells {s0 Bw By B2 B3 lp : Nat} {vl : Value} {l : List Pr} {a0 a1 a2 : Nat} {b : Bool} {W : World} (h : Cn s0 Bw By B2 B3 lp vl l a0 a1 a2 b W) : W.cell? ⟨s0, 0, none⟩ = some (.int .i64 (a0 : Int)) ∧ W.cell? ⟨s0, 1, none⟩ = some (.int .i64 (a1 : Int)) ∧ W.cell? ⟨s0, 2, none⟩ = some (.int .i64 (a2 : Int)) ∧ (∀ k, W.frozen? ⟨s0, k, none⟩ = false) ∧ W.cell? ⟨B3, 0, none⟩ = some (.pointer (some ⟨s0, 0, none⟩)) ∧ W.cell? ⟨B2, 0, none⟩ = some vl :=
  ⟨by unfold World.cell?; rw [h.sn]; rfl, by unfold World.cell?; rw [h.sn]; rfl, by unfold World.cell?; rw [h.sn]; rfl, free_cells h.sn, (box_cell h.b3).1, (box_cell h.b2).1⟩

/-- who is told -/
structure Tel (lp s0 Bw By B2 B3 N B : Nat) (X : List Nat) (l : List Pr) (J Jx : List Pr → World → Prop) : Prop where
  aJ : Abd s0 B J
  aX : Abd s0 B Jx
  hs : s0 < N
  h2 : B2 < N
  h3 : B3 < N
  hN : N ≤ B
  hw : B ≤ Bw
  hy : B ≤ By
  hX : ∀ x ∈ X, N ≤ x ∧ x < B
  hY : ∀ pre y W1, J pre W1 → pre.length < l.length → YieldAt Fence.wide 4 Try.prog lp #[vP y] W1 fun e W' => (e = .returned (.bool true) ∧ J (pre ++ [y]) W' ∧ FrG X N W1 W') ∨ (e = .returned (.bool false) ∧ Jx (pre ++ [y]) W' ∧ FrG X N W1 W')

theorem told72 {lp s0 Bw By B2 B3 N B : Nat} {X : List Nat} {vl : Value} {l : List Pr} {J Jx : List Pr → World → Prop} (T : Tel lp s0 Bw By B2 B3 N B X l J Jx) {a0 a1 a2 : Nat} {W : World} (i : Nat) (hi : i < l.length) (hj : J (l.take i) W) (hc : Cn s0 Bw By B2 B3 lp vl l a0 a1 a2 true W) :
    Calls Try.prog 72 #[vP l[i], .pointer (some ⟨Bw, 0, none⟩), .pointer (some ⟨By, 0, none⟩)] W fun e W' => (e = .returned (.bool true) ∧ J (l.take (i + 1)) W' ∧ Cn s0 Bw By B2 B3 lp vl l a0 a1 a2 true W') ∨ (e = .returned (.bool false) ∧ Jx (l.take (i + 1)) W' ∧ Cn s0 Bw By B2 B3 lp vl l a0 a1 a2 false W') := by
  have ka := Keep.alloc1 W (.cells #[.int .i64 l[i].k, .int .i64 l[i].m] 29)
  have hy := T.hY (l.take i) l[i] _ (T.aJ _ _ _ [] hj ka (by simp)) (by simp; omega)
  rw [List.take_append_getElem hi] at hy
  have nX : ∀ {x}, B ≤ x → x ∉ X := fun hx hm => by have := (T.hX _ hm).2; omega
  have fr : ∀ {W2}, FrG X N (W.alloc (.cells #[.int .i64 l[i].k, .int .i64 l[i].m] 29)) W2 → Cn s0 Bw By B2 B3 lp vl l a0 a1 a2 true W2 := fun f => (hc.keep0 ka).frg f T.hs T.h2 T.h3 (nX T.hw) (nX T.hy) (fun x hx => (T.hX x hx).1)
  refine (kept72 lp Bw By l[i] W (fun b W2 => ((b = true ∧ J (l.take (i + 1)) W2) ∨ (b = false ∧ Jx (l.take (i + 1)) W2)) ∧ Cn s0 Bw By B2 B3 lp vl l a0 a1 a2 true W2) hc.bw hc.yl (fun b W2 h => h.2.bw) (YieldAt.mono hy ?_)).mono ?_
  · rintro e W2 (⟨rfl, h1, h2⟩ | ⟨rfl, h1, h2⟩)
    · exact ⟨true, rfl, .inl ⟨rfl, h1⟩, fr h2⟩
    · exact ⟨false, rfl, .inr ⟨rfl, h1⟩, fr h2⟩
  · rintro e W' ⟨b, W2, rfl, ⟨h, h2⟩, rfl⟩
    have st : ∀ r ∈ [Bw], StB s0 B W2 r := fun r hr => by simp at hr; subst hr; exact .inr ⟨T.hw, _, h2.bw⟩
    rcases h with ⟨rfl, h1⟩ | ⟨rfl, h1⟩
    · exact .inl ⟨rfl, T.aJ _ _ _ _ h1 (Keep.set1 W2 ⟨Bw, 0, none⟩ (.bool true)) st, h2.setW true⟩
    · exact .inr ⟨rfl, T.aX _ _ _ _ h1 (Keep.set1 W2 ⟨Bw, 0, none⟩ (.bool false)) st, h2.setW false⟩
theorem Tel.incJ {lp s0 Bw By B2 B3 N B : Nat} {X : List Nat} {vl : Value} {l : List Pr} {J Jx : List Pr → World → Prop} (T : Tel lp s0 Bw By B2 B3 N B X l J Jx) {a0 a1 a2 : Nat} {b : Bool} {W : World} {pre : List Pr} (hj : J pre W) (hc : Cn s0 Bw By B2 B3 lp vl l a0 a1 a2 b W) (k : Nat) (v : Value) {b0 b1 b2 : Nat}
    (e : [Value.int .i64 (a0 : Int), .int .i64 (a1 : Int), .int .i64 (a2 : Int)].set k v = [.int .i64 (b0 : Int), .int .i64 (b1 : Int), .int .i64 (b2 : Int)]) : J pre (W.setCell ⟨s0, k, none⟩ v).drew ∧ Cn s0 Bw By B2 B3 lp vl l b0 b1 b2 b (W.setCell ⟨s0, k, none⟩ v).drew :=
  ⟨T.aJ _ _ _ [s0] hj (Keep.set1 W ⟨s0, k, none⟩ v).drew (fun r hr => .inl (by simpa using hr)), (hc.setS k v e).keep0 (Keep.refl [] _).drew⟩
theorem Tel.incX {lp s0 Bw By B2 B3 N B : Nat} {X : List Nat} {vl : Value} {l : List Pr} {J Jx : List Pr → World → Prop} (T : Tel lp s0 Bw By B2 B3 N B X l J Jx) {a0 a1 a2 : Nat} {b : Bool} {W : World} {pre : List Pr} (hj : Jx pre W) (hc : Cn s0 Bw By B2 B3 lp vl l a0 a1 a2 b W) (k : Nat) (v : Value) {b0 b1 b2 : Nat}
    (e : [Value.int .i64 (a0 : Int), .int .i64 (a1 : Int), .int .i64 (a2 : Int)].set k v = [.int .i64 (b0 : Int), .int .i64 (b1 : Int), .int .i64 (b2 : Int)]) : Jx pre (W.setCell ⟨s0, k, none⟩ v).drew ∧ Cn s0 Bw By B2 B3 lp vl l b0 b1 b2 b (W.setCell ⟨s0, k, none⟩ v).drew :=
  ⟨T.aX _ _ _ [s0] hj (Keep.set1 W ⟨s0, k, none⟩ v).drew (fun r hr => .inl (by simpa using hr)), (hc.setS k v e).keep0 (Keep.refl [] _).drew⟩

end Go.Proofs.Ytkelhglflpdpeaa
