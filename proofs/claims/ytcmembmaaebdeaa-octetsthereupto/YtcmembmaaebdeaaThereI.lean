/- What stays true while things are written into one Writer, and the places behind each are noted; and while they are read of two Readers. -/
import Derived.Test.YtcmembmaaebdeaaMuchW
import Derived.Test.YtcmembmaaebdeaaBackW
import Derived.Test.YtcmembmaaebdeaaIntW
import Derived.Test.YtcmembmaaebdeaaAwakeW
namespace Go.Proofs.Ytcmembmaaebdeaa
open Go.RowKit Go.PlainAid Go.Lib

structure Inv1 (w wr : World) (g : Nat) (l : List UInt8) (rb : Option Nat) (ev : Value) (es : List Int) : Prop where
  out : Wr wr g 0 l rb
  row : RowI wr ev es
  keep : Keep [] w wr
  gn : w.heap.size ≤ g
  gl : g < wr.heap.size
  rn : ∀ x, rb = some x → w.heap.size ≤ x
  off : Off ev (g :: rb.toList)
  en : ∀ x, ev.ownBlock = some x → w.heap.size ≤ x

theorem Wr.rlt {w : World} {b o : Nat} {l : List UInt8} {rb : Option Nat} (h : Wr w b o l rb) : ∀ x, rb = some x → x < w.heap.size := by
  obtain ⟨_, _, v, _, rfl, hr⟩ := h.ex
  exact hr.lt

theorem Inv1.same {w wr w5 : World} {g : Nat} {l : List UInt8} {rb : Option Nat} {ev : Value} {es : List Int} (h : Inv1 w wr g l rb ev es) (k : Keep [] wr w5) : Inv1 w w5 g l rb ev es :=
  ⟨h.out.keep k (by simp) (fun _ _ => by simp), h.row.keep k (Off.nil _), h.keep.trans' k, h.gn, Nat.lt_of_lt_of_le h.gl k.size, h.rn, h.off, h.en⟩

theorem Inv1.write {w wr w6 : World} {g : Nat} {l r : List UInt8} {rb : Option Nat} {ev : Value} {es : List Int} (h : Inv1 w wr g l rb ev es) (k : Wrote wr w6 g 0 l r rb) : ∃ rb', Inv1 w w6 g (l ++ r) rb' ev es := by
  obtain ⟨rb', h1, h2, h3⟩ := k
  refine ⟨rb', h1, h.row.keep h2 h.off, h.keep.more h2 (fun x hx => .inr ?_), h.gn, Nat.lt_of_lt_of_le h.gl h2.size, fun x hx => ?_, fun x hx => ?_, h.en⟩
  · simp at hx
    rcases hx with rfl | hx
    · exact h.gn
    · exact h.rn x hx
  · rcases h3 with h3 | h3
    · exact h.rn x (h3 ▸ hx)
    · exact Nat.le_trans h.keep.size (h3 x hx).1
  · rcases h3 with h3 | h3
    · rw [h3]; exact h.off x hx
    · intro hm
      simp at hm
      rcases hm with hm | hm
      · exact h.off x hx (by simp [hm])
      · have h4 := (h3 x hm).1
        have h5 := h.row.lt x hx
        omega

theorem Inv1.app {w wr w6 : World} {g : Nat} {l : List UInt8} {rb : Option Nat} {ev ev' : Value} {es es' : List Int} {o : Obj} (h : Inv1 w wr g l rb ev es) (hr : RowI w6 ev' es') (k : Keep ev.ownBlock.toList (wr.alloc o) w6)
    (hb : ev'.ownBlock = ev.ownBlock ∨ Fresh (wr.alloc o) w6 ev') : Inv1 w w6 g l rb ev' es' := by
  have h' := h.same (Keep.alloc1 wr o)
  have hoff : ∀ x ∈ ev.ownBlock.toList, x ≠ g ∧ rb ≠ some x ∧ w.heap.size ≤ x := by
    intro x hx
    have hx' : ev.ownBlock = some x := by simpa using hx
    have := h.off x hx'
    simp at this
    exact ⟨this.1, this.2, h.en x hx'⟩
  have hs := k.size
  refine ⟨h'.out.keep k (fun hg => (hoff g hg).1 rfl) (fun x hx hm => (hoff x hm).2.1 hx), hr, h'.keep.more k (fun x hx => .inr (hoff x hx).2.2), h.gn, Nat.lt_of_lt_of_le h'.gl hs, h.rn, fun x hx => ?_, fun x hx => ?_⟩
  · rcases hb with hb | hb
    · exact h.off x (hb ▸ hx)
    · have h1 := (hb x hx).1
      have h2 := h'.gl
      intro hm
      simp at hm
      rcases hm with hm | hm
      · omega
      · have h3 := h'.out.rlt x hm
        omega
  · rcases hb with hb | hb
    · exact h.en x (hb ▸ hx)
    · exact Nat.le_trans h'.keep.size (hb x hx).1

/-- the places behind each of the first i things -/
def endsL (l : List PutD) (i : Nat) : List Int := (List.range i).map fun k => ((bytesAll (l.take (k + 1))).length : Int)
theorem endsL_succ (l : List PutD) (i : Nat) : endsL l (i + 1) = endsL l i ++ [((bytesAll (l.take (i + 1))).length : Int)] := by simp [endsL, List.range_succ]
theorem endsL_len (l : List PutD) (i : Nat) : (endsL l i).length = i := by simp [endsL]
theorem endsL_get (l : List PutD) (n i : Nat) (h : i < (endsL l n).length) : (endsL l n)[i] = ((bytesAll (l.take (i + 1))).length : Int) := by simp [endsL]

theorem bytes_step (l : List PutD) (i : Nat) (h : i < l.length) : bytesAll (l.take (i + 1)) = bytesAll (l.take i) ++ l[i].bytes := by
  rw [take_put l i h, bytesAll_append]
  simp [bytesAll]
theorem bytes_drop (l : List PutD) (i : Nat) (h : i < l.length) : bytesAll (l.drop i) = l[i].bytes ++ bytesAll (l.drop (i + 1)) := by
  rw [List.drop_eq_getElem_cons h]
  rfl
theorem bytes_cut (l : List PutD) (i : Nat) : bytesAll l = bytesAll (l.take i) ++ bytesAll (l.drop i) := by
  rw [← bytesAll_append, List.take_append_drop]

/-- two Readers, the bytes that were told, the places -/
structure Inv2 (w wr : World) (ev v : Value) (es : List Int) (L : List UInt8) (b1 : Nat) (r1 : Option Nat) (b2 : Nat) (r2 : Option Nat) (l1 l2 : List UInt8) : Prop where
  d1 : Rd wr b1 0 l1 0 r1
  d2 : Rd wr b2 0 l2 0 r2
  row : RowI wr ev es
  bs : Row wr v L
  keep : Keep [] w wr
  n1 : w.heap.size ≤ b1
  n2 : w.heap.size ≤ b2
  ne : b1 ≠ b2
  r12 : r1 ≠ some b2
  r21 : r2 ≠ some b1
  offe : Off ev [b1, b2]
  offv : Off v [b1, b2]

theorem Inv2.same {w wr w5 : World} {ev v : Value} {es : List Int} {L l1 l2 : List UInt8} {b1 b2 : Nat} {r1 r2 : Option Nat} (h : Inv2 w wr ev v es L b1 r1 b2 r2 l1 l2) (k : Keep [] wr w5) : Inv2 w w5 ev v es L b1 r1 b2 r2 l1 l2 :=
  ⟨rd_from h.d1 k, rd_from h.d2 k, h.row.keep k (Off.nil _), h.bs.keep k (Off.nil _), h.keep.trans' k, h.n1, h.n2, h.ne, h.r12, h.r21, h.offe, h.offv⟩

theorem Off.sub {v : Value} {F G : List Nat} (h : Off v G) (hs : ∀ x ∈ F, x ∈ G) : Off v F := fun k hk hm => h k hk (hs k hm)

theorem Inv2.back1 {w wr w5 : World} {ev v : Value} {es : List Int} {L l1 l2 l3 : List UInt8} {b1 b2 : Nat} {r1 r2 : Option Nat} (h : Inv2 w wr ev v es L b1 r1 b2 r2 l1 l2) (k : Keep [b1] wr w5) (d : Rd w5 b1 0 l3 0 r1) :
    Inv2 w w5 ev v es L b1 r1 b2 r2 l3 l2 :=
  ⟨d, h.d2.keep k (by simp; exact fun e => h.ne e.symm) (fun x hx hm => by simp at hm; subst hm; exact h.r21 hx), h.row.keep k (h.offe.sub (by simp)), h.bs.keep k (h.offv.sub (by simp)),
    h.keep.more k (fun x hx => by simp at hx; subst hx; exact .inr h.n1), h.n1, h.n2, h.ne, h.r12, h.r21, h.offe, h.offv⟩

theorem Inv2.back2 {w wr w5 : World} {ev v : Value} {es : List Int} {L l1 l2 l3 : List UInt8} {b1 b2 : Nat} {r1 r2 : Option Nat} (h : Inv2 w wr ev v es L b1 r1 b2 r2 l1 l2) (k : Keep [b2] wr w5) (d : Rd w5 b2 0 l3 0 r2) :
    Inv2 w w5 ev v es L b1 r1 b2 r2 l1 l3 :=
  ⟨h.d1.keep k (by simp; exact h.ne) (fun x hx hm => by simp at hm; subst hm; exact h.r12 hx), d, h.row.keep k (h.offe.sub (by simp)), h.bs.keep k (h.offv.sub (by simp)),
    h.keep.more k (fun x hx => by simp at hx; subst hx; exact .inr h.n2), h.n1, h.n2, h.ne, h.r12, h.r21, h.offe, h.offv⟩

/-- one thing is read whole -/
theorem back_whole (b o : Nat) (R : List UInt8) (rb : Option Nat) (p : PutD) (hp : p.Ok) (u : Value) (w : World) (hr : Rd w b o (p.bytes ++ R) 0 rb) (hu : Bs w u p.raw) (hub : p.raw ≠ [] → Off u [b]) (hl : (p.bytes ++ R).length ≤ 140737488355328) (hr1 : p.raw.length ≤ 1073741824) :
    Calls Try.prog 39 #[.pointer (some ⟨b, o, none⟩), p.val u] w fun e w' => e = .returned (.bool true) ∧ Rd w' b o R 0 rb ∧ Keep [b] w w' := by
  have h := back_any b o _ rb p hp u w hr hu hub hl
  obtain ⟨h1, h2⟩ := p.there hp (by omega) R
  rw [h1, h2] at h
  simpa using h

/-- of a shorter beginning it is refused -/
theorem back_short (b o : Nat) (m : Nat) (rb : Option Nat) (p : PutD) (hp : p.Ok) (u : Value) (w : World) (hm : m < p.bytes.length) (hr : Rd w b o (p.bytes.take m) 0 rb) (hu : Bs w u p.raw) (hub : p.raw ≠ [] → Off u [b]) (hl : p.bytes.length ≤ 140737488355328) :
    Calls Try.prog 39 #[.pointer (some ⟨b, o, none⟩), p.val u] w fun e w' => (∃ x, e = .returned (.bool x)) ∧ Rd w' b o (p.bytes.take m) 20 rb ∧ Keep [b] w w' := by
  have h := back_any b o _ rb p hp u w hr hu hub (by rw [List.length_take]; omega)
  rw [p.short hp m hm] at h
  refine h.mono ?_
  rintro e w' ⟨h1, h2, h3⟩
  exact ⟨⟨_, h1⟩, by simpa using h2, h3⟩

theorem RowI.at {w : World} {v : Value} {l : List Int} (h : RowI w v l) (n i : Nat) (hl : l.length = n) (hi : i < l.length) :
    ∃ ge ce, v = .slice (some ⟨ge, 0, none⟩) n ce ∧ n ≤ ce ∧ ce ≤ 9223372036854775807 ∧ ∀ w', RowI w' v l → w'.cell? ⟨ge, i, none⟩ = some (.int .i64 l[i]) := by
  subst hl
  rcases h.cases with ⟨rfl, _⟩ | ⟨ge, ce, rfl, h2, h3, h4⟩
  · simp at hi
  · refine ⟨ge, ce, rfl, h2, h3, fun w' hw' => ?_⟩
    rcases hw'.cases with ⟨rfl, _⟩ | ⟨ge', ce', h1', h2', h3', h4'⟩
    · simp at hi
    · simp only [Value.slice.injEq, Option.some.injEq, Addr.mk.injEq] at h1'
      rw [h1'.1.1]
      exact h4' i hi

/-- the slice of a thing's bytes is of old, the Reader is new -/
theorem off_new {w : World} {u : Value} {l : List UInt8} {b : Nat} (h : Bs w u l) (hb : w.heap.size ≤ b) : l ≠ [] → Off u [b] := fun hl k hk hm => by
  have := h.lt hl k hk
  simp at hm
  omega

/-- one Reader, the places -/
structure Inv3 (w wr : World) (ev : Value) (es : List Int) (b : Nat) (rb : Option Nat) (l : List UInt8) (e : Int) : Prop where
  d : Rd wr b 0 l e rb
  row : RowI wr ev es
  keep : Keep [] w wr
  n : w.heap.size ≤ b
  off : Off ev [b]

theorem Inv3.back {w wr w5 : World} {ev : Value} {es : List Int} {b : Nat} {rb : Option Nat} {l l' : List UInt8} {e e' : Int} (h : Inv3 w wr ev es b rb l e) (k : Keep [b] wr w5) (d : Rd w5 b 0 l' e' rb) : Inv3 w w5 ev es b rb l' e' :=
  ⟨d, h.row.keep k h.off, h.keep.more k (fun x hx => by simp at hx; subst hx; exact .inr h.n), h.n, h.off⟩

theorem cutL (A P T : List UInt8) (n : Nat) (h : A.length + P.length ≤ n) : ((A ++ (P ++ T)).take n).drop A.length = P ++ ((A ++ (P ++ T)).take n).drop (A.length + P.length) := by
  have e : (A ++ (P ++ T)).take n = A ++ (P ++ T.take (n - A.length - P.length)) := by
    rw [List.take_append, List.take_of_length_le (show A.length ≤ n by omega), List.take_append, List.take_of_length_le (show P.length ≤ n - A.length by omega)]
  rw [e, List.drop_left, ← List.append_assoc, ← List.length_append, List.drop_left]
theorem cutS (A P T : List UInt8) (n : Nat) (h0 : A.length ≤ n) (h : n < A.length + P.length) : ((A ++ (P ++ T)).take n).drop A.length = P.take (n - A.length) := by
  rw [List.take_append, List.take_of_length_le h0, List.take_append, show n - A.length - P.length = 0 by omega, List.take_zero, List.append_nil, List.drop_left]

/-- what a beginning of n bytes has left behind the first i things -/
theorem cut_step (l : List PutD) (i n : Nat) (hi : i < l.length) (h : (bytesAll (l.take (i + 1))).length ≤ n) :
    ((bytesAll l).take n).drop (bytesAll (l.take i)).length = l[i].bytes ++ ((bytesAll l).take n).drop (bytesAll (l.take (i + 1))).length := by
  have h1 := bytes_cut l i
  rw [bytes_drop l i hi] at h1
  have h3 := bytes_step l i hi
  rw [h3, List.length_append] at h ⊢
  rw [h1]
  generalize bytesAll (l.take i) = A at h ⊢
  exact cutL _ _ _ n h

theorem cut_short (l : List PutD) (i n : Nat) (hi : i < l.length) (h0 : (bytesAll (l.take i)).length ≤ n) (h : n < (bytesAll (l.take (i + 1))).length) :
    n - (bytesAll (l.take i)).length < l[i].bytes.length ∧ ((bytesAll l).take n).drop (bytesAll (l.take i)).length = l[i].bytes.take (n - (bytesAll (l.take i)).length) := by
  have h1 := bytes_cut l i
  rw [bytes_drop l i hi] at h1
  have h3 := bytes_step l i hi
  rw [h3, List.length_append] at h
  rw [h1]
  generalize bytesAll (l.take i) = A at h h0 ⊢
  exact ⟨by omega, cutS _ _ _ n h0 h⟩

end Go.Proofs.Ytcmembmaaebdeaa
