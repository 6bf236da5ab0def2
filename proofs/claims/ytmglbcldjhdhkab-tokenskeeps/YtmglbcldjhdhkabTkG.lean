/- What stays true while a quoted text is read. -/
import Derived.Test.YtmglbcldjhdhkabTkF
import Derived.Deep.RegionLaw
import Derived.Laws.BytesString
namespace Go.Proofs.Ytmglbcldjhdhkab
open Go.RowKit Go.PlainAid

theorem push_fold : ∀ (l : List UInt8) (s : ByteArray), (l.map fun x => ((x.toNat : Nat) : Int)).foldl (fun r n => r.push (UInt8.ofNat n.toNat)) s = ⟨s.data ++ l.toArray⟩
  | [], s => by simp
  | x :: r, s => by
    rw [List.map_cons, List.foldl_cons, push_fold r]
    have hx : UInt8.ofNat ((x.toNat : Nat) : Int).toNat = x := by simp
    rw [hx]
    congr 1
    apply Array.ext'
    simp [ByteArray.push]

theorem run_str {w : World} {v : Value} {l : List UInt8} (h : Bs w v l) : (convert 55 9 v).run Try.prog w = .ok (.string (ba l)) w := by
  have key : ∀ (a : Addr) (cap : Nat), (∀ j u, (bv l)[j]? = some u → w.cell? (a.add j) = some u) → (convert 55 9 (.slice (some a) l.length cap)).run Try.prog w = .ok (.string (ba l)) w := by
    intro a cap hc
    rw [run_convert_bytes_string w 55 9 5 _ _ _ underS Try.underlying5 Try.underlying9]
    have hld : (loadCells a l.length).run Try.prog w = .ok ((l.map fun x => ((x.toNat : Nat) : Int)).map (Value.int .u8)).toArray w := by
      have := run_loadCells_list (P := Try.prog) w a (bv l) hc
      rw [bv_length] at this
      rw [this]
      simp [bv, Function.comp_def]
    rw [run_bytesToString w a l.length cap _ hld, push_fold]
    simp [ba]
  rcases h.cases with ⟨rfl, ao, cap, rfl, _, _⟩ | ⟨_, b, o, cap, rfl, _, _, _, hc⟩
  · cases ao with
    | none =>
      rw [run_convert_bytes_string w 55 9 5 _ _ _ underS Try.underlying5 Try.underlying9]
      rfl
    | some a => exact key a cap (fun j u hj => by simp [bv] at hj)
  · refine key _ cap (fun j u hu => ?_)
    have hj : j < l.length := by
      have := (List.getElem?_eq_some_iff.1 hu).1
      simpa [bv_length] using this
    rw [bv_get l j hj] at hu
    have hadd : (⟨b, o, none⟩ : Addr).add j = ⟨b, o + j, none⟩ := by unfold Addr.add; split <;> simp_all
    rw [hadd, hc j hj, List.getD_eq_getElem?_getD, List.getElem?_eq_getElem hj]
    exact hu

/-- an append as one step of a region whose order is left open -/
theorem step_app {ops : Array Oper} {o : Oper} {a : Act} {w : World} {K : Act → World → Prop} {Q : Exit → Act → World → Prop} {E : Prop} (hg : o.guard = none) (s x : Operand) (t tx : TypeId)
    (ho : o.op = .call { callee := .builtin .append, args := #[s, x], argTypes := #[t, tx] }) (ht : Try.prog.underlying t = some (.slice TB))
    (v : Value) (l : List UInt8) (hv : a.eval s = v) (hown : Row w v l) (u : Value) (r : List UInt8) (hu : a.eval x = u) (hs : Src Try.prog 1 tx u r.length (bv r) w)
    (hbytes : l.length + r.length ≤ 140737488355328)
    (h : ∀ v' w', Row w' v' (l ++ r) → Keep v.ownBlock.toList w w' → (v'.ownBlock = v.ownBlock ∨ Fresh w w' v') → Sl v' (l.length + r.length) → K (a.put o.dst v') w') :
    if Region.wanted o (yielded ops a.tmps) = true then Oper.wp Try.prog o a w K Q else E := by
  have hw : Region.wanted o (yielded ops a.tmps) = true := by simp [Region.wanted, hg]
  rw [if_pos hw]
  obtain ⟨v', w', hr, h1, h2, h3, h4⟩ := run_app w t tx o.type ht v l hown u r hs hbytes
  unfold Oper.wp execOp
  simp only [ho, resolve, invoke, builtin, Sem.run_bind, Sem.run_pure, Result.andThen_ok, List.map_toArray, List.map_cons, List.map_nil, hv, hu, hr]
  exact h v' w' h1 h2 h3 h4

theorem src_mid (w : World) (s : ByteArray) (a b : Nat) : Src Try.prog 1 9 (.string (s.extract a b)) ((s.toList.drop a).take (b - a)).length (bv ((s.toList.drop a).take (b - a))) w := by
  have h := Src.ofString (P := Try.prog) w Try.underlying9 (s.extract a b)
  rw [ext_mid] at h ⊢
  rw [ba_size] at h
  exact h

theorem Uq.keep {B : Nat} {w w' : World} {b : Nat} {st : Int} {d : UInt8} {out : List UInt8} {v : Value} (h : Uq B w b st d out v) {F : List Nat} (k : Keep F w w') (hb : b ∉ F) (hF : ∀ x ∈ F, x < B) : Uq B w' b st d out v :=
  ⟨(k.block b h.lt hb).trans h.box, h.row.keep k (fun x hx hm => by have := h.far x hx; have := hF x hm; omega), h.far⟩

/-- where the reading stands: place, where the piece that isn't taken over yet begins, state, high digit, what was taken over, what was read -/
structure Qi (w wr : World) (s : ByteArray) (pos frm : Nat) (st : Int) (d : UInt8) (out acc : List UInt8) (v : Value) : Prop where
  box : wr.heap[w.heap.size]? = some zeroFd
  uq : Uq (w.heap.size + 3) wr (w.heap.size + 1) st d out v
  it : wr.heap[w.heap.size + 2]? = some (.stringIter s pos)
  keep : Keep [] w wr
  fp : frm ≤ pos
  pp : pos ≤ s.size
  acc0 : st = 0 → acc = out ++ (s.toList.drop frm).take (pos - frm)
  acc1 : st ≠ 0 → acc = out
  sts : st = 0 ∨ st = 1 ∨ st = 2 ∨ st = 3
  len : out.length ≤ frm
  f1 : 1 ≤ frm
  go : qGo 0 0 [] (s.toList.drop 1) = ((qGo st d acc (s.toList.drop pos)).1, (qGo st d acc (s.toList.drop pos)).2 + (pos - 1))

abbrev zeroUq : Obj := .cells #[.int .i64 0, .slice none 0 0, .int .u8 0] 78 (0, 0)
structure Qz (w wr : World) (s : ByteArray) (pos : Nat) : Prop where
  box : wr.heap[w.heap.size]? = some zeroFd
  uq : Uq (w.heap.size + 3) wr (w.heap.size + 1) 0 0 [] (.slice none 0 0)
  it : wr.heap[w.heap.size + 2]? = some (.stringIter s pos)
  keep : Keep [] w wr
theorem Qz.start (w : World) (s : ByteArray) : Qz w (((w.alloc zeroFd).alloc zeroUq).iter s 0) s 0 := by
  have e1 : ((w.alloc zeroFd).alloc zeroUq).heap.size = w.heap.size + 2 := by simp
  have k1 : Keep [] (w.alloc zeroFd) (((w.alloc zeroFd).alloc zeroUq).iter s 0) := (Keep.alloc1 _ _).alloc _
  have k2 : Keep [] ((w.alloc zeroFd).alloc zeroUq) (((w.alloc zeroFd).alloc zeroUq).iter s 0) := Keep.alloc1 _ _
  refine ⟨(k1.block _ (by simp) (by simp)).trans (heap_alloc_new w _), ⟨?_, Row.nil _, fun k hk => by simp [Value.ownBlock] at hk⟩, ?_, (Keep.alloc1 w _).trans' k1⟩
  · have := heap_alloc_new (w.alloc zeroFd) zeroUq
    rw [show (w.alloc zeroFd).heap.size = w.heap.size + 1 by simp] at this
    exact (k2.block _ (by rw [e1]; omega) (by simp)).trans this
  · have := World.iter_heap ((w.alloc zeroFd).alloc zeroUq) s 0
    rw [e1] at this
    exact this
theorem Qz.next {w wr : World} {s : ByteArray} {pos : Nat} (h : Qz w wr s pos) (p : Nat) : Qz w (wr.iterAt (w.heap.size + 2) s p) s p := by
  have k : Keep [w.heap.size + 2] wr (wr.iterAt (w.heap.size + 2) s p) := (Keep.refl _ _).iterAt (.inl (by simp)) s p
  exact ⟨(Lib.iterAt_other wr _ _ s p (by omega)).trans h.box, h.uq.keep k (by simp) (by simp), Lib.iterAt_heap wr _ s pos p h.it, h.keep.iterAt (.inr (by omega)) s p⟩
theorem Qz.first {w wr : World} {s : ByteArray} (h : Qz w wr s 1) (hs : 1 ≤ s.size) : Qi w wr s 1 1 0 0 [] [] (.slice none 0 0) :=
  ⟨h.box, h.uq, h.it, h.keep, Nat.le_refl _, hs, fun _ => by simp, fun h => absurd rfl h, .inl rfl, by simp, Nat.le_refl _, by simp⟩

/-- the iterator alone has gone on -/
structure Qw (w W : World) (s : ByteArray) (p : Nat) (st : Int) (d : UInt8) (out : List UInt8) (v : Value) : Prop where
  box : W.heap[w.heap.size]? = some zeroFd
  uq : Uq (w.heap.size + 3) W (w.heap.size + 1) st d out v
  it : W.heap[w.heap.size + 2]? = some (.stringIter s p)
  keep : Keep [] w W
theorem Qi.next {w wr : World} {s : ByteArray} {pos frm : Nat} {st : Int} {d : UInt8} {out acc : List UInt8} {v : Value} (h : Qi w wr s pos frm st d out acc v) (p : Nat) : Qw w (wr.iterAt (w.heap.size + 2) s p) s p st d out v := by
  have k : Keep [w.heap.size + 2] wr (wr.iterAt (w.heap.size + 2) s p) := (Keep.refl _ _).iterAt (.inl (by simp)) s p
  exact ⟨(Lib.iterAt_other wr _ _ s p (by omega)).trans h.box, h.uq.keep k (by simp) (by simp), Lib.iterAt_heap wr _ s pos p h.it, h.keep.iterAt (.inr (by omega)) s p⟩
theorem Qw.lt {w W : World} {s : ByteArray} {p : Nat} {st : Int} {d : UInt8} {out : List UInt8} {v : Value} (h : Qw w W s p st d out v) : w.heap.size + 3 ≤ W.heap.size := (Array.getElem?_eq_some_iff.1 h.it).1
/-- the quoted text has been changed, all else below is as it was -/
theorem Qw.after {w W W' : World} {s : ByteArray} {p : Nat} {st st' : Int} {d d' : UInt8} {out out' : List UInt8} {v v' : Value} (h : Qw w W s p st d out v) (k : Kp (w.heap.size + 3) (w.heap.size + 1) W W') (u : Uq (w.heap.size + 3) W' (w.heap.size + 1) st' d' out' v') : Qw w W' s p st' d' out' v' := by
  refine ⟨(k.block _ (by omega) (by omega)).trans h.box, u, (k.block _ (by omega) (by omega)).trans h.it, ?_⟩
  exact ⟨k.os.trans h.keep.os, k.tape.trans h.keep.tape, k.output.trans h.keep.output, Nat.le_trans h.keep.size k.size, fun i hi _ => (k.block i (by omega) (by omega)).trans (h.keep.block i hi (by simp))⟩
theorem Qw.pos {w W : World} {s : ByteArray} {p : Nat} {st : Int} {d : UInt8} {out : List UInt8} {v : Value} (h : Qw w W s p st d out v) : W.iterPos (w.heap.size + 2) = p := by simp [World.iterPos, h.it]

/-- bytes that stand for themselves -/
theorem qGo_plain : ∀ (xs t acc : List UInt8) (d : UInt8), (∀ x ∈ xs, 128 ≤ x.toNat) → qGo 0 d acc (xs ++ t) = ((qGo 0 d (acc ++ xs) t).1, (qGo 0 d (acc ++ xs) t).2 + xs.length)
  | [], t, acc, d, _ => by simp
  | x :: xs, t, acc, d, h => by
    have hx := h x (by simp)
    have h34 : x ≠ 34 := by intro e; subst e; simp at hx
    have h92 : x ≠ 92 := by intro e; subst e; simp at hx
    have ih := qGo_plain xs t (acc ++ [x]) d (fun y hy => h y (by simp [hy]))
    rw [List.cons_append, qGo, if_neg (by simp [h34])]
    have hq : qStep 0 d acc x = some (0, d, acc ++ [x]) := by
      unfold qStep
      rw [if_pos rfl, if_neg h34, if_neg h92, if_neg (by omega)]
    simp only [hq, ih, List.append_assoc, List.singleton_append, List.length_cons]
    rfl
theorem qGo_step {st : Int} {d : UInt8} {acc : List UInt8} {c : UInt8} {t : List UInt8} {st' : Int} {d' : UInt8} {acc' : List UInt8} (h : ¬ (st = 0 ∧ c = 34)) (hq : qStep st d acc c = some (st', d', acc')) : qGo st d acc (c :: t) = ((qGo st' d' acc' t).1, (qGo st' d' acc' t).2 + 1) := by
  rw [qGo, if_neg h, hq]
theorem qGo_none {st : Int} {d : UInt8} {acc : List UInt8} {c : UInt8} {t : List UInt8} (h : ¬ (st = 0 ∧ c = 34)) (hq : qStep st d acc c = none) : qGo st d acc (c :: t) = (none, 0) := by
  rw [qGo, if_neg h, hq]
end Go.Proofs.Ytmglbcldjhdhkab

