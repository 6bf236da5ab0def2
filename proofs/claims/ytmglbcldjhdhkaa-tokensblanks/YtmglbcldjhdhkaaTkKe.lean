/- The gaps that TokensBlanks lays, and the rows of lines and columns. -/
import Derived.Test.YtmglbcldjhdhkaaTkKd
import Derived.Test.YtmglbcldjhdhkaaTkC3
namespace Go.Proofs.Ytmglbcldjhdhkaa
open Go.RowKit Go.PlainAid

def slashB (P : List TokD) (i : Nat) : Bool := match P[i - 1]? with
  | some t => oneL t == [47]
  | none => false
def gapB (P : List TokD) (gs : List Int) (i : Nat) : List UInt8 :=
  if 0 < i ∨ (gs.getD i 0).tmod 3 ≠ 0 then (if 0 < i ∧ slashB P i = true then [32] else []) ++ fillK (gs.getD i 0) else []
theorem fillK_ok (k : Int) : gapOk (fillK k) ∧ (fillK k).length ≤ 8 ∧ ∃ c g, fillK k = c :: g ∧ nm c = false ∧ c ≠ 46 ∧ c ≠ 61 := fill_ok _
theorem gapB_ok (P : List TokD) (gs : List Int) (i : Nat) : gapOk (gapB P gs i) ∧ (gapB P gs i).length ≤ 9 := by
  obtain ⟨h1, h2, _⟩ := fillK_ok (gs.getD i 0)
  unfold gapB
  split
  · split
    · exact ⟨gap_blank (by decide) h1, by rw [List.length_append, List.length_singleton]; omega⟩
    · exact ⟨h1, by rw [List.nil_append]; omega⟩
  · exact ⟨gap_nil, by simp⟩
theorem gapB_stop (P : List TokD) (gs : List Int) (i : Nat) (h : i < P.length) (r : List UInt8) : stopR (oneL P[i]) (gapB P gs (i + 1) ++ r) := by
  obtain ⟨_, _, c, g, e, h1, h2, h3⟩ := fillK_ok (gs.getD (i + 1) 0)
  have hs : slashB P (i + 1) = (oneL P[i] == [47]) := by
    unfold slashB
    rw [Nat.add_sub_cancel, List.getElem?_eq_getElem h]
  unfold gapB
  rw [if_pos (.inl (by omega)), hs]
  by_cases hb : oneL P[i] = [47]
  · rw [if_pos ⟨by omega, by simp [hb]⟩]
    intro d r' er
    simp only [List.cons_append, List.nil_append, List.cons.injEq] at er
    obtain ⟨rfl, _⟩ := er
    exact ⟨by decide, by decide, by decide, by intro _; decide⟩
  · rw [if_neg (by simp [hb]), e]
    intro d r' er
    simp only [List.nil_append, List.cons_append, List.cons.injEq] at er
    obtain ⟨rfl, _⟩ := er
    exact ⟨h1, h2, h3, fun e => absurd e hb⟩
theorem txt_len (G : Nat → List UInt8) (P : List TokD) (hg : ∀ i, (G i).length ≤ 9) : ∀ i, i ≤ P.length → (txtG G P i).length ≤ 9 * i + (joinL (P.take i)).length
  | 0, _ => by simp [txtG, itemsG, weave]
  | i + 1, h => by
    have ih := txt_len G P hg i (by omega)
    have := hg i
    rw [txt_next G P i (by omega), join_next P i (by omega)]
    split
    · rename_i e
      subst e
      have h0 : (txtG G P 0).length = 0 := by simp [txtG, itemsG, weave]
      rw [List.length_append, List.length_append]
      omega
    · rw [List.length_append, List.length_append, List.length_append, List.length_cons]
      omega
theorem txt_le (G : Nat → List UInt8) (P : List TokD) (hg : ∀ i, (G i).length ≤ 9) (i : Nat) (h : i ≤ P.length) : (txtG G P i).length ≤ 9 * i + (joinL P).length :=
  Nat.le_trans (txt_len G P hg i h) (Nat.add_le_add_left (join_mono P i) _)
def plcG (G : Nat → List UInt8) (P : List TokD) (i : Nat) : Nat × Nat := adv (1, 1) (txtG G P i ++ G i)
theorem weave_plc (G : Nat → List UInt8) (P : List TokD) (i : Nat) (h : i ≤ P.length) : ∃ t, (weaveT (1, 1) (itemsG G 0 P) (G P.length))[i]? = some t ∧ t.line = ((plcG G P i).1 : Int) ∧ t.col = ((plcG G P i).2 : Int) := by
  by_cases h2 : i < P.length
  · have := weaveT_at G P (G P.length) (1, 1) 0 i h2
    rw [Nat.zero_add] at this
    exact ⟨_, this, rfl, rfl⟩
  · have e : i = P.length := by omega
    subst e
    have := weaveT_end G P (G P.length) (1, 1) 0
    refine ⟨_, this, ?_, ?_⟩
    all_goals
      unfold plcG txtG
      rw [List.take_length]
theorem ba_app (x y : List UInt8) : ba x ++ ba y = ba (x ++ y) := ba_of (by
  rw [ByteArray.toList_eq]
  simp [ba])

theorem infoI : (Try.prog.info? 3).map (fun i => (i.zero, i.size, i.bytes)) = some (some (.int .i64 0), 1, 8) := by kernel_rfl
def intC (l : List Nat) : List Value := l.map fun (x : Nat) => .int .i64 (x : Int)
theorem intC_snoc (l : List Nat) (x : Nat) : intC (l ++ [x]) = intC l ++ [.int .i64 (x : Int)] := by simp [intC]
abbrev RowN (w : World) (v : Value) (l : List Nat) : Prop := RowC w 3 1 v l.length (intC l)
theorem src_int {W : World} {g : Nat} (x : Int) (h : W.heap[g]? = some (.cells #[.int .i64 x] 3 (0, 0))) : Src Try.prog 1 42 (.slice (some ⟨g, 0, none⟩) 1 1) 1 [.int .i64 x] W := by
  refine Src.ofSlice _ Try.underlying42 ⟨g, 0, none⟩ 1 1 [.int .i64 x] rfl (fun j u hu => ?_) (fun u hu => ?_)
  · have hadd : (⟨g, 0, none⟩ : Addr).add j = ⟨g, 0 + j, none⟩ := by unfold Addr.add; split <;> simp_all
    rw [hadd, Nat.zero_add, (box_cell h j).1]
    simpa using hu
  · simp at hu
    subst hu
    rfl
theorem RowN.slice {w : World} {v : Value} {l : List Nat} (h : RowN w v l) : ∃ a c, v = .slice a l.length c := by
  rcases RowC.cases h with ⟨h0, _, e⟩ | ⟨g, cap, e, _, _, _, hc, _⟩
  · exact ⟨none, 0, by rw [e, h0]⟩
  · exact ⟨_, _, e⟩
theorem RowN.at {w : World} {a : Option Addr} {n c : Nat} {l : List Nat} (h : RowN w (.slice a n c) l) (i : Nat) (hi : i < l.length) : ∃ g, a = some ⟨g, 0, none⟩ ∧ w.cell? ⟨g, i, none⟩ = some (.int .i64 (l[i] : Int)) := by
  rcases RowC.cases h with ⟨h0, _⟩ | ⟨g, cap, e, _, _, _, hc, _⟩
  · omega
  · simp only [Value.slice.injEq] at e
    obtain ⟨rfl, rfl, rfl⟩ := e
    refine ⟨g, rfl, ?_⟩
    rw [hc i (by omega)]
    simp [intC, List.getElem?_eq_getElem hi]

/-- the lines and the columns of the first i places -/
def linL (f : Nat → Nat × Nat) (i : Nat) : List Nat := (List.range i).map fun j => (f j).1
def colL (f : Nat → Nat × Nat) (i : Nat) : List Nat := (List.range i).map fun j => (f j).2
theorem linL_len (f : Nat → Nat × Nat) (i : Nat) : (linL f i).length = i := by simp [linL]
theorem colL_len (f : Nat → Nat × Nat) (i : Nat) : (colL f i).length = i := by simp [colL]
theorem linL_next (f : Nat → Nat × Nat) (i : Nat) : linL f (i + 1) = linL f i ++ [(f i).1] := by simp [linL, List.range_succ]
theorem colL_next (f : Nat → Nat × Nat) (i : Nat) : colL f (i + 1) = colL f i ++ [(f i).2] := by simp [colL, List.range_succ]
structure Bl (f : Nat → Nat × Nat) (w wr : World) (a b : Value) (i : Nat) : Prop where
  r1 : RowC wr 3 1 a i (intC (linL f i))
  r2 : RowC wr 3 1 b i (intC (colL f i))
  keep : Keep [] w wr
  f1 : ∀ x, a.ownBlock = some x → w.heap.size ≤ x
  f2 : ∀ x, b.ownBlock = some x → w.heap.size ≤ x
  ap : ∀ x, a.ownBlock = some x → b.ownBlock ≠ some x
theorem Bl.start (f : Nat → Nat × Nat) (w : World) : Bl f w w (.slice none 0 0) (.slice none 0 0) 0 :=
  ⟨World.ownsRow_nil _ 0 3 1, World.ownsRow_nil _ 0 3 1, Keep.refl _ _, fun x hx => by simp [Value.ownBlock] at hx, fun x hx => by simp [Value.ownBlock] at hx, fun x hx => by simp [Value.ownBlock] at hx⟩
theorem Bl.mid {f : Nat → Nat × Nat} {w wr W w9 : World} {a b v9 : Value} {i : Nat} (h : Bl f w wr a b i) (k : Keep [] wr W) (O1 O2 : Obj) (K9 : Keep a.ownBlock.toList (W.alloc O1) w9)
    (_F9 : v9.ownBlock = a.ownBlock ∨ Fresh (W.alloc O1) w9 v9) : RowC (w9.alloc O2) 3 1 b i (intC (colL f i)) :=
  RowC.keep (RowC.keep (RowC.keep h.r2 (k.alloc O1) (Off.nil _)) K9 (fun x hx hm => by
    have : a.ownBlock = some x := by simpa using hm
    exact h.ap x this hx)) (Keep.alloc1 w9 O2) (Off.nil _)
theorem Bl.next {f : Nat → Nat × Nat} {w wr W w9 w8 : World} {a b v9 v8 : Value} {i : Nat} (h : Bl f w wr a b i) (k : Keep [] wr W) (O1 O2 : Obj)
    (R9 : RowC w9 3 1 v9 (i + 1) (intC (linL f i) ++ [.int .i64 ((f i).1 : Int)])) (K9 : Keep a.ownBlock.toList (W.alloc O1) w9) (F9 : v9.ownBlock = a.ownBlock ∨ Fresh (W.alloc O1) w9 v9)
    (R8 : RowC w8 3 1 v8 (i + 1) (intC (colL f i) ++ [.int .i64 ((f i).2 : Int)])) (K8 : Keep b.ownBlock.toList (w9.alloc O2) w8) (F8 : v8.ownBlock = b.ownBlock ∨ Fresh (w9.alloc O2) w8 v8) : Bl f w w8 v9 v8 (i + 1) := by
  have s1 := h.keep.size
  have s2 := k.size
  have s3 := K9.size
  have s4 := K8.size
  simp at s3 s4
  have b2 : ∀ x, b.ownBlock = some x → x < wr.heap.size := fun x hx => RowC.lt h.r2 x hx
  have a2 : ∀ x, a.ownBlock = some x → x < wr.heap.size := fun x hx => RowC.lt h.r1 x hx
  have hf1 : ∀ x, v9.ownBlock = some x → w.heap.size ≤ x := fun x hx => by
    rcases F9 with e | e
    · rw [e] at hx; exact h.f1 x hx
    · have := (e x hx).1; simp at this; omega
  have hf2 : ∀ x, v8.ownBlock = some x → w.heap.size ≤ x := fun x hx => by
    rcases F8 with e | e
    · rw [e] at hx; exact h.f2 x hx
    · have := (e x hx).1; simp at this; omega
  have hap0 : ∀ x, v9.ownBlock = some x → b.ownBlock ≠ some x := fun x hx hb => by
    rcases F9 with e | e
    · rw [e] at hx; exact h.ap x hx hb
    · have := (e x hx).1; have := b2 x hb; simp at *; omega
  refine ⟨?_, ?_, ?_, hf1, hf2, fun x hx hb => ?_⟩
  · rw [linL_next, intC_snoc]
    exact RowC.keep R9 ((Keep.alloc1 w9 O2).mono (by simp) |>.trans' K8) (fun x hx hm => hap0 x hx (by simpa using hm))
  · rw [colL_next, intC_snoc]; exact R8
  · refine ((h.keep.trans' (k.alloc O1)).more K9 (fun x hx => .inr (h.f1 x (by simpa using hx)))).more ((Keep.alloc1 w9 O2).mono (by simp) |>.trans' K8) (fun x hx => .inr (h.f2 x (by simpa using hx)))
  · rcases F8 with e | e
    · rw [e] at hb; exact hap0 x hx hb
    · have h1 := (e x hb).1
      have h2 := RowC.lt R9 x hx
      simp at h1
      omega
end Go.Proofs.Ytmglbcldjhdhkaa
