/- Rows of numbers that lie apart: what is written into one of them leaves the others as they were. -/
import Derived.Test.YtmlpkjeaieljfabLl
import Derived.Deep.RegionWith
import Derived.Deep.QuietTactic
import Derived.BigQuiet
namespace Go.Proofs.Ytmlpkjeaieljfab
namespace Ia
open Go.RowKit Go.PlainAid

abbrev TB : TypeId := 3
abbrev TS : TypeId := 28
theorem underS : Try.prog.underlying TS = some (.slice TB) := Try.underlying28
def bv (l : List Int) : List Value := l.map fun x => .int .i64 x
theorem bv_length (l : List Int) : (bv l).length = l.length := by simp [bv]
theorem bv_append (l r : List Int) : bv (l ++ r) = bv l ++ bv r := by simp [bv]
theorem bv_get (l : List Int) (j : Nat) (h : j < l.length) : (bv l)[j]? = some (.int .i64 l[j]) := by simp [bv, h]
theorem bv_enc (l : List Int) : l.flatMap encI = bv l := by
  induction l with
  | nil => rfl
  | cons a l ih => rw [List.flatMap_cons, ih]; rfl
def Row (w : World) (v : Value) (l : List Int) : Prop := w.ownsRow 0 TB 1 v l.length (bv l)
theorem Row.of {w : World} {v : Value} {l : List Int} (h : Rw 3 encI 1 w v l) : Row w v l := by
  have h2 : RowC w 3 1 v l.length (l.flatMap encI) := h
  rw [bv_enc] at h2
  exact h2
theorem Row.keep {F : List Nat} {w w' : World} {v : Value} {l : List Int} (h : Row w v l) (k : Keep F w w') (hn : Off v F) : Row w' v l := RowC.keep h k hn
theorem Row.lt {w : World} {v : Value} {l : List Int} (h : Row w v l) : ∀ k, v.ownBlock = some k → k < w.heap.size := RowC.lt h
theorem Row.nil (w : World) : Row w (.slice none 0 0) [] := World.ownsRow_nil _ _ _ _
theorem Row.set {w : World} {g cap : Nat} {l : List Int} (h : Row w (.slice (some ⟨g, 0, none⟩) l.length cap) l) (i : Nat) (y : Int) :
    Row (w.setCell ⟨g, i, none⟩ (.int .i64 y)) (.slice (some ⟨g, 0, none⟩) (l.set i y).length cap) (l.set i y) := by
  have h1 := (World.ownsRow.stored h i (.int .i64 y)).1
  have h2 : (bv l).set i (.int .i64 y) = bv (l.set i y) := by simp [bv, List.map_set]
  rw [h2] at h1
  rw [List.length_set]
  show World.ownsRow _ _ _ _ _ (l.set i y).length _
  rw [List.length_set]
  exact h1
theorem Row.src {w : World} {v : Value} {l : List Int} (h : Row w v l) : Src Try.prog 1 28 v l.length (bv l) w := by
  have h1 : ∀ u ∈ bv l, u.oneCell' = true := fun u hu => by
    obtain ⟨t, -, rfl⟩ := List.mem_map.1 hu
    rfl
  rcases RowC.cases h with ⟨h0, hx, hv⟩ | ⟨g, cap, hv, _, _, _, h4, _⟩
  · rw [hv, h0, hx]
    exact Src.ofNil _ Try.underlying28 0
  · rw [hv]
    refine Src.ofSlice _ Try.underlying28 ⟨g, 0, none⟩ _ cap _ (by simp [bv_length]) (fun j u hu => ?_) h1
    have hadd : (⟨g, 0, none⟩ : Addr).add j = ⟨g, 0 + j, none⟩ := by unfold Addr.add; split <;> simp_all
    have hj : j < l.length * 1 := by rw [Nat.mul_one, ← bv_length]; exact (List.getElem?_eq_some_iff.1 hu).1
    rw [hadd, Nat.zero_add, h4 j hj]
    exact hu
theorem src_one (w : World) (x : Int) : Src Try.prog 1 28 (.slice (some ⟨w.heap.size, 0, none⟩) 1 1) [x].length (bv [x]) (w.alloc (.cells #[.int .i64 x] TB)) := src_iz w x
theorem app_fresh {w0 w w' : World} {v v' : Value} {o : Obj} (k : Keep [] w0 w) (f : Fresh w0 w v) (g2 : Keep v.ownBlock.toList (w.alloc o) w') (g3 : v'.ownBlock = v.ownBlock ∨ Fresh (w.alloc o) w' v') : Keep [] w0 w' ∧ Fresh w0 w' v' := by
  have hs : (w.alloc o).heap.size = w.heap.size + 1 := by simp
  have h0 := k.size
  have h2 := g2.size
  refine ⟨(k.alloc o).more g2 (fun x hx => .inr (f x (by simpa using hx)).1), fun x hx => ?_⟩
  rcases g3 with e | e
  · have := f x (by rw [← e]; exact hx)
    omega
  · have := e x hx
    omega
def mkB (k i : Nat) : Int := 1000003 * ((k : Int) + 7) + (i : Int)
theorem markByte_any (k i : Nat) (hk : k ≤ 1000) (hi : i ≤ 140737488355328) (w : World) : Calls Try.prog 24 #[.int .i64 (k : Int), .int .i64 (i : Int)] w fun e w' => e = .returned (.int .i64 (mkB k i)) ∧ w' = w := mark_any k i w (by omega) (by omega)
def marks (k n : Nat) : List Int := (List.range n).map (mkB k)
theorem marks_succ (k n : Nat) : marks k (n + 1) = marks k n ++ [mkB k n] := by simp [marks, List.range_succ]
theorem marks_len (k n : Nat) : (marks k n).length = n := by simp [marks]

/-- the blocks of n slices -/
def blks (n : Nat) (F : Nat → Value) : List Nat := (List.range n).filterMap fun k => (F k).ownBlock
theorem mem_blks {n : Nat} {F : Nat → Value} {x : Nat} : x ∈ blks n F ↔ ∃ k, k < n ∧ (F k).ownBlock = some x := by
  simp [blks]

/-- one place of a function turned -/
def updF {α : Type} (m : Nat → α) (k : Nat) (x : α) : Nat → α := fun j => if j = k then x else m j
theorem updF_at {α : Type} (m : Nat → α) (k : Nat) (x : α) : updF m k x k = x := by simp [updF]
theorem updF_ne {α : Type} (m : Nat → α) (k : Nat) (x : α) {j : Nat} (h : j ≠ k) : updF m k x j = m j := by simp [updF, h]

/-- n rows of bytes of one's own, apart from one another and from the block b that names them -/
structure Ap (w : World) (b n : Nat) (F : Nat → Value) (m : Nat → List Int) : Prop where
  cell : ∀ k, k < n → w.cell? ⟨b, k, none⟩ = some (F k)
  row : ∀ k, k < n → Row w (F k) (m k)
  off : ∀ k, k < n → (F k).ownBlock ≠ some b
  sep : ∀ j k, j < n → k < n → j ≠ k → ∀ x, (F j).ownBlock = some x → (F k).ownBlock ≠ some x

theorem Ap.keep {G : List Nat} {w w' : World} {b n : Nat} {F : Nat → Value} {m : Nat → List Int} (h : Ap w b n F m) (K : Keep G w w') (hb : b ∉ G) (hG : ∀ k, k < n → Off (F k) G) : Ap w' b n F m :=
  ⟨fun k hk => K.cell' (h.cell k hk) hb, fun k hk => (h.row k hk).keep K (hG k hk), h.off, h.sep⟩

/-- one of the rows is written, the others stay -/
theorem Ap.turn {w w' : World} {b n : Nat} {F : Nat → Value} {m : Nat → List Int} (h : Ap w b n F m) (k : Nat) (hk : k < n) (K : Keep (F k).ownBlock.toList w w') (l : List Int) (hr : Row w' (F k) l) : Ap w' b n F (updF m k l) := by
  refine ⟨fun j hj => K.cell' (h.cell j hj) (fun hx => h.off k hk (by simpa using hx)), fun j hj => ?_, h.off, h.sep⟩
  by_cases e : j = k
  · subst e
    rw [updF_at]
    exact hr
  · rw [updF_ne _ _ _ e]
    exact (h.row j hj).keep K (fun x hx hm => h.sep j k hj hk e x hx (by simpa using hm))

theorem Ap.same {w : World} {b n : Nat} {F : Nat → Value} {m m' : Nat → List Int} (h : Ap w b n F m) (e : ∀ k, k < n → m' k = m k) : Ap w b n F m' :=
  ⟨h.cell, fun k hk => by rw [e k hk]; exact h.row k hk, h.off, h.sep⟩

/-- a slice of bytes of one's own: nothing, or an address with its cells -/
theorem Row.cases {w : World} {v : Value} {l : List Int} (h : Row w v l) : (l = [] ∧ v = .slice none 0 0) ∨
    ∃ g cap, v = .slice (some ⟨g, 0, none⟩) l.length cap ∧ l.length ≤ cap ∧ cap ≤ 9223372036854775807 ∧ g < w.heap.size ∧ (∀ j, j < l.length → w.cell? ⟨g, j, none⟩ = some (.int .i64 (l.getD j 0))) ∧ ∀ j, w.frozen? ⟨g, j, none⟩ = false := by
  rcases RowC.cases h with ⟨h0, _, hv⟩ | ⟨g, cap, hv, h1, h2, h3, h4, h5⟩
  · exact .inl ⟨List.eq_nil_of_length_eq_zero h0, hv⟩
  · refine .inr ⟨g, cap, hv, h1, h2, h3, fun j hj => ?_, h5⟩
    rw [h4 j (by omega), bv_get l j hj, List.getD_eq_getElem?_getD, List.getElem?_eq_getElem hj]
    rfl

/-- of two slices of one block, the shorter one reads as it did where the longer one does -/
theorem Row.front {w w2 : World} {u v : Value} {l r : List Int} (hu : Row w u l) (hv : Row w v (l ++ r)) (hb : u.ownBlock = v.ownBlock) (h2 : Row w2 v (l ++ r)) : Row w2 u l := by
  rcases hu.2 with ⟨rfl, hz⟩ | ⟨g, cap, cur, rfl, hbg, hg, hnc, hcm, hcs, htake⟩
  · exact ⟨hu.1, .inl ⟨rfl, hz⟩⟩
  · rcases hv.2 with ⟨rfl, _⟩ | ⟨g', cap', cur', rfl, _, hg', hnc', hcm', hcs', htake'⟩
    · simp [Value.ownBlock] at hb
    · simp [Value.ownBlock] at hb
      subst hb
      rw [hg] at hg'
      simp at hg'
      subst hg'
      have hcc : cap = cap' := by omega
      subst hcc
      rcases h2.2 with ⟨h, _⟩ | ⟨g2, cap2, cur2, he, hb2, hg2, hnc2, hcm2, hcs2, htake2⟩
      · simp at h
      · simp at he
        obtain ⟨rfl, rfl⟩ := he
        refine ⟨hu.1, .inr ⟨g, cap, cur2, rfl, Nat.zero_le _, hg2, hnc, hcm, hcs2, ?_⟩⟩
        have h3 := congrArg (List.take (l.length * 1)) htake2
        rw [List.take_take, Nat.min_eq_left (by simp), bv_append, List.take_append_of_le_length (by simp [bv_length])] at h3
        rw [h3]
        exact List.take_of_length_le (by simp [bv_length])

theorem marks_get (k n i : Nat) (h : i < n) : (marks k n).getD i 0 = mkB k i := by
  simp [marks, List.getD_eq_getElem?_getD, h]
theorem marks_app (k n m : Nat) : ∃ r, marks k (n + m) = marks k n ++ r ∧ r.length = m := by
  refine ⟨(marks k (n + m)).drop n, ?_, by simp [marks_len]⟩
  have h : (marks k (n + m)).take n = marks k n := by
    simp [marks, ← List.map_take, List.take_range]
  rw [← h, List.take_append_drop]
theorem take_set (l : List Int) (i : Nat) (h : i < l.length) (x : Int) : (l.set i x).take (i + 1) = l.take i ++ [x] := by
  rw [List.take_add_one, List.getElem?_eq_getElem (by simpa using h)]
  simp [List.take_set_of_le]


abbrev TSS : TypeId := 41
theorem infoS : (Try.prog.info? TS).map (fun i => (i.zero, i.size, i.bytes)) = some (some (.slice none 0 0), 1, 24) := by kernel_rfl
theorem underSS : Try.prog.underlying TSS = some (.slice TS) := Try.underlying41

/-- the rows below k are marked -/
structure Ph1 (w wr : World) (b n : Nat) (F : Nat → Value) (c : Nat → Nat) (k : Nat) (m : Nat → List Int) : Prop where
  ap : Ap wr b n F m
  len : ∀ j, (m j).length = c j
  don : ∀ j, j < k → m j = marks j (c j)
  kp : Keep (blks n F) w wr

theorem Ph1.step {w wr : World} {b n : Nat} {F : Nat → Value} {c : Nat → Nat} {k : Nat} {m : Nat → List Int} (h : Ph1 w wr b n F c k m) (hk : k < n) {i g cap : Nat} (hi : i < c k) (hF : F k = .slice (some ⟨g, 0, none⟩) (c k) cap) (ht : (m k).take i = marks k i) :
    ∃ m', Ph1 w (wr.setCell ⟨g, i, none⟩ (.int .i64 (mkB k i))) b n F c k m' ∧ (m' k).take (i + 1) = marks k (i + 1) := by
  have hl := h.len k
  have hr := h.ap.row k hk
  rw [hF, ← hl] at hr
  have hr2 := hr.set i (mkB k i)
  rw [List.length_set, hl, ← hF] at hr2
  have hbk : (F k).ownBlock = some g := by rw [hF]; rfl
  have hK : Keep (F k).ownBlock.toList wr (wr.setCell ⟨g, i, none⟩ (.int .i64 (mkB k i))) := by
    rw [hbk]
    exact Keep.set1 wr ⟨g, i, none⟩ _
  refine ⟨updF m k ((m k).set i (mkB k i)), ⟨h.ap.turn k hk hK _ hr2, fun j => ?_, fun j hj => ?_, h.kp.setCell (.inl (mem_blks.2 ⟨k, hk, hbk⟩)) _⟩, ?_⟩
  · by_cases e : j = k
    · subst e
      rw [updF_at, List.length_set, hl]
    · rw [updF_ne _ _ _ e]
      exact h.len j
  · rw [updF_ne _ _ _ (by omega)]
    exact h.don j hj
  · rw [updF_at, take_set _ _ (by omega), ht, marks_succ]

theorem Ph1.next {w wr : World} {b n : Nat} {F : Nat → Value} {c : Nat → Nat} {k : Nat} {m : Nat → List Int} (h : Ph1 w wr b n F c k m) (ht : (m k).take (c k) = marks k (c k)) : Ph1 w wr b n F c (k + 1) m := by
  refine ⟨h.ap, h.len, fun j hj => ?_, h.kp⟩
  by_cases e : j = k
  · subst e
    rw [← ht, List.take_of_length_le (by rw [h.len j]; omega)]
  · exact h.don j (by omega)

/-- what is grown: the slices G below k, each with its bytes q, and the list gv of them -/
structure Gr (w0 wr : World) (gv : Value) (k : Nat) (F G : Nat → Value) (q : Nat → List Int) : Prop where
  row : ∀ j, j < k → Row wr (G j) (q j)
  blk : ∀ j, j < k → (G j).ownBlock = (F j).ownBlock ∨ ∀ x, (G j).ownBlock = some x → w0.heap.size ≤ x
  sep : ∀ i j, i < k → j < k → i ≠ j → ∀ x, (G i).ownBlock = some x → (G j).ownBlock ≠ some x
  gs : RowC wr TS 1 gv k ((List.range k).map G)
  gnew : ∀ x, gv.ownBlock = some x → w0.heap.size ≤ x
  goff : ∀ j, j < k → ∀ x, (G j).ownBlock = some x → gv.ownBlock ≠ some x

/-- all rows are marked, and below k they are grown -/
structure Ph2 (w wr : World) (b n : Nat) (F : Nat → Value) (c : Nat → Nat) (gv : Value) (k : Nat) (G : Nat → Value) (q : Nat → List Int) : Prop where
  ap : Ap wr b n F (fun j => marks j (c j))
  gr : Gr w wr gv k F G q
  kp : Keep (blks n F) w wr
  blt : b < w.heap.size
  flt : ∀ j, j < n → ∀ x, (F j).ownBlock = some x → x < w.heap.size

theorem Ph1.drew {w wr : World} {b n : Nat} {F : Nat → Value} {c : Nat → Nat} {k : Nat} {m : Nat → List Int} (h : Ph1 w wr b n F c k m) : Ph1 w wr.drew b n F c k m :=
  ⟨h.ap.keep ((Keep.refl [] _).drew) (by simp) (fun _ _ => Off.nil _), h.len, h.don, h.kp.drew⟩

theorem Ph2.same {w wr w2 : World} {b n : Nat} {F : Nat → Value} {c : Nat → Nat} {gv : Value} {k : Nat} {G : Nat → Value} {q : Nat → List Int} (h : Ph2 w wr b n F c gv k G q) (K : Keep [] wr w2) : Ph2 w w2 b n F c gv k G q :=
  ⟨h.ap.keep K (by simp) (fun _ _ => Off.nil _), ⟨fun j hj => (h.gr.row j hj).keep K (Off.nil _), h.gr.blk, h.gr.sep, h.gr.gs.keep K (Off.nil _), h.gr.gnew, h.gr.goff⟩, h.kp.more K (fun _ hx => by cases hx), h.blt, h.flt⟩

/-- the list of the grown ones, as it lies -/
theorem Ph2.form {w wr : World} {b n : Nat} {F : Nat → Value} {c : Nat → Nat} {gv : Value} {k : Nat} {G : Nat → Value} {q : Nat → List Int} (h : Ph2 w wr b n F c gv k G q) (hk : 0 < k) :
    ∃ gg gc, gv = .slice (some ⟨gg, 0, none⟩) k gc ∧ k ≤ gc ∧ gc ≤ 9223372036854775807 ∧ (∀ j, j < k → wr.cell? ⟨gg, j, none⟩ = some (G j)) ∧ ∀ j, wr.frozen? ⟨gg, j, none⟩ = false := by
  rcases h.gr.gs.cases with ⟨h0, _⟩ | ⟨g, cap, hv, h1, h2, _, h4, h5⟩
  · omega
  · refine ⟨g, cap, hv, h1, h2, fun j hj => ?_, h5⟩
    rw [h4 j (by omega)]
    simp [hj]

theorem Row.formL {w : World} {v : Value} {l : List Int} (h : Row w v l) (hl : 0 < l.length) :
    ∃ g cap, v = .slice (some ⟨g, 0, none⟩) l.length cap ∧ l.length ≤ cap ∧ cap ≤ 9223372036854775807 ∧ (∀ j, j < l.length → w.cell? ⟨g, j, none⟩ = some (.int .i64 (l.getD j 0))) ∧ ∀ j, w.frozen? ⟨g, j, none⟩ = false := by
  rcases h.cases with ⟨h0, _⟩ | ⟨g, cap, hv, h1, h2, _, h4, h5⟩
  · rw [h0] at hl
    simp at hl
  · exact ⟨g, cap, hv, h1, h2, h4, h5⟩
theorem Row.formA {w : World} {v : Value} {l : List Int} (h : Row w v l) : ∃ ao cap, v = .slice ao l.length cap ∧ l.length ≤ cap ∧ cap ≤ 9223372036854775807 ∧ v.oneCell' = true := by
  rcases h.cases with ⟨h0, hv⟩ | ⟨g, cap, hv, h1, h2, _⟩
  · exact ⟨none, 0, by rw [hv, h0]; rfl, by simp [h0], by omega, by rw [hv]; rfl⟩
  · exact ⟨_, cap, hv, h1, h2, by rw [hv]; rfl⟩

/-- an append to bytes of one's own: what they were before reads as it did -/
theorem wp_app2 {ops : Array Oper} {rest : List Oper} {o : Oper} {a : Act} {w : World} {Q : Exit → Act → World → Prop} (hgd : o.guard = none) (s x : Operand) (t tx : TypeId)
    (ho : o.op = .call { callee := .builtin .append, args := #[s, x], argTypes := #[t, tx] }) (ht : Try.prog.underlying t = some (.slice TB))
    (v : Value) (l : List Int) (hv : a.eval s = v) (hown : Row w v l) (u : Value) (r : List Int) (hu : a.eval x = u) (hs : Src Try.prog 1 tx u r.length (bv r) w)
    (hbytes : l.length + r.length ≤ 17592186044416)
    (h : ∀ v' w', Row w' v' (l ++ r) → Keep v.ownBlock.toList w w' → (v'.ownBlock = v.ownBlock ∨ Fresh w w' v') → Sl v' (l.length + r.length) → Row w' v l → wpList Try.prog ops Q rest (a.put o.dst v') w') : wpList Try.prog ops Q (o :: rest) a w := by
  refine wp_appC infoI rfl hgd s x t tx ho ht v l.length (bv l) hv hown u r.length (bv r) hu hs (by omega) (by simp only [maxLen]; omega) (fun v' w' h1 h2 h3 h4 h5 => h v' w' ?_ h2 h3 h4 h5)
  show World.ownsRow _ _ _ _ _ _ _
  rw [List.length_append, bv_append]
  exact h1

/-- an append to numbers of one's own -/
theorem wp_app {ops : Array Oper} {rest : List Oper} {o : Oper} {a : Act} {w : World} {Q : Exit → Act → World → Prop} (hgd : o.guard = none) (s x : Operand) (t tx : TypeId)
    (ho : o.op = .call { callee := .builtin .append, args := #[s, x], argTypes := #[t, tx] }) (ht : Try.prog.underlying t = some (.slice TB))
    (v : Value) (l : List Int) (hv : a.eval s = v) (hown : Row w v l) (u : Value) (r : List Int) (hu : a.eval x = u) (hs : Src Try.prog 1 tx u r.length (bv r) w)
    (hbytes : l.length + r.length ≤ 17592186044416)
    (h : ∀ v' w', Row w' v' (l ++ r) → Keep v.ownBlock.toList w w' → (v'.ownBlock = v.ownBlock ∨ Fresh w w' v') → Sl v' (l.length + r.length) → wpList Try.prog ops Q rest (a.put o.dst v') w') : wpList Try.prog ops Q (o :: rest) a w :=
  wp_app2 hgd s x t tx ho ht v l hv hown u r hu hs hbytes (fun v' w' h1 h2 h3 h4 _ => h v' w' h1 h2 h3 h4)

theorem srcS (w : World) (v : Value) (hv : v.oneCell' = true) : Src Try.prog 1 TSS (.slice (some ⟨w.heap.size, 0, none⟩) 1 1) 1 [v] (w.alloc (.cells #[v] TS)) := by
  refine Src.ofSlice _ underSS ⟨w.heap.size, 0, none⟩ 1 1 [v] rfl (fun j u hu => ?_) (fun u hu => by simp at hu; rw [hu]; exact hv)
  have hj : j = 0 := by
    have := (List.getElem?_eq_some_iff.1 hu).1
    simpa using this
  subst hj
  simp at hu
  subst hu
  simp [go_sem]

theorem Ph2.zero {w wr : World} {b n : Nat} {F : Nat → Value} {c : Nat → Nat} {m : Nat → List Int} (h : Ph1 w wr b n F c n m) (hb : b < w.heap.size) (hf : ∀ j, j < n → ∀ x, (F j).ownBlock = some x → x < w.heap.size) : Ph2 w wr b n F c (.slice none 0 0) 0 F (fun _ => []) :=
  ⟨h.ap.same (fun k hk => (h.don k hk).symm), ⟨fun j hj => by omega, fun j hj => by omega, fun i j hi => by omega, World.ownsRow_nil _ _ _ _, fun x hx => by simp [Value.ownBlock] at hx, fun j hj => by omega⟩, h.kp, hb, hf⟩

/-- the row k while it is grown, from the world w1 on -/
structure Gw (w1 wr : World) (u v : Value) (k ck i : Nat) : Prop where
  old : Row wr u (marks k ck)
  row : Row wr v (marks k (ck + i))
  kp : Keep u.ownBlock.toList w1 wr
  blk : v.ownBlock = u.ownBlock ∨ Fresh w1 wr v

theorem Gw.step {w1 wr w2 : World} {u v v' : Value} {k ck i : Nat} (h : Gw w1 wr u v k ck i) {o : Obj} (K : Keep v.ownBlock.toList (wr.alloc o) w2) (hv' : v'.ownBlock = v.ownBlock ∨ Fresh (wr.alloc o) w2 v') (hr : Row w2 v' (marks k (ck + (i + 1)))) (hold : Row w2 v (marks k (ck + i))) : Gw w1 w2 u v' k ck (i + 1) := by
  obtain ⟨r, er, _⟩ := marks_app k ck i
  have hs : (wr.alloc o).heap.size = wr.heap.size + 1 := by simp
  have hk1 := h.kp.size
  have hk2 := K.size
  have K1 : Keep u.ownBlock.toList w1 (wr.alloc o) := h.kp.alloc o
  refine ⟨?_, hr, ?_, ?_⟩
  · by_cases e : u.ownBlock = v.ownBlock
    · exact Row.front (w := wr) (r := r) h.old (by rw [← er]; exact h.row) e (by rw [← er]; exact hold)
    · exact (h.old.keep (Keep.alloc1 wr o) (Off.nil _)).keep K (fun x hx hm => e (by rw [hx]; exact (by simpa using hm : v.ownBlock = some x).symm))
  · refine K1.more K (fun x hx => ?_)
    rcases h.blk with e | e
    · exact .inl (by rw [← e]; exact hx)
    · exact .inr (e x (by simpa using hx)).1
  · rcases hv' with e | e
    · rcases h.blk with e2 | e2
      · exact .inl (e.trans e2)
      · refine .inr (fun x hx => ?_)
        have := e2 x (by rw [← e]; exact hx)
        omega
    · refine .inr (fun x hx => ?_)
      have := e x hx
      omega

/-- the slice k has been grown in place or anew: the rest stays -/
theorem Ph2.grown {w w1 wr : World} {b n : Nat} {F : Nat → Value} {c : Nat → Nat} {gv : Value} {k : Nat} {G : Nat → Value} {q : Nat → List Int} (h : Ph2 w w1 b n F c gv k G q) (hk : k < n) {v : Value} {j : Nat} (hw : Gw w1 wr (F k) v k (c k) j) :
    Ph2 w wr b n F c gv k G q ∧ (∀ i, i < k → ∀ x, (G i).ownBlock = some x → v.ownBlock ≠ some x) ∧ (∀ x, gv.ownBlock = some x → v.ownBlock ≠ some x) ∧ (v.ownBlock = (F k).ownBlock ∨ ∀ x, v.ownBlock = some x → w.heap.size ≤ x) := by
  have hs := h.kp.size
  have offG : ∀ i, i < k → Off (G i) (F k).ownBlock.toList := by
    intro i hi x hx hm
    have hm : (F k).ownBlock = some x := by simpa using hm
    rcases h.gr.blk i hi with e | e
    · exact h.ap.sep i k (by omega) hk (by omega) x (by rw [← e]; exact hx) hm
    · have := e x hx
      have := h.flt k hk x hm
      omega
  have offg : Off gv (F k).ownBlock.toList := by
    intro x hx hm
    have hm : (F k).ownBlock = some x := by simpa using hm
    have := h.gr.gnew x hx
    have := h.flt k hk x hm
    omega
  refine ⟨⟨(h.ap.turn k hk hw.kp _ hw.old).same (fun i _ => ?_), ⟨fun i hi => (h.gr.row i hi).keep hw.kp (offG i hi), h.gr.blk, h.gr.sep, h.gr.gs.keep hw.kp offg, h.gr.gnew, h.gr.goff⟩, h.kp.more hw.kp (fun x hx => .inl (mem_blks.2 ⟨k, hk, by simpa using hx⟩)), h.blt, h.flt⟩, fun i hi x hx hv => ?_, fun x hx hv => ?_, ?_⟩
  · by_cases e : i = k
    · subst e
      rw [updF_at]
    · rw [updF_ne _ _ _ e]
  · rcases hw.blk with e | e
    · exact offG i hi x hx (by simp [← e, hv])
    · have h1 := (e x hv).1
      have h2 := (h.gr.row i hi).lt x hx
      omega
  · rcases hw.blk with e | e
    · exact offg x hx (by simp [← e, hv])
    · have h1 := (e x hv).1
      have h2 := h.gr.gs.lt x hx
      omega
  · rcases hw.blk with e | e
    · exact .inl e
    · exact .inr (fun x hx => by have := (e x hx).1; omega)

/-- and is put behind the others -/
theorem Ph2.next {w wr w2 : World} {b n : Nat} {F : Nat → Value} {c : Nat → Nat} {gv gv' : Value} {k : Nat} {G : Nat → Value} {q : Nat → List Int} {v : Value} {l : List Int} {o : Obj} (h : Ph2 w wr b n F c gv k G q) (_hk : k < n)
    (hv : Row wr v l) (h1 : ∀ i, i < k → ∀ x, (G i).ownBlock = some x → v.ownBlock ≠ some x) (h2 : ∀ x, gv.ownBlock = some x → v.ownBlock ≠ some x) (h3 : v.ownBlock = (F k).ownBlock ∨ ∀ x, v.ownBlock = some x → w.heap.size ≤ x)
    (R : RowC w2 TS 1 gv' (k + 1) ((List.range k).map G ++ [v])) (K : Keep gv.ownBlock.toList (wr.alloc o) w2) (hg' : gv'.ownBlock = gv.ownBlock ∨ Fresh (wr.alloc o) w2 gv') : Ph2 w w2 b n F c gv' (k + 1) (updF G k v) (updF q k l) := by
  have hsz : (wr.alloc o).heap.size = wr.heap.size + 1 := by simp
  have hs := h.kp.size
  have hK2 := K.size
  have K1 : Keep gv.ownBlock.toList wr w2 := ((Keep.alloc1 wr o).mono (fun _ hx => by cases hx)).trans' K
  have gn : ∀ x, x ∈ gv.ownBlock.toList → w.heap.size ≤ x := fun x hx => h.gr.gnew x (by simpa using hx)
  have offF : ∀ j, j < n → Off (F j) gv.ownBlock.toList := by
    intro j hj x hx hm
    have := gn x hm
    have := h.flt j hj x hx
    omega
  have offG : ∀ j, j < k → Off (G j) gv.ownBlock.toList := fun j hj x hx hm => h.gr.goff j hj x hx (by simpa using hm)
  have offv : Off v gv.ownBlock.toList := fun x hx hm => h2 x (by simpa using hm) hx
  have emap : (List.range (k + 1)).map (updF G k v) = (List.range k).map G ++ [v] := by
    rw [List.range_succ, List.map_append]
    congr 1
    · apply List.map_congr_left
      intro j hj
      rw [updF_ne _ _ _ (by simp at hj; omega)]
    · simp [updF]
  refine ⟨h.ap.keep K1 (fun hm => by have := gn b hm; have := h.blt; omega) offF, ⟨fun j hj => ?_, fun j hj => ?_, fun i j hi hj hij x hx => ?_, by rw [emap]; exact R, fun x hx => ?_, fun j hj x hx => ?_⟩, h.kp.more K1 (fun x hx => .inr (gn x hx)), h.blt, h.flt⟩
  · by_cases e : j = k
    · subst e
      rw [updF_at, updF_at]
      exact hv.keep K1 offv
    · rw [updF_ne _ _ _ e, updF_ne _ _ _ e]
      exact (h.gr.row j (by omega)).keep K1 (offG j (by omega))
  · by_cases e : j = k
    · subst e
      rw [updF_at]
      exact h3
    · rw [updF_ne _ _ _ e]
      exact h.gr.blk j (by omega)
  · by_cases e : i = k
    · subst e
      rw [updF_at] at hx
      rw [updF_ne _ _ _ (by omega)]
      exact fun hy => h1 j (by omega) x hy hx
    · rw [updF_ne _ _ _ e] at hx
      by_cases e2 : j = k
      · subst e2
        rw [updF_at]
        exact h1 i (by omega) x hx
      · rw [updF_ne _ _ _ e2]
        exact h.gr.sep i j (by omega) (by omega) hij x hx
  · rcases hg' with e | e
    · exact h.gr.gnew x (by rw [← e]; exact hx)
    · have := (e x hx).1
      omega
  · have hlt : x < (wr.alloc o).heap.size := by
      by_cases e : j = k
      · subst e
        rw [updF_at] at hx
        have := hv.lt x hx
        omega
      · rw [updF_ne _ _ _ e] at hx
        have := (h.gr.row j (by omega)).lt x hx
        omega
    intro hg
    rcases hg' with e | e
    · by_cases e2 : j = k
      · subst e2
        rw [updF_at] at hx
        exact h2 x (by rw [← e]; exact hg) hx
      · rw [updF_ne _ _ _ e2] at hx
        exact h.gr.goff j (by omega) x hx (by rw [← e]; exact hg)
    · have := (e x hg).1
      omega

/-- the slice k is grown anew and stored in the list's place k -/
theorem Ph2.again {w w1 w2 : World} {b n : Nat} {F : Nat → Value} {c : Nat → Nat} {gv : Value} {G : Nat → Value} {q : Nat → List Int} {k gg gc : Nat} (h : Ph2 w w1 b n F c gv n G q) (hk : k < n) (hgv : gv = .slice (some ⟨gg, 0, none⟩) n gc) {v : Value} {r : List Int}
    (K : Keep (F k).ownBlock.toList w1 w2) (hv : v.ownBlock = (F k).ownBlock ∨ Fresh w1 w2 v) (hr : Row w2 v (marks k (c k) ++ r)) (hold : Row w2 (F k) (marks k (c k))) :
    Ph2 w (w2.setCell ⟨gg, k, none⟩ v) b n F c gv n (updF G k v) (updF q k (marks k (c k) ++ r)) := by
  have hs := h.kp.size
  have hK := K.size
  have hgb : gv.ownBlock = some gg := by rw [hgv]; rfl
  have hgg : w.heap.size ≤ gg := h.gr.gnew gg hgb
  have hgl : gg < w1.heap.size := h.gr.gs.lt gg hgb
  have offG : ∀ i, i < n → i ≠ k → Off (G i) (F k).ownBlock.toList := by
    intro i hi hik x hx hm
    have hm : (F k).ownBlock = some x := by simpa using hm
    rcases h.gr.blk i hi with e | e
    · exact h.ap.sep i k hi hk hik x (by rw [← e]; exact hx) hm
    · have := e x hx
      have := h.flt k hk x hm
      omega
  have offg : Off gv (F k).ownBlock.toList := by
    intro x hx hm
    have hm : (F k).ownBlock = some x := by simpa using hm
    have := h.gr.gnew x hx
    have := h.flt k hk x hm
    omega
  have vne : v.ownBlock ≠ some gg := by
    intro hx
    rcases hv with e | e
    · have := h.flt k hk gg (by rw [← e]; exact hx)
      omega
    · have := (e gg hx).1
      omega
  have vG : ∀ i, i < n → i ≠ k → ∀ x, (G i).ownBlock = some x → v.ownBlock ≠ some x := by
    intro i hi hik x hx hvx
    rcases hv with e | e
    · exact offG i hi hik x hx (by simp [← e, hvx])
    · have h1 := (e x hvx).1
      have h2 := (h.gr.row i hi).lt x hx
      omega
  have A2 : Ap w2 b n F (fun j => marks j (c j)) := (h.ap.turn k hk K _ hold).same (fun i _ => by
    by_cases e : i = k
    · subst e
      rw [updF_at]
    · rw [updF_ne _ _ _ e])
  have S : Keep [gg] w2 (w2.setCell ⟨gg, k, none⟩ v) := Keep.set1 w2 ⟨gg, k, none⟩ v
  have G2 : RowC w2 TS 1 gv n ((List.range n).map G) := h.gr.gs.keep K offg
  rw [hgv] at G2
  have G3 := (World.ownsRow.stored G2 k v).1
  have emap : ((List.range n).map G).set k v = (List.range n).map (updF G k v) := by
    apply List.ext_getElem
    · simp
    · intro i h1 h2
      simp only [List.length_map, List.length_range] at h2
      rw [List.getElem_set]
      by_cases e : i = k
      · subst e
        simp [updF]
      · rw [if_neg (by omega)]
        simp [updF, e]
  rw [emap, ← hgv] at G3
  refine ⟨A2.keep S (fun hm => by have := h.blt; simp at hm; omega) (fun j hj x hx hm => by have := h.flt j hj x hx; simp at hm; omega), ⟨fun j hj => ?_, fun j hj => ?_, fun i j hi hj hij x hx => ?_, G3, h.gr.gnew, fun j hj x hx => ?_⟩, (h.kp.more K (fun x hx => .inl (mem_blks.2 ⟨k, hk, by simpa using hx⟩))).setCell (.inr hgg) _, h.blt, h.flt⟩
  · by_cases e : j = k
    · subst e
      rw [updF_at, updF_at]
      exact hr.keep S (fun x hx hm => vne (by simp at hm; rw [← hm]; exact hx))
    · rw [updF_ne _ _ _ e, updF_ne _ _ _ e]
      exact ((h.gr.row j hj).keep K (offG j hj e)).keep S (fun x hx hm => h.gr.goff j hj x hx (by simp at hm; rw [hgb, hm]))
  · by_cases e : j = k
    · subst e
      rw [updF_at]
      rcases hv with e | e
      · exact .inl e
      · exact .inr (fun x hx => by have := (e x hx).1; omega)
    · rw [updF_ne _ _ _ e]
      exact h.gr.blk j hj
  · by_cases e : i = k
    · subst e
      rw [updF_at] at hx
      rw [updF_ne _ _ _ (by omega)]
      exact fun hy => vG j hj (by omega) x hy hx
    · rw [updF_ne _ _ _ e] at hx
      by_cases e2 : j = k
      · subst e2
        rw [updF_at]
        exact vG i hi e x hx
      · rw [updF_ne _ _ _ e2]
        exact h.gr.sep i j hi hj hij x hx
  · by_cases e : j = k
    · subst e
      rw [updF_at] at hx
      rw [hgb]
      intro hy
      exact vne (by rw [hx, ← hy])
    · rw [updF_ne _ _ _ e] at hx
      exact h.gr.goff j hj x hx

/-- while the row k is written, the list of the grown ones lies as it did -/
theorem Ph2.form9 {w w1 w2 : World} {b n : Nat} {F : Nat → Value} {c : Nat → Nat} {gv : Value} {G : Nat → Value} {q : Nat → List Int} {k gg gc : Nat} (h : Ph2 w w1 b n F c gv n G q) (hk : k < n) (hgv : gv = .slice (some ⟨gg, 0, none⟩) n gc) (K : Keep (F k).ownBlock.toList w1 w2) :
    w2.cell? ⟨gg, k, none⟩ = some (G k) ∧ w2.frozen? ⟨gg, k, none⟩ = false := by
  have offg : Off gv (F k).ownBlock.toList := by
    intro x hx hm
    have hm : (F k).ownBlock = some x := by simpa using hm
    have := h.gr.gnew x hx
    have := h.flt k hk x hm
    omega
  rcases (h.gr.gs.keep K offg).cases with ⟨h0, _⟩ | ⟨g, cap, hv, _, _, _, h4, h5⟩
  · omega
  · rw [hgv] at hv
    simp at hv
    obtain ⟨rfl, _⟩ := hv
    refine ⟨?_, h5 k⟩
    rw [h4 k (by omega)]
    simp [hk]

/-- what the check of the row k looks at -/
theorem Ph2.look {w wr : World} {b n : Nat} {F : Nat → Value} {c : Nat → Nat} {gv : Value} {G : Nat → Value} {q : Nat → List Int} {k : Nat} (h : Ph2 w wr b n F c gv n G q) (hk : k < n) {r : List Int} (hq : q k = marks k (c k) ++ r) :
    ∃ ao cap ag capg gg gc, gv = .slice (some ⟨gg, 0, none⟩) n gc ∧ n ≤ gc ∧ gc ≤ 9223372036854775807 ∧ wr.cell? ⟨gg, k, none⟩ = some (.slice ag (c k + r.length) capg) ∧ c k + r.length ≤ capg ∧ capg ≤ 9223372036854775807 ∧
      wr.cell? ⟨b, k, none⟩ = some (.slice ao (c k) cap) ∧ c k ≤ cap ∧ cap ≤ 9223372036854775807 ∧
      (∀ i, i < c k → ∃ g1, ao = some ⟨g1, 0, none⟩ ∧ wr.cell? ⟨g1, i, none⟩ = some (.int .i64 (mkB k i))) ∧
      (∀ i, i < c k + r.length → ∃ g2, ag = some ⟨g2, 0, none⟩ ∧ wr.cell? ⟨g2, i, none⟩ = some (.int .i64 ((q k).getD i 0))) := by
  obtain ⟨gg, gc, hgv, hg1, hg2, hgc, _⟩ := h.form (by omega)
  have hr := h.gr.row k hk
  have hl : (q k).length = c k + r.length := by rw [hq, List.length_append, marks_len]
  obtain ⟨ag, capg, hG, hG1, hG2, _⟩ := hr.formA
  have hf := h.ap.row k hk
  obtain ⟨ao, cap, hF, hF1, hF2, _⟩ := hf.formA
  rw [marks_len] at hF hF1
  rw [hl] at hG hG1
  refine ⟨ao, cap, ag, capg, gg, gc, hgv, hg1, hg2, by rw [hgc k hk, hG], hG1, hG2, by rw [h.ap.cell k hk, hF], hF1, hF2, fun i hi => ?_, fun i hi => ?_⟩
  · obtain ⟨g, cp, hv, _, _, hc, _⟩ := hf.formL (by rw [marks_len]; omega)
    rw [hF] at hv
    simp at hv
    refine ⟨g, hv.1, ?_⟩
    rw [hc i (by rw [marks_len]; omega), marks_get k _ i hi]
  · obtain ⟨g, cp, hv, _, _, hc, _⟩ := hr.formL (by omega)
    rw [hG] at hv
    simp at hv
    exact ⟨g, hv.1, hc i (by omega)⟩

end Ia
end Go.Proofs.Ytmlpkjeaieljfab
