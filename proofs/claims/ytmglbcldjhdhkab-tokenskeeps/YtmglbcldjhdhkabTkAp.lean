/- Rows of tokens that lie apart: what is written into one of them leaves the others as they were; the steps of ApartTokens: all rows are marked; each is grown; each is grown anew. -/
import Derived.Test.YtmglbcldjhdhkabTkLt
import Derived.Test.YtmglbcldjhdhkabTkL1
namespace Go.Proofs.Ytmglbcldjhdhkab
open Go.RowKit Go.PlainAid

abbrev TK : TypeId := 23
abbrev TKK : TypeId := 38
theorem infoS : (Try.prog.info? TK).map (fun i => (i.zero, i.size, i.bytes)) = some (some (.slice none 0 0), 1, 24) := by kernel_rfl
theorem underK : Try.prog.underlying TK = some (.slice 36) := Try.underlying23
theorem underKK : Try.prog.underlying TKK = some (.slice TK) := Try.underlying38

def markLL (k i : Nat) : List UInt8 := [35, k.toUInt8, (k / 256).toUInt8, (k / 65536).toUInt8, 47, i.toUInt8, (i / 256).toUInt8, (i / 65536).toUInt8]
def mkT (k i : Nat) : TokD := ⟨-7, markLL k i, 0, 0⟩
theorem wrapB (a d : Nat) : IntKind.u8.wrap ((a : Int) / (d : Int)) = (((a / d).toUInt8).toNat : Int) := by
  rw [IntKind.wrap_u8]
  have e : ((a : Int) / (d : Int)) = ((a / d : Nat) : Int) := by simp
  rw [e]
  simp

set_option maxRecDepth 1000000 in
set_option maxHeartbeats 1000000 in
theorem markG_any (k i : Nat) (w : World) :
    Calls Try.prog 20 #[.int .i64 (k : Int), .int .i64 (i : Int)] w fun e w' => e = .returned (.string (ba (markLL k i))) ∧ Keep [] w w' := by
  have h0 := wrapB k 1
  have h1 := wrapB k 256
  have h2 := wrapB k 65536
  have h3 := wrapB i 1
  have h4 := wrapB i 256
  have h5 := wrapB i 65536
  simp only [Nat.div_one, Int.ediv_one, Int.cast_ofNat_Int] at h0 h1 h2 h3 h4 h5
  have hst : (convert 55 9 (.slice (some ⟨w.heap.size, 0, none⟩) 8 8)).run Try.prog (w.alloc (.cells #[.int .u8 35, .int .u8 (k.toUInt8.toNat : Int), .int .u8 ((k / 256).toUInt8.toNat : Int), .int .u8 ((k / 65536).toUInt8.toNat : Int), .int .u8 47, .int .u8 (i.toUInt8.toNat : Int), .int .u8 ((i / 256).toUInt8.toNat : Int), .int .u8 ((i / 65536).toUInt8.toNat : Int)] 5 (0, 0))) = .ok (.string (ba (markLL k i))) (w.alloc (.cells #[.int .u8 35, .int .u8 (k.toUInt8.toNat : Int), .int .u8 ((k / 256).toUInt8.toNat : Int), .int .u8 ((k / 65536).toUInt8.toNat : Int), .int .u8 47, .int .u8 (i.toUInt8.toNat : Int), .int .u8 ((i / 256).toUInt8.toNat : Int), .int .u8 ((i / 65536).toUInt8.toNat : Int)] 5 (0, 0))) := by
    have hr : Row (w.alloc (.cells #[.int .u8 35, .int .u8 (k.toUInt8.toNat : Int), .int .u8 ((k / 256).toUInt8.toNat : Int), .int .u8 ((k / 65536).toUInt8.toNat : Int), .int .u8 47, .int .u8 (i.toUInt8.toNat : Int), .int .u8 ((i / 256).toUInt8.toNat : Int), .int .u8 ((i / 65536).toUInt8.toNat : Int)] 5 (0, 0))) (.slice (some ⟨w.heap.size, 0, none⟩) 8 8) (markLL k i) :=
      World.ownsRow_lit w #[.int .u8 35, .int .u8 (k.toUInt8.toNat : Int), .int .u8 ((k / 256).toUInt8.toNat : Int), .int .u8 ((k / 65536).toUInt8.toNat : Int), .int .u8 47, .int .u8 (i.toUInt8.toNat : Int), .int .u8 ((i / 256).toUInt8.toNat : Int), .int .u8 ((i / 65536).toUInt8.toNat : Int)] 8 (Nat.zero_le _) (by unfold maxLen; omega) rfl
    exact run_str hr.bs
  generalize ba (markLL k i) = S at hst ⊢
  generalize (k.toUInt8.toNat : Int) = x0 at *
  generalize ((k / 256).toUInt8.toNat : Int) = x1 at *
  generalize ((k / 65536).toUInt8.toNat : Int) = x2 at *
  generalize (i.toUInt8.toNat : Int) = x3 at *
  generalize ((i / 256).toUInt8.toNat : Int) = x4 at *
  generalize ((i / 65536).toUInt8.toNat : Int) = x5 at *
  go_enter Try.func20, Try.ntmps20
  go_wp2
  go_ret
  exact ⟨rfl, Keep.alloc1 w _⟩

def marks (k n : Nat) : List TokD := (List.range n).map (mkT k)
theorem marks_succ (k n : Nat) : marks k (n + 1) = marks k n ++ [mkT k n] := by simp [marks, List.range_succ]
theorem marks_len (k n : Nat) : (marks k n).length = n := by simp [marks]
theorem marks_get (k n i : Nat) (h : i < (marks k n).length) : (marks k n)[i] = mkT k i := by simp [marks]
theorem marks_app (k n m : Nat) : ∃ r, marks k (n + m) = marks k n ++ r ∧ r.length = m := by
  refine ⟨(marks k (n + m)).drop n, ?_, by simp [marks_len]⟩
  have h : (marks k (n + m)).take n = marks k n := by
    simp [marks, ← List.map_take, List.take_range]
  rw [← h, List.take_append_drop]
theorem take_set (l : List TokD) (i : Nat) (h : i < l.length) (x : TokD) : (l.set i x).take (i + 1) = l.take i ++ [x] := by
  rw [List.take_add_one, List.getElem?_eq_getElem (by simpa using h)]
  simp [List.take_set_of_le]

/-- the i-th token of the block g is t -/
structure Tc (w : World) (g i : Nat) (t : TokD) : Prop where
  c0 : w.cell? ⟨g, i * 4, none⟩ = some (.int .i64 t.kind)
  c1 : w.cell? ⟨g, i * 4 + 1, none⟩ = some (.string (ba t.text))
  c2 : w.cell? ⟨g, i * 4 + 2, none⟩ = some (.int .i64 t.line)
  c3 : w.cell? ⟨g, i * 4 + 3, none⟩ = some (.int .i64 t.col)
theorem Tc.keep {G : List Nat} {w w' : World} {g i : Nat} {t : TokD} (h : Tc w g i t) (K : Keep G w w') (hn : g ∉ G) : Tc w' g i t :=
  ⟨K.cell' h.c0 hn, K.cell' h.c1 hn, K.cell' h.c2 hn, K.cell' h.c3 hn⟩
theorem RowT.keep {G : List Nat} {w w' : World} {v : Value} {l : List TokD} (h : RowT w v l) (K : Keep G w w') (hn : Off v G) : RowT w' v l := RowC.keep h K hn
theorem RowT.lt {w : World} {v : Value} {l : List TokD} (h : RowT w v l) : ∀ k, v.ownBlock = some k → k < w.heap.size := RowC.lt h
theorem RowT.cases {w : World} {v : Value} {l : List TokD} (h : RowT w v l) : (l = [] ∧ v = .slice none 0 0) ∨
    ∃ g cap, v = .slice (some ⟨g, 0, none⟩) l.length cap ∧ l.length ≤ cap ∧ cap ≤ 9223372036854775807 ∧ g < w.heap.size ∧ (∀ j (hj : j < l.length), Tc w g j l[j]) ∧ ∀ j, w.frozen? ⟨g, j, none⟩ = false := by
  rcases RowC.cases h with ⟨h0, _, hv⟩ | ⟨g, cap, hv, h1, h2, h3, h4, h5⟩
  · exact .inl ⟨List.eq_nil_of_length_eq_zero h0, hv⟩
  · refine .inr ⟨g, cap, hv, h1, h2, h3, fun j hj => ?_, h5⟩
    have e := fun i (hi : i < 4) => (h4 (j * 4 + i) (by omega)).trans (getD_cell l j i hj hi)
    exact ⟨e 0 (by omega), e 1 (by omega), e 2 (by omega), e 3 (by omega)⟩
theorem toksC_app (l r : List TokD) : toksC (l ++ r) = toksC l ++ toksC r := by simp [toksC]
/-- of two slices of one block, the shorter one reads as it did where the longer one does -/
theorem RowT.front {w w2 : World} {u v : Value} {l r : List TokD} (hu : RowT w u l) (hv : RowT w v (l ++ r)) (hb : u.ownBlock = v.ownBlock) (h2 : RowT w2 v (l ++ r)) : RowT w2 u l := by
  rcases hu.2 with ⟨rfl, hz⟩ | ⟨g, cap, cur, rfl, hbg, hg, hnc, hcm, hcs, htake⟩
  · exact ⟨hu.1, .inl ⟨rfl, hz⟩⟩
  · rcases hv.2 with ⟨rfl, _⟩ | ⟨g', cap', cur', rfl, _, hg', hnc', hcm', hcs', htake'⟩
    · simp [Value.ownBlock] at hb
    · simp [Value.ownBlock] at hb
      subst hb
      rw [hg] at hg'
      simp at hg'
      subst hg'
      have hcc : cap = cap' := by omega
      subst hcc
      rcases h2.2 with ⟨h, _⟩ | ⟨g2, cap2, cur2, he, hb2, hg2, hnc2, hcm2, hcs2, htake2⟩
      · simp at h
      · simp at he
        obtain ⟨rfl, rfl⟩ := he
        refine ⟨hu.1, .inr ⟨g, cap, cur2, rfl, Nat.zero_le _, hg2, hnc, hcm, hcs2, ?_⟩⟩
        have h3 := congrArg (List.take (l.length * 4)) htake2
        rw [List.take_take, Nat.min_eq_left (by simp; omega), toksC_app, List.take_append_of_le_length (by rw [toksC_len]; omega)] at h3
        rw [h3]
        exact List.take_of_length_le (by rw [toksC_len]; omega)
theorem RowT.formL {w : World} {v : Value} {l : List TokD} (h : RowT w v l) (hl : 0 < l.length) :
    ∃ g cap, v = .slice (some ⟨g, 0, none⟩) l.length cap ∧ l.length ≤ cap ∧ cap ≤ 9223372036854775807 ∧ (∀ j (hj : j < l.length), Tc w g j l[j]) ∧ ∀ j, w.frozen? ⟨g, j, none⟩ = false := by
  rcases h.cases with ⟨h0, _⟩ | ⟨g, cap, hv, h1, h2, _, h4, h5⟩
  · rw [h0] at hl
    simp at hl
  · exact ⟨g, cap, hv, h1, h2, h4, h5⟩
theorem RowT.formA {w : World} {v : Value} {l : List TokD} (h : RowT w v l) : ∃ ao cap, v = .slice ao l.length cap ∧ l.length ≤ cap ∧ cap ≤ 9223372036854775807 ∧ v.oneCell' = true := by
  rcases h.cases with ⟨h0, hv⟩ | ⟨g, cap, hv, h1, h2, _⟩
  · exact ⟨none, 0, by rw [hv, h0]; rfl, by simp [h0], by omega, by rw [hv]; rfl⟩
  · exact ⟨_, cap, hv, h1, h2, by rw [hv]; rfl⟩
theorem srcS (w : World) (v : Value) (hv : v.oneCell' = true) : Src Try.prog 1 TKK (.slice (some ⟨w.heap.size, 0, none⟩) 1 1) 1 [v] (w.alloc (.cells #[v] TK)) := by
  refine Src.ofSlice _ underKK ⟨w.heap.size, 0, none⟩ 1 1 [v] rfl (fun j u hu => ?_) (fun u hu => by simp at hu; rw [hu]; exact hv)
  have hj : j = 0 := by
    have := (List.getElem?_eq_some_iff.1 hu).1
    simpa using this
  subst hj
  simp at hu
  subst hu
  simp [go_sem]
/-- the j-th token is written over -/
theorem toks_put (l : List TokD) (k : Nat) (t : TokD) (hk : k < l.length) : ((((toksC l).set (k * 4) (.int .i64 t.kind)).set (k * 4 + 1) (.string (ba t.text))).set (k * 4 + 2) (.int .i64 t.line)).set (k * 4 + 3) (.int .i64 t.col) = toksC (l.set k t) := by
  have e0 := toks_set l k 0 ⟨t.kind, l[k].text, l[k].line, l[k].col⟩ (.int .i64 t.kind) hk (by omega) (fun i hi => by
    have : i = 0 ∨ i = 1 ∨ i = 2 ∨ i = 3 := by omega
    rcases this with rfl | rfl | rfl | rfl <;> rfl)
  rw [Nat.add_zero] at e0
  rw [e0]
  have e1 := toks_set (l.set k ⟨t.kind, l[k].text, l[k].line, l[k].col⟩) k 1 ⟨t.kind, t.text, l[k].line, l[k].col⟩ (.string (ba t.text)) (by simpa using hk) (by omega) (fun i hi => by
    have : i = 0 ∨ i = 1 ∨ i = 2 ∨ i = 3 := by omega
    rw [List.getElem_set_self]
    rcases this with rfl | rfl | rfl | rfl <;> rfl)
  rw [e1, List.set_set]
  have e2 := toks_set (l.set k ⟨t.kind, t.text, l[k].line, l[k].col⟩) k 2 ⟨t.kind, t.text, t.line, l[k].col⟩ (.int .i64 t.line) (by simpa using hk) (by omega) (fun i hi => by
    have : i = 0 ∨ i = 1 ∨ i = 2 ∨ i = 3 := by omega
    rw [List.getElem_set_self]
    rcases this with rfl | rfl | rfl | rfl <;> rfl)
  rw [e2, List.set_set]
  have e3 := toks_set (l.set k ⟨t.kind, t.text, t.line, l[k].col⟩) k 3 t (.int .i64 t.col) (by simpa using hk) (by omega) (fun i hi => by
    have : i = 0 ∨ i = 1 ∨ i = 2 ∨ i = 3 := by omega
    rw [List.getElem_set_self]
    rcases this with rfl | rfl | rfl | rfl <;> rfl)
  rw [e3, List.set_set]
/-- the world with the i-th token of the block g written over -/
def putT (w : World) (g i : Nat) (t : TokD) : World := (((w.setCell ⟨g, i * 4, none⟩ (.int .i64 t.kind)).setCell ⟨g, i * 4 + 1, none⟩ (.string (ba t.text))).setCell ⟨g, i * 4 + 2, none⟩ (.int .i64 t.line)).setCell ⟨g, i * 4 + 3, none⟩ (.int .i64 t.col)
theorem keepT (w : World) (g i : Nat) (t : TokD) : Keep [g] w (putT w g i t) :=
  (((Keep.set1 w ⟨g, i * 4, none⟩ _).trans' (Keep.set1 _ ⟨g, i * 4 + 1, none⟩ _)).trans' (Keep.set1 _ ⟨g, i * 4 + 2, none⟩ _)).trans' (Keep.set1 _ ⟨g, i * 4 + 3, none⟩ _)
theorem RowT.put {w : World} {g cap n : Nat} {l : List TokD} (h : RowT w (.slice (some ⟨g, 0, none⟩) n cap) l) (hn : n = l.length) (k : Nat) (t : TokD) (hk : k < l.length) : RowT (putT w g k t) (.slice (some ⟨g, 0, none⟩) n cap) (l.set k t) := by
  subst hn
  have h0 := (World.ownsRow.stored h (k * 4) (.int .i64 t.kind)).1
  have h1 := (World.ownsRow.stored h0 (k * 4 + 1) (.string (ba t.text))).1
  have h2 := (World.ownsRow.stored h1 (k * 4 + 2) (.int .i64 t.line)).1
  have h3 := (World.ownsRow.stored h2 (k * 4 + 3) (.int .i64 t.col)).1
  rw [toks_put l k t hk] at h3
  show World.ownsRow _ _ _ _ _ _ _
  rw [List.length_set]
  exact h3

/-- the blocks of n slices -/
def blks (n : Nat) (F : Nat → Value) : List Nat := (List.range n).filterMap fun k => (F k).ownBlock
theorem mem_blks {n : Nat} {F : Nat → Value} {x : Nat} : x ∈ blks n F ↔ ∃ k, k < n ∧ (F k).ownBlock = some x := by
  simp [blks]

/-- one place of a function turned -/
def updF {α : Type} (m : Nat → α) (k : Nat) (x : α) : Nat → α := fun j => if j = k then x else m j
theorem updF_at {α : Type} (m : Nat → α) (k : Nat) (x : α) : updF m k x k = x := by simp [updF]
theorem updF_ne {α : Type} (m : Nat → α) (k : Nat) (x : α) {j : Nat} (h : j ≠ k) : updF m k x j = m j := by simp [updF, h]

/-- n rows of tokens of one's own, apart from one another and from the block b that names them -/
structure Ap (w : World) (b n : Nat) (F : Nat → Value) (m : Nat → List TokD) : Prop where
  cell : ∀ k, k < n → w.cell? ⟨b, k, none⟩ = some (F k)
  row : ∀ k, k < n → RowT w (F k) (m k)
  off : ∀ k, k < n → (F k).ownBlock ≠ some b
  sep : ∀ j k, j < n → k < n → j ≠ k → ∀ x, (F j).ownBlock = some x → (F k).ownBlock ≠ some x

theorem Ap.keep {G : List Nat} {w w' : World} {b n : Nat} {F : Nat → Value} {m : Nat → List TokD} (h : Ap w b n F m) (K : Keep G w w') (hb : b ∉ G) (hG : ∀ k, k < n → Off (F k) G) : Ap w' b n F m :=
  ⟨fun k hk => K.cell' (h.cell k hk) hb, fun k hk => (h.row k hk).keep K (hG k hk), h.off, h.sep⟩

/-- one of the rows is written, the others stay -/
theorem Ap.turn {w w' : World} {b n : Nat} {F : Nat → Value} {m : Nat → List TokD} (h : Ap w b n F m) (k : Nat) (hk : k < n) (K : Keep (F k).ownBlock.toList w w') (l : List TokD) (hr : RowT w' (F k) l) : Ap w' b n F (updF m k l) := by
  refine ⟨fun j hj => K.cell' (h.cell j hj) (fun hx => h.off k hk (by simpa using hx)), fun j hj => ?_, h.off, h.sep⟩
  by_cases e : j = k
  · subst e
    rw [updF_at]
    exact hr
  · rw [updF_ne _ _ _ e]
    exact RowC.keep (h.row j hj) K (fun x hx hm => h.sep j k hj hk e x hx (by simpa using hm))

theorem Ap.same {w : World} {b n : Nat} {F : Nat → Value} {m m' : Nat → List TokD} (h : Ap w b n F m) (e : ∀ k, k < n → m' k = m k) : Ap w b n F m' :=
  ⟨h.cell, fun k hk => by rw [e k hk]; exact h.row k hk, h.off, h.sep⟩








/-- the rows below k are marked -/
structure Ph1 (w wr : World) (b n : Nat) (F : Nat → Value) (c : Nat → Nat) (k : Nat) (m : Nat → List TokD) : Prop where
  ap : Ap wr b n F m
  len : ∀ j, (m j).length = c j
  don : ∀ j, j < k → m j = marks j (c j)
  kp : Keep (blks n F) w wr


theorem Ph1.same {w wr w2 : World} {b n : Nat} {F : Nat → Value} {c : Nat → Nat} {k : Nat} {m : Nat → List TokD} (h : Ph1 w wr b n F c k m) (K : Keep [] wr w2) : Ph1 w w2 b n F c k m :=
  ⟨h.ap.keep K (by simp) (fun _ _ => Off.nil _), h.len, h.don, h.kp.more K (fun _ hx => by cases hx)⟩
theorem Ph1.step {w wr : World} {b n : Nat} {F : Nat → Value} {c : Nat → Nat} {k : Nat} {m : Nat → List TokD} (h : Ph1 w wr b n F c k m) (hk : k < n) {i g cap : Nat} (hi : i < c k) (hF : F k = .slice (some ⟨g, 0, none⟩) (c k) cap) (ht : (m k).take i = marks k i) :
    ∃ m', Ph1 w (putT wr g i (mkT k i)) b n F c k m' ∧ (m' k).take (i + 1) = marks k (i + 1) := by
  have hl := h.len k
  have hr := h.ap.row k hk
  rw [hF] at hr
  have hr2 := hr.put hl.symm i (mkT k i) (by omega)
  rw [← hF] at hr2
  have hbk : (F k).ownBlock = some g := by rw [hF]; rfl
  have hK : Keep (F k).ownBlock.toList wr (putT wr g i (mkT k i)) := by
    rw [hbk]
    exact keepT wr g i _
  refine ⟨updF m k ((m k).set i (mkT k i)), ⟨h.ap.turn k hk hK _ hr2, fun j => ?_, fun j hj => ?_, h.kp.more hK (fun x hx => .inl (mem_blks.2 ⟨k, hk, by simpa using hx⟩))⟩, ?_⟩
  · by_cases e : j = k
    · subst e
      rw [updF_at, List.length_set, hl]
    · rw [updF_ne _ _ _ e]
      exact h.len j
  · rw [updF_ne _ _ _ (by omega)]
    exact h.don j hj
  · rw [updF_at, take_set _ _ (by omega), ht, marks_succ]

theorem Ph1.next {w wr : World} {b n : Nat} {F : Nat → Value} {c : Nat → Nat} {k : Nat} {m : Nat → List TokD} (h : Ph1 w wr b n F c k m) (ht : (m k).take (c k) = marks k (c k)) : Ph1 w wr b n F c (k + 1) m := by
  refine ⟨h.ap, h.len, fun j hj => ?_, h.kp⟩
  by_cases e : j = k
  · subst e
    rw [← ht, List.take_of_length_le (by rw [h.len j]; omega)]
  · exact h.don j (by omega)

/-- what is grown: the slices G below k, each with its tokens q, and the list gv of them -/
structure Gr (w0 wr : World) (gv : Value) (k : Nat) (F G : Nat → Value) (q : Nat → List TokD) : Prop where
  row : ∀ j, j < k → RowT wr (G j) (q j)
  blk : ∀ j, j < k → (G j).ownBlock = (F j).ownBlock ∨ ∀ x, (G j).ownBlock = some x → w0.heap.size ≤ x
  sep : ∀ i j, i < k → j < k → i ≠ j → ∀ x, (G i).ownBlock = some x → (G j).ownBlock ≠ some x
  gs : RowC wr TK 1 gv k ((List.range k).map G)
  gnew : ∀ x, gv.ownBlock = some x → w0.heap.size ≤ x
  goff : ∀ j, j < k → ∀ x, (G j).ownBlock = some x → gv.ownBlock ≠ some x

/-- all rows are marked, and below k they are grown -/
structure Ph2 (w wr : World) (b n : Nat) (F : Nat → Value) (c : Nat → Nat) (gv : Value) (k : Nat) (G : Nat → Value) (q : Nat → List TokD) : Prop where
  ap : Ap wr b n F (fun j => marks j (c j))
  gr : Gr w wr gv k F G q
  kp : Keep (blks n F) w wr
  blt : b < w.heap.size
  flt : ∀ j, j < n → ∀ x, (F j).ownBlock = some x → x < w.heap.size

theorem Ph1.drew {w wr : World} {b n : Nat} {F : Nat → Value} {c : Nat → Nat} {k : Nat} {m : Nat → List TokD} (h : Ph1 w wr b n F c k m) : Ph1 w wr.drew b n F c k m :=
  ⟨h.ap.keep ((Keep.refl [] _).drew) (by simp) (fun _ _ => Off.nil _), h.len, h.don, h.kp.drew⟩

theorem Ph2.same {w wr w2 : World} {b n : Nat} {F : Nat → Value} {c : Nat → Nat} {gv : Value} {k : Nat} {G : Nat → Value} {q : Nat → List TokD} (h : Ph2 w wr b n F c gv k G q) (K : Keep [] wr w2) : Ph2 w w2 b n F c gv k G q :=
  ⟨h.ap.keep K (by simp) (fun _ _ => Off.nil _), ⟨fun j hj => (h.gr.row j hj).keep K (Off.nil _), h.gr.blk, h.gr.sep, h.gr.gs.keep K (Off.nil _), h.gr.gnew, h.gr.goff⟩, h.kp.more K (fun _ hx => by cases hx), h.blt, h.flt⟩

/-- the list of the grown ones, as it lies -/
theorem Ph2.form {w wr : World} {b n : Nat} {F : Nat → Value} {c : Nat → Nat} {gv : Value} {k : Nat} {G : Nat → Value} {q : Nat → List TokD} (h : Ph2 w wr b n F c gv k G q) (hk : 0 < k) :
    ∃ gg gc, gv = .slice (some ⟨gg, 0, none⟩) k gc ∧ k ≤ gc ∧ gc ≤ 9223372036854775807 ∧ (∀ j, j < k → wr.cell? ⟨gg, j, none⟩ = some (G j)) ∧ ∀ j, wr.frozen? ⟨gg, j, none⟩ = false := by
  rcases h.gr.gs.cases with ⟨h0, _⟩ | ⟨g, cap, hv, h1, h2, _, h4, h5⟩
  · omega
  · refine ⟨g, cap, hv, h1, h2, fun j hj => ?_, h5⟩
    rw [h4 j (by omega)]
    simp [hj]



theorem Ph2.zero {w wr : World} {b n : Nat} {F : Nat → Value} {c : Nat → Nat} {m : Nat → List TokD} (h : Ph1 w wr b n F c n m) (hb : b < w.heap.size) (hf : ∀ j, j < n → ∀ x, (F j).ownBlock = some x → x < w.heap.size) : Ph2 w wr b n F c (.slice none 0 0) 0 F (fun _ => []) :=
  ⟨h.ap.same (fun k hk => (h.don k hk).symm), ⟨fun j hj => by omega, fun j hj => by omega, fun i j hi => by omega, World.ownsRow_nil _ _ _ _, fun x hx => by simp [Value.ownBlock] at hx, fun j hj => by omega⟩, h.kp, hb, hf⟩

/-- the row k while it is grown, from the world w1 on -/
structure Gw (w1 wr : World) (u v : Value) (k ck i : Nat) : Prop where
  old : RowT wr u (marks k ck)
  row : RowT wr v (marks k (ck + i))
  kp : Keep u.ownBlock.toList w1 wr
  blk : v.ownBlock = u.ownBlock ∨ Fresh w1 wr v

theorem Gw.step {w1 wr w2 : World} {u v v' : Value} {k ck i : Nat} (h : Gw w1 wr u v k ck i) {o : Obj} (K : Keep v.ownBlock.toList (wr.alloc o) w2) (hv' : v'.ownBlock = v.ownBlock ∨ Fresh (wr.alloc o) w2 v') (hr : RowT w2 v' (marks k (ck + (i + 1)))) (hold : RowT w2 v (marks k (ck + i))) : Gw w1 w2 u v' k ck (i + 1) := by
  obtain ⟨r, er, _⟩ := marks_app k ck i
  have hs : (wr.alloc o).heap.size = wr.heap.size + 1 := by simp
  have hk1 := h.kp.size
  have hk2 := K.size
  have K1 : Keep u.ownBlock.toList w1 (wr.alloc o) := h.kp.alloc o
  refine ⟨?_, hr, ?_, ?_⟩
  · by_cases e : u.ownBlock = v.ownBlock
    · exact RowT.front (w := wr) (r := r) h.old (by rw [← er]; exact h.row) e (by rw [← er]; exact hold)
    · exact (h.old.keep (Keep.alloc1 wr o) (Off.nil _)).keep K (fun x hx hm => e (by rw [hx]; exact (by simpa using hm : v.ownBlock = some x).symm))
  · refine K1.more K (fun x hx => ?_)
    rcases h.blk with e | e
    · exact .inl (by rw [← e]; exact hx)
    · exact .inr (e x (by simpa using hx)).1
  · rcases hv' with e | e
    · rcases h.blk with e2 | e2
      · exact .inl (e.trans e2)
      · refine .inr (fun x hx => ?_)
        have := e2 x (by rw [← e]; exact hx)
        omega
    · refine .inr (fun x hx => ?_)
      have := e x hx
      omega

/-- the slice k has been grown in place or anew: the rest stays -/
theorem Ph2.grown {w w1 wr : World} {b n : Nat} {F : Nat → Value} {c : Nat → Nat} {gv : Value} {k : Nat} {G : Nat → Value} {q : Nat → List TokD} (h : Ph2 w w1 b n F c gv k G q) (hk : k < n) {v : Value} {j : Nat} (hw : Gw w1 wr (F k) v k (c k) j) :
    Ph2 w wr b n F c gv k G q ∧ (∀ i, i < k → ∀ x, (G i).ownBlock = some x → v.ownBlock ≠ some x) ∧ (∀ x, gv.ownBlock = some x → v.ownBlock ≠ some x) ∧ (v.ownBlock = (F k).ownBlock ∨ ∀ x, v.ownBlock = some x → w.heap.size ≤ x) := by
  have hs := h.kp.size
  have offG : ∀ i, i < k → Off (G i) (F k).ownBlock.toList := by
    intro i hi x hx hm
    have hm : (F k).ownBlock = some x := by simpa using hm
    rcases h.gr.blk i hi with e | e
    · exact h.ap.sep i k (by omega) hk (by omega) x (by rw [← e]; exact hx) hm
    · have := e x hx
      have := h.flt k hk x hm
      omega
  have offg : Off gv (F k).ownBlock.toList := by
    intro x hx hm
    have hm : (F k).ownBlock = some x := by simpa using hm
    have := h.gr.gnew x hx
    have := h.flt k hk x hm
    omega
  refine ⟨⟨(h.ap.turn k hk hw.kp _ hw.old).same (fun i _ => ?_), ⟨fun i hi => (h.gr.row i hi).keep hw.kp (offG i hi), h.gr.blk, h.gr.sep, h.gr.gs.keep hw.kp offg, h.gr.gnew, h.gr.goff⟩, h.kp.more hw.kp (fun x hx => .inl (mem_blks.2 ⟨k, hk, by simpa using hx⟩)), h.blt, h.flt⟩, fun i hi x hx hv => ?_, fun x hx hv => ?_, ?_⟩
  · by_cases e : i = k
    · subst e
      rw [updF_at]
    · rw [updF_ne _ _ _ e]
  · rcases hw.blk with e | e
    · exact offG i hi x hx (by simp [← e, hv])
    · have h1 := (e x hv).1
      have h2 := (h.gr.row i hi).lt x hx
      omega
  · rcases hw.blk with e | e
    · exact offg x hx (by simp [← e, hv])
    · have h1 := (e x hv).1
      have h2 := h.gr.gs.lt x hx
      omega
  · rcases hw.blk with e | e
    · exact .inl e
    · exact .inr (fun x hx => by have := (e x hx).1; omega)

/-- and is put behind the others -/
theorem Ph2.next {w wr w2 : World} {b n : Nat} {F : Nat → Value} {c : Nat → Nat} {gv gv' : Value} {k : Nat} {G : Nat → Value} {q : Nat → List TokD} {v : Value} {l : List TokD} {o : Obj} (h : Ph2 w wr b n F c gv k G q) (_hk : k < n)
    (hv : RowT wr v l) (h1 : ∀ i, i < k → ∀ x, (G i).ownBlock = some x → v.ownBlock ≠ some x) (h2 : ∀ x, gv.ownBlock = some x → v.ownBlock ≠ some x) (h3 : v.ownBlock = (F k).ownBlock ∨ ∀ x, v.ownBlock = some x → w.heap.size ≤ x)
    (R : RowC w2 TK 1 gv' (k + 1) ((List.range k).map G ++ [v])) (K : Keep gv.ownBlock.toList (wr.alloc o) w2) (hg' : gv'.ownBlock = gv.ownBlock ∨ Fresh (wr.alloc o) w2 gv') : Ph2 w w2 b n F c gv' (k + 1) (updF G k v) (updF q k l) := by
  have hsz : (wr.alloc o).heap.size = wr.heap.size + 1 := by simp
  have hs := h.kp.size
  have hK2 := K.size
  have K1 : Keep gv.ownBlock.toList wr w2 := ((Keep.alloc1 wr o).mono (fun _ hx => by cases hx)).trans' K
  have gn : ∀ x, x ∈ gv.ownBlock.toList → w.heap.size ≤ x := fun x hx => h.gr.gnew x (by simpa using hx)
  have offF : ∀ j, j < n → Off (F j) gv.ownBlock.toList := by
    intro j hj x hx hm
    have := gn x hm
    have := h.flt j hj x hx
    omega
  have offG : ∀ j, j < k → Off (G j) gv.ownBlock.toList := fun j hj x hx hm => h.gr.goff j hj x hx (by simpa using hm)
  have offv : Off v gv.ownBlock.toList := fun x hx hm => h2 x (by simpa using hm) hx
  have emap : (List.range (k + 1)).map (updF G k v) = (List.range k).map G ++ [v] := by
    rw [List.range_succ, List.map_append]
    congr 1
    · apply List.map_congr_left
      intro j hj
      rw [updF_ne _ _ _ (by simp at hj; omega)]
    · simp [updF]
  refine ⟨h.ap.keep K1 (fun hm => by have := gn b hm; have := h.blt; omega) offF, ⟨fun j hj => ?_, fun j hj => ?_, fun i j hi hj hij x hx => ?_, by rw [emap]; exact R, fun x hx => ?_, fun j hj x hx => ?_⟩, h.kp.more K1 (fun x hx => .inr (gn x hx)), h.blt, h.flt⟩
  · by_cases e : j = k
    · subst e
      rw [updF_at, updF_at]
      exact hv.keep K1 offv
    · rw [updF_ne _ _ _ e, updF_ne _ _ _ e]
      exact (h.gr.row j (by omega)).keep K1 (offG j (by omega))
  · by_cases e : j = k
    · subst e
      rw [updF_at]
      exact h3
    · rw [updF_ne _ _ _ e]
      exact h.gr.blk j (by omega)
  · by_cases e : i = k
    · subst e
      rw [updF_at] at hx
      rw [updF_ne _ _ _ (by omega)]
      exact fun hy => h1 j (by omega) x hy hx
    · rw [updF_ne _ _ _ e] at hx
      by_cases e2 : j = k
      · subst e2
        rw [updF_at]
        exact h1 i (by omega) x hx
      · rw [updF_ne _ _ _ e2]
        exact h.gr.sep i j (by omega) (by omega) hij x hx
  · rcases hg' with e | e
    · exact h.gr.gnew x (by rw [← e]; exact hx)
    · have := (e x hx).1
      omega
  · have hlt : x < (wr.alloc o).heap.size := by
      by_cases e : j = k
      · subst e
        rw [updF_at] at hx
        have := hv.lt x hx
        omega
      · rw [updF_ne _ _ _ e] at hx
        have := (h.gr.row j (by omega)).lt x hx
        omega
    intro hg
    rcases hg' with e | e
    · by_cases e2 : j = k
      · subst e2
        rw [updF_at] at hx
        exact h2 x (by rw [← e]; exact hg) hx
      · rw [updF_ne _ _ _ e2] at hx
        exact h.gr.goff j (by omega) x hx (by rw [← e]; exact hg)
    · have := (e x hg).1
      omega

/-- the slice k is grown anew and stored in the list's place k -/
theorem Ph2.again {w w1 w2 : World} {b n : Nat} {F : Nat → Value} {c : Nat → Nat} {gv : Value} {G : Nat → Value} {q : Nat → List TokD} {k gg gc : Nat} (h : Ph2 w w1 b n F c gv n G q) (hk : k < n) (hgv : gv = .slice (some ⟨gg, 0, none⟩) n gc) {v : Value} {r : List TokD}
    (K : Keep (F k).ownBlock.toList w1 w2) (hv : v.ownBlock = (F k).ownBlock ∨ Fresh w1 w2 v) (hr : RowT w2 v (marks k (c k) ++ r)) (hold : RowT w2 (F k) (marks k (c k))) :
    Ph2 w (w2.setCell ⟨gg, k, none⟩ v) b n F c gv n (updF G k v) (updF q k (marks k (c k) ++ r)) := by
  have hs := h.kp.size
  have hK := K.size
  have hgb : gv.ownBlock = some gg := by rw [hgv]; rfl
  have hgg : w.heap.size ≤ gg := h.gr.gnew gg hgb
  have hgl : gg < w1.heap.size := h.gr.gs.lt gg hgb
  have offG : ∀ i, i < n → i ≠ k → Off (G i) (F k).ownBlock.toList := by
    intro i hi hik x hx hm
    have hm : (F k).ownBlock = some x := by simpa using hm
    rcases h.gr.blk i hi with e | e
    · exact h.ap.sep i k hi hk hik x (by rw [← e]; exact hx) hm
    · have := e x hx
      have := h.flt k hk x hm
      omega
  have offg : Off gv (F k).ownBlock.toList := by
    intro x hx hm
    have hm : (F k).ownBlock = some x := by simpa using hm
    have := h.gr.gnew x hx
    have := h.flt k hk x hm
    omega
  have vne : v.ownBlock ≠ some gg := by
    intro hx
    rcases hv with e | e
    · have := h.flt k hk gg (by rw [← e]; exact hx)
      omega
    · have := (e gg hx).1
      omega
  have vG : ∀ i, i < n → i ≠ k → ∀ x, (G i).ownBlock = some x → v.ownBlock ≠ some x := by
    intro i hi hik x hx hvx
    rcases hv with e | e
    · exact offG i hi hik x hx (by simp [← e, hvx])
    · have h1 := (e x hvx).1
      have h2 := (h.gr.row i hi).lt x hx
      omega
  have A2 : Ap w2 b n F (fun j => marks j (c j)) := (h.ap.turn k hk K _ hold).same (fun i _ => by
    by_cases e : i = k
    · subst e
      rw [updF_at]
    · rw [updF_ne _ _ _ e])
  have S : Keep [gg] w2 (w2.setCell ⟨gg, k, none⟩ v) := Keep.set1 w2 ⟨gg, k, none⟩ v
  have G2 : RowC w2 TK 1 gv n ((List.range n).map G) := h.gr.gs.keep K offg
  rw [hgv] at G2
  have G3 := (World.ownsRow.stored G2 k v).1
  have emap : ((List.range n).map G).set k v = (List.range n).map (updF G k v) := by
    apply List.ext_getElem
    · simp
    · intro i h1 h2
      simp only [List.length_map, List.length_range] at h2
      rw [List.getElem_set]
      by_cases e : i = k
      · subst e
        simp [updF]
      · rw [if_neg (by omega)]
        simp [updF, e]
  rw [emap, ← hgv] at G3
  refine ⟨A2.keep S (fun hm => by have := h.blt; simp at hm; omega) (fun j hj x hx hm => by have := h.flt j hj x hx; simp at hm; omega), ⟨fun j hj => ?_, fun j hj => ?_, fun i j hi hj hij x hx => ?_, G3, h.gr.gnew, fun j hj x hx => ?_⟩, (h.kp.more K (fun x hx => .inl (mem_blks.2 ⟨k, hk, by simpa using hx⟩))).setCell (.inr hgg) _, h.blt, h.flt⟩
  · by_cases e : j = k
    · subst e
      rw [updF_at, updF_at]
      exact hr.keep S (fun x hx hm => vne (by simp at hm; rw [← hm]; exact hx))
    · rw [updF_ne _ _ _ e, updF_ne _ _ _ e]
      exact ((h.gr.row j hj).keep K (offG j hj e)).keep S (fun x hx hm => h.gr.goff j hj x hx (by simp at hm; rw [hgb, hm]))
  · by_cases e : j = k
    · subst e
      rw [updF_at]
      rcases hv with e | e
      · exact .inl e
      · exact .inr (fun x hx => by have := (e x hx).1; omega)
    · rw [updF_ne _ _ _ e]
      exact h.gr.blk j hj
  · by_cases e : i = k
    · subst e
      rw [updF_at] at hx
      rw [updF_ne _ _ _ (by omega)]
      exact fun hy => vG j hj (by omega) x hy hx
    · rw [updF_ne _ _ _ e] at hx
      by_cases e2 : j = k
      · subst e2
        rw [updF_at]
        exact vG i hi e x hx
      · rw [updF_ne _ _ _ e2]
        exact h.gr.sep i j hi hj hij x hx
  · by_cases e : j = k
    · subst e
      rw [updF_at] at hx
      rw [hgb]
      intro hy
      exact vne (by rw [hx, ← hy])
    · rw [updF_ne _ _ _ e] at hx
      exact h.gr.goff j hj x hx

/-- while the row k is written, the list of the grown ones lies as it did -/
theorem Ph2.form9 {w w1 w2 : World} {b n : Nat} {F : Nat → Value} {c : Nat → Nat} {gv : Value} {G : Nat → Value} {q : Nat → List TokD} {k gg gc : Nat} (h : Ph2 w w1 b n F c gv n G q) (hk : k < n) (hgv : gv = .slice (some ⟨gg, 0, none⟩) n gc) (K : Keep (F k).ownBlock.toList w1 w2) :
    w2.cell? ⟨gg, k, none⟩ = some (G k) ∧ w2.frozen? ⟨gg, k, none⟩ = false := by
  have offg : Off gv (F k).ownBlock.toList := by
    intro x hx hm
    have hm : (F k).ownBlock = some x := by simpa using hm
    have := h.gr.gnew x hx
    have := h.flt k hk x hm
    omega
  rcases (h.gr.gs.keep K offg).cases with ⟨h0, _⟩ | ⟨g, cap, hv, _, _, _, h4, h5⟩
  · omega
  · rw [hgv] at hv
    simp at hv
    obtain ⟨rfl, _⟩ := hv
    refine ⟨?_, h5 k⟩
    rw [h4 k (by omega)]
    simp [hk]

/-- what the check of the row k looks at -/
theorem Ph2.look {w wr : World} {b n : Nat} {F : Nat → Value} {c : Nat → Nat} {gv : Value} {G : Nat → Value} {q : Nat → List TokD} {k : Nat} (h : Ph2 w wr b n F c gv n G q) (hk : k < n) {r : List TokD} (hq : q k = marks k (c k) ++ r) :
    ∃ ao cap ag capg gg gc, gv = .slice (some ⟨gg, 0, none⟩) n gc ∧ n ≤ gc ∧ gc ≤ 9223372036854775807 ∧ wr.cell? ⟨gg, k, none⟩ = some (.slice ag (c k + r.length) capg) ∧ c k + r.length ≤ capg ∧ capg ≤ 9223372036854775807 ∧
      wr.cell? ⟨b, k, none⟩ = some (.slice ao (c k) cap) ∧ c k ≤ cap ∧ cap ≤ 9223372036854775807 ∧
      (∀ i, i < c k → ∃ g1, ao = some ⟨g1, 0, none⟩ ∧ Tc wr g1 i (mkT k i)) ∧
      (∀ i (_ : i < c k + r.length), ∃ g2, ag = some ⟨g2, 0, none⟩ ∧ ∃ h : i < (q k).length, Tc wr g2 i (q k)[i]) := by
  obtain ⟨gg, gc, hgv, hg1, hg2, hgc, _⟩ := h.form (by omega)
  have hr := h.gr.row k hk
  have hl : (q k).length = c k + r.length := by rw [hq, List.length_append, marks_len]
  obtain ⟨ag, capg, hG, hG1, hG2, _⟩ := hr.formA
  have hf := h.ap.row k hk
  obtain ⟨ao, cap, hF, hF1, hF2, _⟩ := hf.formA
  rw [marks_len] at hF hF1
  rw [hl] at hG hG1
  refine ⟨ao, cap, ag, capg, gg, gc, hgv, hg1, hg2, by rw [hgc k hk, hG], hG1, hG2, by rw [h.ap.cell k hk, hF], hF1, hF2, fun i hi => ?_, fun i hi => ?_⟩
  · obtain ⟨g, cp, hv, _, _, hc, _⟩ := hf.formL (by rw [marks_len]; omega)
    rw [hF] at hv
    simp only [Value.slice.injEq] at hv
    refine ⟨g, hv.1, ?_⟩
    have := hc i (by rw [marks_len]; omega)
    rwa [marks_get] at this
  · obtain ⟨g, cp, hv, _, _, hc, _⟩ := hr.formL (by omega)
    rw [hG] at hv
    simp only [Value.slice.injEq] at hv
    exact ⟨g, hv.1, by omega, hc i (by omega)⟩
end Go.Proofs.Ytmglbcldjhdhkab
