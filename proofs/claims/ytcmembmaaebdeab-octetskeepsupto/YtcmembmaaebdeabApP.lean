/- The steps of ApartBytes: all rows are marked; each is grown; each is grown anew. -/
import Derived.Test.YtcmembmaaebdeabApM
namespace Go.Proofs.Ytcmembmaaebdeab
open Go.RowKit Go.PlainAid Go.Lib

abbrev TSS : TypeId := 54
theorem infoS : (Try.prog.info? TS).map (fun i => (i.zero, i.size, i.bytes)) = some (some (.slice none 0 0), 1, 24) := by kernel_rfl
theorem underSS : Try.prog.underlying TSS = some (.slice TS) := Try.underlying54

/-- the rows below k are marked -/
structure Ph1 (w wr : World) (b n : Nat) (F : Nat → Value) (c : Nat → Nat) (k : Nat) (m : Nat → List UInt8) : Prop where
  ap : Ap wr b n F m
  len : ∀ j, (m j).length = c j
  don : ∀ j, j < k → m j = marks j (c j)
  kp : Keep (blks n F) w wr

theorem Ph1.step {w wr : World} {b n : Nat} {F : Nat → Value} {c : Nat → Nat} {k : Nat} {m : Nat → List UInt8} (h : Ph1 w wr b n F c k m) (hk : k < n) {i g cap : Nat} (hi : i < c k) (hF : F k = .slice (some ⟨g, 0, none⟩) (c k) cap) (ht : (m k).take i = marks k i) :
    ∃ m', Ph1 w (wr.setCell ⟨g, i, none⟩ (.int .u8 ((mkB k i).toNat : Int))) b n F c k m' ∧ (m' k).take (i + 1) = marks k (i + 1) := by
  have hl := h.len k
  have hr := h.ap.row k hk
  rw [hF, ← hl] at hr
  have hr2 := hr.set i (mkB k i)
  rw [List.length_set, hl, ← hF] at hr2
  have hbk : (F k).ownBlock = some g := by rw [hF]; rfl
  have hK : Keep (F k).ownBlock.toList wr (wr.setCell ⟨g, i, none⟩ (.int .u8 ((mkB k i).toNat : Int))) := by
    rw [hbk]
    exact Keep.set1 wr ⟨g, i, none⟩ _
  refine ⟨updF m k ((m k).set i (mkB k i)), ⟨h.ap.turn k hk hK _ hr2, fun j => ?_, fun j hj => ?_, h.kp.setCell (.inl (mem_blks.2 ⟨k, hk, hbk⟩)) _⟩, ?_⟩
  · by_cases e : j = k
    · subst e
      rw [updF_at, List.length_set, hl]
    · rw [updF_ne _ _ _ e]
      exact h.len j
  · rw [updF_ne _ _ _ (by omega)]
    exact h.don j hj
  · rw [updF_at, take_set _ _ (by omega), ht, marks_succ]

theorem Ph1.next {w wr : World} {b n : Nat} {F : Nat → Value} {c : Nat → Nat} {k : Nat} {m : Nat → List UInt8} (h : Ph1 w wr b n F c k m) (ht : (m k).take (c k) = marks k (c k)) : Ph1 w wr b n F c (k + 1) m := by
  refine ⟨h.ap, h.len, fun j hj => ?_, h.kp⟩
  by_cases e : j = k
  · subst e
    rw [← ht, List.take_of_length_le (by rw [h.len j]; omega)]
  · exact h.don j (by omega)

/-- what is grown: the slices G below k, each with its bytes q, and the list gv of them -/
structure Gr (w0 wr : World) (gv : Value) (k : Nat) (F G : Nat → Value) (q : Nat → List UInt8) : Prop where
  row : ∀ j, j < k → Row wr (G j) (q j)
  blk : ∀ j, j < k → (G j).ownBlock = (F j).ownBlock ∨ ∀ x, (G j).ownBlock = some x → w0.heap.size ≤ x
  sep : ∀ i j, i < k → j < k → i ≠ j → ∀ x, (G i).ownBlock = some x → (G j).ownBlock ≠ some x
  gs : RowC wr TS 1 gv k ((List.range k).map G)
  gnew : ∀ x, gv.ownBlock = some x → w0.heap.size ≤ x
  goff : ∀ j, j < k → ∀ x, (G j).ownBlock = some x → gv.ownBlock ≠ some x

/-- all rows are marked, and below k they are grown -/
structure Ph2 (w wr : World) (b n : Nat) (F : Nat → Value) (c : Nat → Nat) (gv : Value) (k : Nat) (G : Nat → Value) (q : Nat → List UInt8) : Prop where
  ap : Ap wr b n F (fun j => marks j (c j))
  gr : Gr w wr gv k F G q
  kp : Keep (blks n F) w wr
  blt : b < w.heap.size
  flt : ∀ j, j < n → ∀ x, (F j).ownBlock = some x → x < w.heap.size

theorem Ph1.drew {w wr : World} {b n : Nat} {F : Nat → Value} {c : Nat → Nat} {k : Nat} {m : Nat → List UInt8} (h : Ph1 w wr b n F c k m) : Ph1 w wr.drew b n F c k m :=
  ⟨h.ap.keep ((Keep.refl [] _).drew) (by simp) (fun _ _ => Off.nil _), h.len, h.don, h.kp.drew⟩

theorem Ph2.same {w wr w2 : World} {b n : Nat} {F : Nat → Value} {c : Nat → Nat} {gv : Value} {k : Nat} {G : Nat → Value} {q : Nat → List UInt8} (h : Ph2 w wr b n F c gv k G q) (K : Keep [] wr w2) : Ph2 w w2 b n F c gv k G q :=
  ⟨h.ap.keep K (by simp) (fun _ _ => Off.nil _), ⟨fun j hj => (h.gr.row j hj).keep K (Off.nil _), h.gr.blk, h.gr.sep, h.gr.gs.keep K (Off.nil _), h.gr.gnew, h.gr.goff⟩, h.kp.more K (fun _ hx => by cases hx), h.blt, h.flt⟩

/-- the list of the grown ones, as it lies -/
theorem Ph2.form {w wr : World} {b n : Nat} {F : Nat → Value} {c : Nat → Nat} {gv : Value} {k : Nat} {G : Nat → Value} {q : Nat → List UInt8} (h : Ph2 w wr b n F c gv k G q) (hk : 0 < k) :
    ∃ gg gc, gv = .slice (some ⟨gg, 0, none⟩) k gc ∧ k ≤ gc ∧ gc ≤ 9223372036854775807 ∧ (∀ j, j < k → wr.cell? ⟨gg, j, none⟩ = some (G j)) ∧ ∀ j, wr.frozen? ⟨gg, j, none⟩ = false := by
  rcases h.gr.gs.cases with ⟨h0, _⟩ | ⟨g, cap, hv, h1, h2, _, h4, h5⟩
  · omega
  · refine ⟨g, cap, hv, h1, h2, fun j hj => ?_, h5⟩
    rw [h4 j (by omega)]
    simp [hj]

theorem Row.formL {w : World} {v : Value} {l : List UInt8} (h : Row w v l) (hl : 0 < l.length) :
    ∃ g cap, v = .slice (some ⟨g, 0, none⟩) l.length cap ∧ l.length ≤ cap ∧ cap ≤ 9223372036854775807 ∧ (∀ j, j < l.length → w.cell? ⟨g, j, none⟩ = some (.int .u8 ((l.getD j 0).toNat : Int))) ∧ ∀ j, w.frozen? ⟨g, j, none⟩ = false := by
  rcases h.cases with ⟨h0, _⟩ | ⟨g, cap, hv, h1, h2, _, h4, h5⟩
  · rw [h0] at hl
    simp at hl
  · exact ⟨g, cap, hv, h1, h2, h4, h5⟩
theorem Row.formA {w : World} {v : Value} {l : List UInt8} (h : Row w v l) : ∃ ao cap, v = .slice ao l.length cap ∧ l.length ≤ cap ∧ cap ≤ 9223372036854775807 ∧ v.oneCell' = true := by
  rcases h.cases with ⟨h0, hv⟩ | ⟨g, cap, hv, h1, h2, _⟩
  · exact ⟨none, 0, by rw [hv, h0]; rfl, by simp [h0], by omega, by rw [hv]; rfl⟩
  · exact ⟨_, cap, hv, h1, h2, by rw [hv]; rfl⟩

/-- an append to bytes of one's own: what they were before reads as it did -/
theorem wp_app2 {ops : Array Oper} {rest : List Oper} {o : Oper} {a : Act} {w : World} {Q : Exit → Act → World → Prop} (hgd : o.guard = none) (s x : Operand) (t tx : TypeId)
    (ho : o.op = .call { callee := .builtin .append, args := #[s, x], argTypes := #[t, tx] }) (ht : Try.prog.underlying t = some (.slice TB))
    (v : Value) (l : List UInt8) (hv : a.eval s = v) (hown : Row w v l) (u : Value) (r : List UInt8) (hu : a.eval x = u) (hs : Src Try.prog 1 tx u r.length (bv r) w)
    (hbytes : l.length + r.length ≤ 140737488355328)
    (h : ∀ v' w', Row w' v' (l ++ r) → Keep v.ownBlock.toList w w' → (v'.ownBlock = v.ownBlock ∨ Fresh w w' v') → Sl v' (l.length + r.length) → Row w' v l → wpList Try.prog ops Q rest (a.put o.dst v') w') : wpList Try.prog ops Q (o :: rest) a w := by
  refine wp_appC infoB rfl hgd s x t tx ho ht v l.length (bv l) hv hown u r.length (bv r) hu hs (by omega) (by simp only [maxLen]; omega) (fun v' w' h1 h2 h3 h4 h5 => h v' w' ?_ h2 h3 h4 h5)
  show World.ownsRow _ _ _ _ _ _ _
  rw [List.length_append, bv_append]
  exact h1

theorem srcS (w : World) (v : Value) (hv : v.oneCell' = true) : Src Try.prog 1 TSS (.slice (some ⟨w.heap.size, 0, none⟩) 1 1) 1 [v] (w.alloc (.cells #[v] TS)) := by
  refine Src.ofSlice _ underSS ⟨w.heap.size, 0, none⟩ 1 1 [v] rfl (fun j u hu => ?_) (fun u hu => by simp at hu; rw [hu]; exact hv)
  have hj : j = 0 := by
    have := (List.getElem?_eq_some_iff.1 hu).1
    simpa using this
  subst hj
  simp at hu
  subst hu
  simp [go_sem]

theorem Ph2.zero {w wr : World} {b n : Nat} {F : Nat → Value} {c : Nat → Nat} {m : Nat → List UInt8} (h : Ph1 w wr b n F c n m) (hb : b < w.heap.size) (hf : ∀ j, j < n → ∀ x, (F j).ownBlock = some x → x < w.heap.size) : Ph2 w wr b n F c (.slice none 0 0) 0 F (fun _ => []) :=
  ⟨h.ap.same (fun k hk => (h.don k hk).symm), ⟨fun j hj => by omega, fun j hj => by omega, fun i j hi => by omega, World.ownsRow_nil _ _ _ _, fun x hx => by simp [Value.ownBlock] at hx, fun j hj => by omega⟩, h.kp, hb, hf⟩

/-- the row k while it is grown, from the world w1 on -/
structure Gw (w1 wr : World) (u v : Value) (k ck i : Nat) : Prop where
  old : Row wr u (marks k ck)
  row : Row wr v (marks k (ck + i))
  kp : Keep u.ownBlock.toList w1 wr
  blk : v.ownBlock = u.ownBlock ∨ Fresh w1 wr v

theorem Gw.step {w1 wr w2 : World} {u v v' : Value} {k ck i : Nat} (h : Gw w1 wr u v k ck i) {o : Obj} (K : Keep v.ownBlock.toList (wr.alloc o) w2) (hv' : v'.ownBlock = v.ownBlock ∨ Fresh (wr.alloc o) w2 v') (hr : Row w2 v' (marks k (ck + (i + 1)))) (hold : Row w2 v (marks k (ck + i))) : Gw w1 w2 u v' k ck (i + 1) := by
  obtain ⟨r, er, _⟩ := marks_app k ck i
  have hs : (wr.alloc o).heap.size = wr.heap.size + 1 := by simp
  have hk1 := h.kp.size
  have hk2 := K.size
  have K1 : Keep u.ownBlock.toList w1 (wr.alloc o) := h.kp.alloc o
  refine ⟨?_, hr, ?_, ?_⟩
  · by_cases e : u.ownBlock = v.ownBlock
    · exact Row.front (w := wr) (r := r) h.old (by rw [← er]; exact h.row) e (by rw [← er]; exact hold)
    · exact (h.old.keep (Keep.alloc1 wr o) (Off.nil _)).keep K (fun x hx hm => e (by rw [hx]; exact (by simpa using hm : v.ownBlock = some x).symm))
  · refine K1.more K (fun x hx => ?_)
    rcases h.blk with e | e
    · exact .inl (by rw [← e]; exact hx)
    · exact .inr (e x (by simpa using hx)).1
  · rcases hv' with e | e
    · rcases h.blk with e2 | e2
      · exact .inl (e.trans e2)
      · refine .inr (fun x hx => ?_)
        have := e2 x (by rw [← e]; exact hx)
        omega
    · refine .inr (fun x hx => ?_)
      have := e x hx
      omega

/-- the slice k has been grown in place or anew: the rest stays -/
theorem Ph2.grown {w w1 wr : World} {b n : Nat} {F : Nat → Value} {c : Nat → Nat} {gv : Value} {k : Nat} {G : Nat → Value} {q : Nat → List UInt8} (h : Ph2 w w1 b n F c gv k G q) (hk : k < n) {v : Value} {j : Nat} (hw : Gw w1 wr (F k) v k (c k) j) :
    Ph2 w wr b n F c gv k G q ∧ (∀ i, i < k → ∀ x, (G i).ownBlock = some x → v.ownBlock ≠ some x) ∧ (∀ x, gv.ownBlock = some x → v.ownBlock ≠ some x) ∧ (v.ownBlock = (F k).ownBlock ∨ ∀ x, v.ownBlock = some x → w.heap.size ≤ x) := by
  have hs := h.kp.size
  have offG : ∀ i, i < k → Off (G i) (F k).ownBlock.toList := by
    intro i hi x hx hm
    have hm : (F k).ownBlock = some x := by simpa using hm
    rcases h.gr.blk i hi with e | e
    · exact h.ap.sep i k (by omega) hk (by omega) x (by rw [← e]; exact hx) hm
    · have := e x hx
      have := h.flt k hk x hm
      omega
  have offg : Off gv (F k).ownBlock.toList := by
    intro x hx hm
    have hm : (F k).ownBlock = some x := by simpa using hm
    have := h.gr.gnew x hx
    have := h.flt k hk x hm
    omega
  refine ⟨⟨(h.ap.turn k hk hw.kp _ hw.old).same (fun i _ => ?_), ⟨fun i hi => (h.gr.row i hi).keep hw.kp (offG i hi), h.gr.blk, h.gr.sep, h.gr.gs.keep hw.kp offg, h.gr.gnew, h.gr.goff⟩, h.kp.more hw.kp (fun x hx => .inl (mem_blks.2 ⟨k, hk, by simpa using hx⟩)), h.blt, h.flt⟩, fun i hi x hx hv => ?_, fun x hx hv => ?_, ?_⟩
  · by_cases e : i = k
    · subst e
      rw [updF_at]
    · rw [updF_ne _ _ _ e]
  · rcases hw.blk with e | e
    · exact offG i hi x hx (by simp [← e, hv])
    · have h1 := (e x hv).1
      have h2 := (h.gr.row i hi).lt x hx
      omega
  · rcases hw.blk with e | e
    · exact offg x hx (by simp [← e, hv])
    · have h1 := (e x hv).1
      have h2 := h.gr.gs.lt x hx
      omega
  · rcases hw.blk with e | e
    · exact .inl e
    · exact .inr (fun x hx => by have := (e x hx).1; omega)

/-- and is put behind the others -/
theorem Ph2.next {w wr w2 : World} {b n : Nat} {F : Nat → Value} {c : Nat → Nat} {gv gv' : Value} {k : Nat} {G : Nat → Value} {q : Nat → List UInt8} {v : Value} {l : List UInt8} {o : Obj} (h : Ph2 w wr b n F c gv k G q) (_hk : k < n)
    (hv : Row wr v l) (h1 : ∀ i, i < k → ∀ x, (G i).ownBlock = some x → v.ownBlock ≠ some x) (h2 : ∀ x, gv.ownBlock = some x → v.ownBlock ≠ some x) (h3 : v.ownBlock = (F k).ownBlock ∨ ∀ x, v.ownBlock = some x → w.heap.size ≤ x)
    (R : RowC w2 TS 1 gv' (k + 1) ((List.range k).map G ++ [v])) (K : Keep gv.ownBlock.toList (wr.alloc o) w2) (hg' : gv'.ownBlock = gv.ownBlock ∨ Fresh (wr.alloc o) w2 gv') : Ph2 w w2 b n F c gv' (k + 1) (updF G k v) (updF q k l) := by
  have hsz : (wr.alloc o).heap.size = wr.heap.size + 1 := by simp
  have hs := h.kp.size
  have hK2 := K.size
  have K1 : Keep gv.ownBlock.toList wr w2 := ((Keep.alloc1 wr o).mono (fun _ hx => by cases hx)).trans' K
  have gn : ∀ x, x ∈ gv.ownBlock.toList → w.heap.size ≤ x := fun x hx => h.gr.gnew x (by simpa using hx)
  have offF : ∀ j, j < n → Off (F j) gv.ownBlock.toList := by
    intro j hj x hx hm
    have := gn x hm
    have := h.flt j hj x hx
    omega
  have offG : ∀ j, j < k → Off (G j) gv.ownBlock.toList := fun j hj x hx hm => h.gr.goff j hj x hx (by simpa using hm)
  have offv : Off v gv.ownBlock.toList := fun x hx hm => h2 x (by simpa using hm) hx
  have emap : (List.range (k + 1)).map (updF G k v) = (List.range k).map G ++ [v] := by
    rw [List.range_succ, List.map_append]
    congr 1
    · apply List.map_congr_left
      intro j hj
      rw [updF_ne _ _ _ (by simp at hj; omega)]
    · simp [updF]
  refine ⟨h.ap.keep K1 (fun hm => by have := gn b hm; have := h.blt; omega) offF, ⟨fun j hj => ?_, fun j hj => ?_, fun i j hi hj hij x hx => ?_, by rw [emap]; exact R, fun x hx => ?_, fun j hj x hx => ?_⟩, h.kp.more K1 (fun x hx => .inr (gn x hx)), h.blt, h.flt⟩
  · by_cases e : j = k
    · subst e
      rw [updF_at, updF_at]
      exact hv.keep K1 offv
    · rw [updF_ne _ _ _ e, updF_ne _ _ _ e]
      exact (h.gr.row j (by omega)).keep K1 (offG j (by omega))
  · by_cases e : j = k
    · subst e
      rw [updF_at]
      exact h3
    · rw [updF_ne _ _ _ e]
      exact h.gr.blk j (by omega)
  · by_cases e : i = k
    · subst e
      rw [updF_at] at hx
      rw [updF_ne _ _ _ (by omega)]
      exact fun hy => h1 j (by omega) x hy hx
    · rw [updF_ne _ _ _ e] at hx
      by_cases e2 : j = k
      · subst e2
        rw [updF_at]
        exact h1 i (by omega) x hx
      · rw [updF_ne _ _ _ e2]
        exact h.gr.sep i j (by omega) (by omega) hij x hx
  · rcases hg' with e | e
    · exact h.gr.gnew x (by rw [← e]; exact hx)
    · have := (e x hx).1
      omega
  · have hlt : x < (wr.alloc o).heap.size := by
      by_cases e : j = k
      · subst e
        rw [updF_at] at hx
        have := hv.lt x hx
        omega
      · rw [updF_ne _ _ _ e] at hx
        have := (h.gr.row j (by omega)).lt x hx
        omega
    intro hg
    rcases hg' with e | e
    · by_cases e2 : j = k
      · subst e2
        rw [updF_at] at hx
        exact h2 x (by rw [← e]; exact hg) hx
      · rw [updF_ne _ _ _ e2] at hx
        exact h.gr.goff j (by omega) x hx (by rw [← e]; exact hg)
    · have := (e x hg).1
      omega

/-- the slice k is grown anew and stored in the list's place k -/
theorem Ph2.again {w w1 w2 : World} {b n : Nat} {F : Nat → Value} {c : Nat → Nat} {gv : Value} {G : Nat → Value} {q : Nat → List UInt8} {k gg gc : Nat} (h : Ph2 w w1 b n F c gv n G q) (hk : k < n) (hgv : gv = .slice (some ⟨gg, 0, none⟩) n gc) {v : Value} {r : List UInt8}
    (K : Keep (F k).ownBlock.toList w1 w2) (hv : v.ownBlock = (F k).ownBlock ∨ Fresh w1 w2 v) (hr : Row w2 v (marks k (c k) ++ r)) (hold : Row w2 (F k) (marks k (c k))) :
    Ph2 w (w2.setCell ⟨gg, k, none⟩ v) b n F c gv n (updF G k v) (updF q k (marks k (c k) ++ r)) := by
  have hs := h.kp.size
  have hK := K.size
  have hgb : gv.ownBlock = some gg := by rw [hgv]; rfl
  have hgg : w.heap.size ≤ gg := h.gr.gnew gg hgb
  have hgl : gg < w1.heap.size := h.gr.gs.lt gg hgb
  have offG : ∀ i, i < n → i ≠ k → Off (G i) (F k).ownBlock.toList := by
    intro i hi hik x hx hm
    have hm : (F k).ownBlock = some x := by simpa using hm
    rcases h.gr.blk i hi with e | e
    · exact h.ap.sep i k hi hk hik x (by rw [← e]; exact hx) hm
    · have := e x hx
      have := h.flt k hk x hm
      omega
  have offg : Off gv (F k).ownBlock.toList := by
    intro x hx hm
    have hm : (F k).ownBlock = some x := by simpa using hm
    have := h.gr.gnew x hx
    have := h.flt k hk x hm
    omega
  have vne : v.ownBlock ≠ some gg := by
    intro hx
    rcases hv with e | e
    · have := h.flt k hk gg (by rw [← e]; exact hx)
      omega
    · have := (e gg hx).1
      omega
  have vG : ∀ i, i < n → i ≠ k → ∀ x, (G i).ownBlock = some x → v.ownBlock ≠ some x := by
    intro i hi hik x hx hvx
    rcases hv with e | e
    · exact offG i hi hik x hx (by simp [← e, hvx])
    · have h1 := (e x hvx).1
      have h2 := (h.gr.row i hi).lt x hx
      omega
  have A2 : Ap w2 b n F (fun j => marks j (c j)) := (h.ap.turn k hk K _ hold).same (fun i _ => by
    by_cases e : i = k
    · subst e
      rw [updF_at]
    · rw [updF_ne _ _ _ e])
  have S : Keep [gg] w2 (w2.setCell ⟨gg, k, none⟩ v) := Keep.set1 w2 ⟨gg, k, none⟩ v
  have G2 : RowC w2 TS 1 gv n ((List.range n).map G) := h.gr.gs.keep K offg
  rw [hgv] at G2
  have G3 := (World.ownsRow.stored G2 k v).1
  have emap : ((List.range n).map G).set k v = (List.range n).map (updF G k v) := by
    apply List.ext_getElem
    · simp
    · intro i h1 h2
      simp only [List.length_map, List.length_range] at h2
      rw [List.getElem_set]
      by_cases e : i = k
      · subst e
        simp [updF]
      · rw [if_neg (by omega)]
        simp [updF, e]
  rw [emap, ← hgv] at G3
  refine ⟨A2.keep S (fun hm => by have := h.blt; simp at hm; omega) (fun j hj x hx hm => by have := h.flt j hj x hx; simp at hm; omega), ⟨fun j hj => ?_, fun j hj => ?_, fun i j hi hj hij x hx => ?_, G3, h.gr.gnew, fun j hj x hx => ?_⟩, (h.kp.more K (fun x hx => .inl (mem_blks.2 ⟨k, hk, by simpa using hx⟩))).setCell (.inr hgg) _, h.blt, h.flt⟩
  · by_cases e : j = k
    · subst e
      rw [updF_at, updF_at]
      exact hr.keep S (fun x hx hm => vne (by simp at hm; rw [← hm]; exact hx))
    · rw [updF_ne _ _ _ e, updF_ne _ _ _ e]
      exact ((h.gr.row j hj).keep K (offG j hj e)).keep S (fun x hx hm => h.gr.goff j hj x hx (by simp at hm; rw [hgb, hm]))
  · by_cases e : j = k
    · subst e
      rw [updF_at]
      rcases hv with e | e
      · exact .inl e
      · exact .inr (fun x hx => by have := (e x hx).1; omega)
    · rw [updF_ne _ _ _ e]
      exact h.gr.blk j hj
  · by_cases e : i = k
    · subst e
      rw [updF_at] at hx
      rw [updF_ne _ _ _ (by omega)]
      exact fun hy => vG j hj (by omega) x hy hx
    · rw [updF_ne _ _ _ e] at hx
      by_cases e2 : j = k
      · subst e2
        rw [updF_at]
        exact vG i hi e x hx
      · rw [updF_ne _ _ _ e2]
        exact h.gr.sep i j hi hj hij x hx
  · by_cases e : j = k
    · subst e
      rw [updF_at] at hx
      rw [hgb]
      intro hy
      exact vne (by rw [hx, ← hy])
    · rw [updF_ne _ _ _ e] at hx
      exact h.gr.goff j hj x hx

/-- while the row k is written, the list of the grown ones lies as it did -/
theorem Ph2.form9 {w w1 w2 : World} {b n : Nat} {F : Nat → Value} {c : Nat → Nat} {gv : Value} {G : Nat → Value} {q : Nat → List UInt8} {k gg gc : Nat} (h : Ph2 w w1 b n F c gv n G q) (hk : k < n) (hgv : gv = .slice (some ⟨gg, 0, none⟩) n gc) (K : Keep (F k).ownBlock.toList w1 w2) :
    w2.cell? ⟨gg, k, none⟩ = some (G k) ∧ w2.frozen? ⟨gg, k, none⟩ = false := by
  have offg : Off gv (F k).ownBlock.toList := by
    intro x hx hm
    have hm : (F k).ownBlock = some x := by simpa using hm
    have := h.gr.gnew x hx
    have := h.flt k hk x hm
    omega
  rcases (h.gr.gs.keep K offg).cases with ⟨h0, _⟩ | ⟨g, cap, hv, _, _, _, h4, h5⟩
  · omega
  · rw [hgv] at hv
    simp at hv
    obtain ⟨rfl, _⟩ := hv
    refine ⟨?_, h5 k⟩
    rw [h4 k (by omega)]
    simp [hk]

/-- what the check of the row k looks at -/
theorem Ph2.look {w wr : World} {b n : Nat} {F : Nat → Value} {c : Nat → Nat} {gv : Value} {G : Nat → Value} {q : Nat → List UInt8} {k : Nat} (h : Ph2 w wr b n F c gv n G q) (hk : k < n) {r : List UInt8} (hq : q k = marks k (c k) ++ r) :
    ∃ ao cap ag capg gg gc, gv = .slice (some ⟨gg, 0, none⟩) n gc ∧ n ≤ gc ∧ gc ≤ 9223372036854775807 ∧ wr.cell? ⟨gg, k, none⟩ = some (.slice ag (c k + r.length) capg) ∧ c k + r.length ≤ capg ∧ capg ≤ 9223372036854775807 ∧
      wr.cell? ⟨b, k, none⟩ = some (.slice ao (c k) cap) ∧ c k ≤ cap ∧ cap ≤ 9223372036854775807 ∧
      (∀ i, i < c k → ∃ g1, ao = some ⟨g1, 0, none⟩ ∧ wr.cell? ⟨g1, i, none⟩ = some (.int .u8 ((mkB k i).toNat : Int))) ∧
      (∀ i, i < c k + r.length → ∃ g2, ag = some ⟨g2, 0, none⟩ ∧ wr.cell? ⟨g2, i, none⟩ = some (.int .u8 (((q k).getD i 0).toNat : Int))) := by
  obtain ⟨gg, gc, hgv, hg1, hg2, hgc, _⟩ := h.form (by omega)
  have hr := h.gr.row k hk
  have hl : (q k).length = c k + r.length := by rw [hq, List.length_append, marks_len]
  obtain ⟨ag, capg, hG, hG1, hG2, _⟩ := hr.formA
  have hf := h.ap.row k hk
  obtain ⟨ao, cap, hF, hF1, hF2, _⟩ := hf.formA
  rw [marks_len] at hF hF1
  rw [hl] at hG hG1
  refine ⟨ao, cap, ag, capg, gg, gc, hgv, hg1, hg2, by rw [hgc k hk, hG], hG1, hG2, by rw [h.ap.cell k hk, hF], hF1, hF2, fun i hi => ?_, fun i hi => ?_⟩
  · obtain ⟨g, cp, hv, _, _, hc, _⟩ := hf.formL (by rw [marks_len]; omega)
    rw [hF] at hv
    simp at hv
    refine ⟨g, hv.1, ?_⟩
    rw [hc i (by rw [marks_len]; omega), marks_get k _ i hi]
  · obtain ⟨g, cp, hv, _, _, hc, _⟩ := hr.formL (by omega)
    rw [hG] at hv
    simp at hv
    exact ⟨g, hv.1, hc i (by omega)⟩

end Go.Proofs.Ytcmembmaaebdeab
