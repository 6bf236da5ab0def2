/- A row of numbers of one's own, and an append to it. -/
import Derived.Test.YtcmembmaaebdeaaOwn
namespace Go.Proofs.Ytcmembmaaebdeaa
open Go.RowKit Go.PlainAid

abbrev TI : TypeId := 3

theorem infoI : (Try.prog.info? TI).map (fun i => (i.zero, i.size, i.bytes)) = some (some (.int .i64 0), 1, 8) := by kernel_rfl
theorem underI : Try.prog.underlying 69 = some (.slice TI) := Try.underlying69

def iv (l : List Int) : List Value := l.map fun x => Value.int .i64 x
theorem iv_length (l : List Int) : (iv l).length = l.length := by simp [iv]
theorem iv_append (a b : List Int) : iv (a ++ b) = iv a ++ iv b := by simp [iv]
theorem iv_get (l : List Int) (j : Nat) (hj : j < l.length) : (iv l)[j]? = some (.int .i64 l[j]) := by simp [iv, hj]
theorem iv_one (l : List Int) : ∀ u ∈ iv l, u.oneCell' = true := by
  intro u hu
  obtain ⟨x, _, rfl⟩ := List.mem_map.1 hu
  rfl

/-- a row of numbers of one's own -/
def RowI (w : World) (v : Value) (l : List Int) : Prop := w.ownsRow 0 TI 1 v l.length (iv l)

theorem RowI.nil (w : World) : RowI w (.slice none 0 0) [] := World.ownsRow_nil w 0 TI 1
theorem RowI.keep {F : List Nat} {w w' : World} {v : Value} {l : List Int} (h : RowI w v l) (k : Keep F w w') (hn : Off v F) : RowI w' v l := by
  refine ⟨h.1, ?_⟩
  rcases h.2 with hz | ⟨g, cap, cur, rfl, hb, hg, r⟩
  · exact .inl hz
  · exact .inr ⟨g, cap, cur, rfl, hb, (k.block g (Array.getElem?_eq_some_iff.1 hg).1 (hn g rfl)).trans hg, r⟩
theorem RowI.lt {w : World} {v : Value} {l : List Int} (h : RowI w v l) : ∀ k, v.ownBlock = some k → k < w.heap.size := fun k hk => (World.ownsRow.lt h k hk).2
/-- nothing; or an address, and the cells behind it -/
theorem RowI.cases {w : World} {v : Value} {l : List Int} (h : RowI w v l) : (l = [] ∧ v = .slice none 0 0) ∨
    ∃ g cap, v = .slice (some ⟨g, 0, none⟩) l.length cap ∧ l.length ≤ cap ∧ cap ≤ 9223372036854775807 ∧ ∀ j (hj : j < l.length), w.cell? ⟨g, j, none⟩ = some (.int .i64 l[j]) := by
  rcases h.2 with ⟨rfl, hz⟩ | ⟨g, cap, cur, rfl, hb, hg, hnc, hcm, hcs, htake⟩
  · exact .inl ⟨List.eq_nil_of_length_eq_zero hz, rfl⟩
  · refine .inr ⟨g, cap, rfl, hnc, by simp only [maxLen] at hcm; omega, fun j hj => ?_⟩
    have := World.ownsRow.cellAt h j (by omega)
    rw [this, iv_get l j hj]

theorem srcI (w : World) (x : Int) : Src Try.prog 1 69 (.slice (some ⟨w.heap.size, 0, none⟩) 1 1) [x].length (iv [x]) (w.alloc (.cells #[.int .i64 x] TI)) := by
  refine Src.ofSlice _ underI ⟨w.heap.size, 0, none⟩ 1 1 (iv [x]) rfl (fun j u hu => ?_) (iv_one _)
  have hj : j = 0 := by
    have := (List.getElem?_eq_some_iff.1 hu).1
    simpa [iv] using this
  subst hj
  simp [iv] at hu
  subst hu
  simp [go_sem]

theorem run_appI (w : World) (t tx ty : TypeId) (ht : Try.prog.underlying t = some (.slice TI)) (v : Value) (l : List Int) (hown : RowI w v l) (x : Value) (r : List Int) (hs : Src Try.prog 1 tx x r.length (iv r) w)
    (hbytes : l.length + r.length ≤ 17592186044416) :
    ∃ v' w', (Builtin.append_ #[t, tx] ty #[v, x]).run Try.prog w = .ok v' w' ∧ RowI w' v' (l ++ r) ∧ Keep v.ownBlock.toList w w' ∧ (v'.ownBlock = v.ownBlock ∨ Fresh w w' v') ∧ Sl v' (l.length + r.length) := by
  obtain ⟨i, hi, hz, hsize, hby⟩ := info_parts infoI
  have h63 : l.length + r.length ≤ maxLen := by simp only [maxLen]; omega
  have hlen : (iv l ++ iv r).length = (l.length + r.length) * i.size := by rw [hsize]; simp [iv_length]
  have hs' : Src Try.prog i.size tx x r.length (iv r) w := by rw [hsize]; exact hs
  have hz1 : (Value.int IntKind.i64 0).cells.size = i.size := by rw [hsize]; rfl
  have grown : ∀ (old : Nat), old < l.length + r.length →
      RowI (w.drew.alloc (.cells ((iv l ++ iv r).toArray ++ Builtin.zeroCells (Value.int IntKind.i64 0).cells (grownCap w (l.length + r.length) old TI - (l.length + r.length))) TI)) (.slice (some ⟨w.heap.size, 0, none⟩) (l.length + r.length) (grownCap w (l.length + r.length) old TI)) (l ++ r) ∧
      Keep v.ownBlock.toList w (w.drew.alloc (.cells ((iv l ++ iv r).toArray ++ Builtin.zeroCells (Value.int IntKind.i64 0).cells (grownCap w (l.length + r.length) old TI - (l.length + r.length))) TI)) ∧
      Fresh w (w.drew.alloc (.cells ((iv l ++ iv r).toArray ++ Builtin.zeroCells (Value.int IntKind.i64 0).cells (grownCap w (l.length + r.length) old TI - (l.length + r.length))) TI)) (.slice (some ⟨w.heap.size, 0, none⟩) (l.length + r.length) (grownCap w (l.length + r.length) old TI)) := by
    intro old ho
    have hge := grownCap_ge w (l.length + r.length) old TI
    have hcm : grownCap w (l.length + r.length) old TI ≤ maxLen := grownCap_le_maxLen w _ old TI h63
    refine ⟨⟨by simp [iv_length], .inr ⟨w.heap.size, _, _, by simp, Nat.zero_le _, heap_alloc_new w.drew _, by simpa using hge, hcm, ?_, ?_⟩⟩, ((Keep.refl _ w).drew).alloc _, ?_⟩
    · simp only [Array.size_append, List.size_toArray, size_zeroCells, List.length_append, iv_length]
      simp [Value.cells]
      omega
    · simp only [Array.toList_append, iv_append]
      rw [List.take_append_of_le_length (by simp [iv_length])]
      exact List.take_of_length_le (by simp [iv_length])
    · intro k hk
      simp [Value.ownBlock] at hk
      subst hk
      exact ⟨Nat.le_refl _, by simp⟩
  rcases hown.2 with ⟨rfl, hz0⟩ | ⟨g, cap, cur, rfl, hbg, hg, hnc, hcm, hcs, htake⟩
  · have hl0 : l = [] := List.eq_nil_of_length_eq_zero hz0
    subst hl0
    by_cases hm : r.length = 0
    · have hr0 : r = [] := List.eq_nil_of_length_eq_zero hm
      subst hr0
      refine ⟨.slice none 0 0, w, ?_, RowI.nil w, Keep.refl _ w, .inl rfl, ⟨none, 0, rfl⟩⟩
      have hc := hs'.cells
      have hl := hs'.len
      simp only [List.length_nil] at hc hl
      rcases hs'.kind with ⟨e', hk⟩ | hk <;>
        simp [Builtin.append_, run_underlying ht, run_underlying hk, sizeOf, typeInfo, hi, hl, hc, iv]
    · have hr := run_append_grow_src (P := Try.prog) w t tx ty TI i (.int .i64 0) ht hi hz none 0 0 [] (run_firstCells_none w.drew i.size 0 0 0) x r.length (iv r) hs' (by omega) (by simp only [maxLen] at h63; simp at h63; omega)
        (by rw [hby]; have := hbytes; simp at this; exact growslice_fits (bytes := 8) (by omega) (by omega))
      obtain ⟨g1, g2, g3⟩ := grown 0 (by simp; omega)
      simp only [List.length_nil, Nat.zero_add, List.nil_append, iv, List.map_nil] at hr g1 g2 g3 ⊢
      exact ⟨_, _, hr, g1, g2, .inr g3, _, _, rfl⟩
  · by_cases hroom : l.length + r.length ≤ cap
    · have hfit : l.length * i.size + (iv r).length ≤ cur.size := by rw [hsize, hcs, iv_length]; omega
      have hst := run_storeCells_at Try.prog g (l.length * i.size) TI (iv r) 0 cur w hg (by simpa using hfit) hs'.one
      simp only [Nat.add_zero] at hst
      refine ⟨.slice (some ⟨g, 0, none⟩) (l.length + r.length) cap, w.setRow g (cur.toList.take (l.length * i.size) ++ iv r ++ cur.toList.drop (l.length * i.size + (iv r).length)).toArray, ?_, ⟨by simp [iv_length], .inr ⟨g, cap, _, by simp, Nat.zero_le _, setRow_heap w g cur _ TI _ hg, by simpa using hroom, hcm, ?_, ?_⟩⟩, ?_, .inl rfl, ⟨_, _, rfl⟩⟩
      · rcases hs'.kind with ⟨e', hk⟩ | hk <;>
          simp [Builtin.append_, run_underlying ht, run_underlying hk, sizeOf, typeInfo, hi, hs'.len, hroom, hs'.cells, Addr.add_lit, hst]
      · rw [hsize]
        simp only [List.size_toArray, List.length_append, List.length_take, List.length_drop, Array.length_toList, iv_length]
        omega
      · rw [hsize, htake]
        simp only [iv_append]
        rw [List.take_append_of_le_length (by simp [iv_length])]
        exact List.take_of_length_le (by simp [iv_length])
      · exact ⟨rfl, rfl, rfl, by simp, fun k _ hk => setRow_other w g k _ (fun e => hk (by simp [Value.ownBlock, e]))⟩
    · have holds : ∀ j u, (iv l)[j]? = some u → w.cell? ((⟨g, 0, none⟩ : Addr).add j) = some u := World.ownsRow.cells hown (g := g) rfl
      have hr := run_append_grow_src (P := Try.prog) w t tx ty TI i (.int .i64 0) ht hi hz (some ⟨g, 0, none⟩) l.length cap (iv l) (run_firstCells_some w.drew i.size l.length ⟨g, 0, none⟩ l.length cap (iv l) (by rw [hsize]; simp [iv_length]) (by simpa using holds)) x r.length (iv r) hs' (by omega) (by simp only [maxLen] at h63; omega)
        (by rw [hby]; exact growslice_fits (bytes := 8) (by omega) (by omega))
      obtain ⟨g1, g2, g3⟩ := grown cap (by omega)
      exact ⟨_, _, hr, g1, g2, .inr g3, _, _, rfl⟩

/-- x = append(x, ..): the row goes on by what is appended -/
theorem wp_appI {ops : Array Oper} {rest : List Oper} {o : Oper} {a : Act} {w : World} {Q : Exit → Act → World → Prop} (hgd : o.guard = none) (s x : Operand) (t tx : TypeId)
    (ho : o.op = .call { callee := .builtin .append, args := #[s, x], argTypes := #[t, tx] }) (ht : Try.prog.underlying t = some (.slice TI))
    (v : Value) (l : List Int) (hv : a.eval s = v) (hown : RowI w v l) (u : Value) (r : List Int) (hu : a.eval x = u) (hs : Src Try.prog 1 tx u r.length (iv r) w)
    (hbytes : l.length + r.length ≤ 17592186044416)
    (h : ∀ v' w', RowI w' v' (l ++ r) → Keep v.ownBlock.toList w w' → (v'.ownBlock = v.ownBlock ∨ Fresh w w' v') → Sl v' (l.length + r.length) → wpList Try.prog ops Q rest (a.put o.dst v') w') : wpList Try.prog ops Q (o :: rest) a w := by
  obtain ⟨v', w', hr, h1, h2, h3, h4⟩ := run_appI w t tx o.type ht v l hown u r hs hbytes
  refine wpList_plain hgd fun K hK => ?_
  unfold Oper.wp execOp
  simp only [ho, resolve, invoke, builtin, Sem.run_bind, Sem.run_pure, Result.andThen_ok, List.map_toArray, List.map_cons, List.map_nil, hv, hu, hr]
  exact hK _ _ (h v' w' h1 h2 h3 h4)

end Go.Proofs.Ytcmembmaaebdeaa
