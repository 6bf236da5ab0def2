/- StrataKeeps: what stands while it goes on: the lent arcs, and the rows that were answered, apart. -/
import Derived.Test.YtmlpkjeaieljfabAj
import Derived.Test.YtmlpkjeaieljfabFt
namespace Go.Proofs.Ytmlpkjeaieljfab
open Go.RowKit Go.PlainAid

theorem flat_set3z (l : List Az) (i : Nat) (hi : i < l.length) (a : Az) : (((l.flatMap encZ).set (i * 3) (.int .i64 a.f)).set (i * 3 + 1) (.int .i64 a.t)).set (i * 3 + 2) (.bool a.g) = (l.set i a).flatMap encZ := by
  have e1 : l = l.take i ++ l[i] :: l.drop (i + 1) := by rw [← List.drop_eq_getElem_cons hi, List.take_append_drop]
  have hlen : ((l.take i).flatMap encZ).length = i * 3 := by rw [flat_len encZ_len, List.length_take, Nat.min_eq_left (by omega)]
  have e2 : l.flatMap encZ = (l.take i).flatMap encZ ++ (.int .i64 l[i].f :: .int .i64 l[i].t :: .bool l[i].g :: (l.drop (i + 1)).flatMap encZ) := by
    conv => lhs; rw [e1, List.flatMap_append, List.flatMap_cons]
    rfl
  have e3 : l.set i a = l.take i ++ a :: l.drop (i + 1) := by rw [List.set_eq_take_append_cons_drop, if_pos hi]
  rw [e3, e2, List.set_append_right _ _ (by omega), hlen, List.set_append_right _ _ (by omega), hlen, List.set_append_right _ _ (by omega), hlen]
  rw [show i * 3 - i * 3 = 0 by omega, show i * 3 + 1 - i * 3 = 1 by omega, show i * 3 + 2 - i * 3 = 2 by omega, List.flatMap_append, List.flatMap_cons]
  rfl
theorem Rw.put3z {w : World} {g n cap : Nat} {l : List Az} (h : Rw 31 encZ 3 w (.slice (some ⟨g, 0, none⟩) n cap) l) (hn : l.length = n) (i : Nat) (hi : i < n) (a : Az) : Rw 31 encZ 3 (((w.setCell ⟨g, i * 3, none⟩ (.int .i64 a.f)).setCell ⟨g, i * 3 + 1, none⟩ (.int .i64 a.t)).setCell ⟨g, i * 3 + 2, none⟩ (.bool a.g)) (.slice (some ⟨g, 0, none⟩) n cap) (l.set i a) := by
  unfold Rw at h ⊢
  rw [List.length_set, hn, ← flat_set3z l i (by omega) a]
  rw [hn] at h
  exact ((h.set (i * 3) _).set (i * 3 + 1) _).set (i * 3 + 2) _

/-- answers are short -/
theorem fault_node {n : Int} {l : List Az} (h : faultZ n l = 0) : n.toNat ≤ 4096 := by
  obtain ⟨N, A, rfl, _, h1, _, h3, _⟩ := fine_all h
  omega
theorem ofN_len (l : List Nat) : (ofN l).length = l.length := by simp [ofN]
theorem partL_len (n : Nat) (A : List Ar) : (partL n A).length ≤ n := by
  unfold partL
  split
  · rename_i h
    exact Nat.le_of_eq (Classical.choose_spec h).1
  · simp
theorem levL_len (n : Nat) (A : List Ar) : (levL n A).length ≤ n := by
  unfold levL
  split
  · rename_i h
    exact Nat.le_of_eq (Classical.choose_spec h).1
  · simp
theorem parts_len (n : Int) (l : List Az) : (partsAns n l).1.length ≤ 4096 := by
  unfold partsAns
  by_cases h : faultZ n l = 0
  · rw [if_pos h]
    have := fault_node h
    have := partL_len n.toNat (l.map Az.a)
    show (ofN _).length ≤ _
    rw [ofN_len]
    omega
  · rw [if_neg h]; simp
theorem strata_len (n : Int) (l : List Az) : (strataAns n l).1.length ≤ 4096 := by
  unfold strataAns
  by_cases h : faultZ n l = 0
  · rw [if_pos h]
    have := fault_node h
    have := levL_len n.toNat (l.map Az.a)
    split
    · show (ofN _).length ≤ _
      rw [ofN_len]
      omega
    · simp
  · rw [if_neg h]; simp
theorem ring_len (n : Int) (l : List Az) : (ringAns n l).1.length ≤ 4096 := by
  unfold ringAns
  by_cases h : faultZ n l = 0
  · rw [if_pos h]
    have := fault_node h
    show (ofN _).length ≤ _
    rw [ofN_len]
    unfold ringL
    exact Nat.le_trans (List.length_filter_le _ _) (by rw [List.length_range]; omega)
  · rw [if_neg h]; simp
theorem reach_len (n : Int) (l : List Az) (L : List Int) : (reachAns n l L).1.length ≤ 4096 := by
  unfold reachAns
  by_cases h : faultZ n l = 0
  · rw [if_pos h]
    have := fault_node h
    split
    · show (ofN _).length ≤ _
      rw [ofN_len]
      unfold rchL
      exact Nat.le_trans (List.length_filter_le _ _) (by rw [List.length_range]; omega)
    · simp
  · rw [if_neg h]; simp

/-- rows of numbers that were answered: of their own, behind the block gx, apart -/
structure Own (gx : Nat) (wr : World) (L : List (Value × List Int)) : Prop where
  row : ∀ p ∈ L, Rw 3 encI 1 wr p.1 p.2
  new : ∀ p ∈ L, ∀ x, p.1.ownBlock = some x → gx < x
  sep : L.Pairwise (fun p q => ∀ x, p.1.ownBlock = some x → q.1.ownBlock ≠ some x)
  len : ∀ p ∈ L, p.2.length ≤ 4096
theorem Own.keep {gx : Nat} {wr w' : World} {L : List (Value × List Int)} {F : List Nat} (h : Own gx wr L) (k : Keep F wr w') (hF : ∀ x ∈ F, x ≤ gx) : Own gx w' L := ⟨fun p hp => (h.row p hp).keep k (fun x hx hm => by have := h.new p hp x hx; have := hF x hm; omega), h.new, h.sep, h.len⟩
theorem Own.push {gx : Nat} {wr w' : World} {L : List (Value × List Int)} {v : Value} {r : List Int} (h : Own gx wr L) (a : Ow 3 encI 1 wr w' v r) (hg : gx < wr.heap.size) (hr : r.length ≤ 4096) : Own gx w' (L ++ [(v, r)]) := by
  have h2 := h.keep a.keep (by simp)
  refine ⟨fun p hp => ?_, fun p hp x hx => ?_, ?_, fun p hp => ?_⟩
  · rcases List.mem_append.1 hp with hp | hp
    · exact h2.row p hp
    · simp at hp; subst hp; exact a.row
  · rcases List.mem_append.1 hp with hp | hp
    · exact h.new p hp x hx
    · simp at hp; subst hp; have := a.new x hx; omega
  · rw [List.pairwise_append]
    refine ⟨h.sep, List.pairwise_singleton _ _, fun p hp q hq x hx hv => ?_⟩
    simp at hq; subst hq
    have h3 := (h.row p hp).lt x hx
    have h4 := a.new x hv
    omega
  · rcases List.mem_append.1 hp with hp | hp
    · exact h.len p hp
    · simp at hp; subst hp; exact hr
abbrev noRow : Value × List Int := (.slice none 0 0, [])
theorem Own.ap {gx : Nat} {wr : World} {L : List (Value × List Int)} (h : Own gx wr L) : Ia.Ap (wr.alloc (.cells (L.map Prod.fst).toArray 28 (0, 0))) wr.heap.size L.length (fun k => (L.getD k noRow).1) (fun k => (L.getD k noRow).2) := by
  have hm : ∀ k, k < L.length → L.getD k noRow ∈ L := fun k hk => by
    rw [List.getD_eq_getElem?_getD, List.getElem?_eq_getElem hk]
    exact List.getElem_mem hk
  refine ⟨fun k hk => ?_, fun k hk => Ia.Row.of ((h.row _ (hm k hk)).keep (Keep.alloc1 wr _) (Off.nil _)), fun k hk e => ?_, fun j k hj hk hjk x hx => ?_⟩
  · have hb := heap_alloc_new wr (.cells (L.map Prod.fst).toArray 28 (0, 0))
    simp only [World.cell?, hb]
    rw [List.getD_eq_getElem?_getD, List.getElem?_eq_getElem hk]
    simp [hk]
  · have := (h.row _ (hm k hk)).lt _ e
    omega
  · have hp := List.pairwise_iff_getElem.1 h.sep
    simp only [List.getD_eq_getElem?_getD, List.getElem?_eq_getElem hj, List.getElem?_eq_getElem hk, Option.getD_some] at hx ⊢
    rcases Nat.lt_or_gt_of_ne hjk with h1 | h1
    · exact hp j k hj hk h1 x hx
    · exact fun e => hp k j hk hj h1 x e hx

/-- what stands: the lent arcs (block gx), the others, what is begun from, what was answered -/
structure Kst (w : World) (gx cap : Nat) (vo : Value) (o : List Az) (vf : Value) (F : List Int) (l : List Az) (L : List (Value × List Int)) (wr : World) : Prop where
  x : Rw 31 encZ 3 wr (.slice (some ⟨gx, 0, none⟩) (l.length + 24) cap) (l ++ marksA 24)
  o : Rd encZ 3 wr vo o
  oo : ∀ y, vo.ownBlock = some y → y ≠ gx
  f : Rd encI 1 wr vf F
  fo : ∀ y, vf.ownBlock = some y → gx < y ∧ y < wr.heap.size
  own : Own gx wr L
  keep : Keep [] w wr
  new : w.heap.size ≤ gx
section
variable {w : World} {gx cap : Nat} {vo : Value} {o : List Az} {vf : Value} {F : List Int} {l : List Az} {L : List (Value × List Int)} {wr w' : World}
theorem Kst.rd (h : Kst w gx cap vo o vf F l L wr) : Rd encZ 3 wr (.slice (some ⟨gx, 0, none⟩) l.length cap) l := by
  have := h.x.rd encZ_len
  exact Rd.front (by rw [marksA_len]; exact this)
theorem Kst.rd' (h : Kst w gx cap vo o vf F l L wr) {n : Nat} (hn : l.length = n) : Rd encZ 3 wr (.slice (some ⟨gx, 0, none⟩) n cap) l := hn ▸ h.rd
theorem Kst.lt (h : Kst w gx cap vo o vf F l L wr) : gx < wr.heap.size := h.x.lt gx rfl
theorem Kst.step (h : Kst w gx cap vo o vf F l L wr) (k : Keep [] wr w') : Kst w gx cap vo o vf F l L w' :=
  ⟨h.x.keep k (Off.nil _), h.o.keep k (Off.nil _), h.oo, h.f.keep k (Off.nil _), fun y hy => ⟨(h.fo y hy).1, Nat.lt_of_lt_of_le (h.fo y hy).2 k.size⟩, h.own.keep k (by simp), h.keep.trans' k, h.new⟩
theorem Kst.ans (h : Kst w gx cap vo o vf F l L wr) {e : Ending} {r : List Int × Int} (hr : r.1.length ≤ 4096) (a : AnsR wr w' e r) : ∃ b n c, e = .returned (.tuple #[.slice b n c, .int .i64 r.2]) ∧ Kst w gx cap vo o vf F l (L ++ [(.slice b n c, r.1)]) w' ∧ Keep [] wr w' := by
  obtain ⟨v, rfl, a⟩ := a
  obtain ⟨b, c, rfl⟩ := (a.row.rd encI_len).form'
  have k := h.step a.keep
  exact ⟨b, _, c, rfl, ⟨k.x, k.o, k.oo, k.f, k.fo, h.own.push a h.lt hr, k.keep, k.new⟩, a.keep⟩
theorem Kst.ans2 (h : Kst w gx cap vo o vf F l L wr) {e : Ending} {r : List Int × Int} (a : AnsR wr w' e r) : ∃ b n c, e = .returned (.tuple #[.slice b n c, .int .i64 r.2]) ∧ Kst w gx cap vo o vf F l L w' ∧ Rd encI 1 w' (.slice b n c) r.1 := by
  obtain ⟨v, rfl, a⟩ := a
  obtain ⟨b, c, rfl⟩ := (a.row.rd encI_len).form'
  exact ⟨b, _, c, rfl, h.step a.keep, a.row.rd encI_len⟩
theorem Kst.at (h : Kst w gx cap vo o vf F l L wr) (v : Value) (r : List Int) (hm : (v, r) ∈ L) : Rd encI 1 wr v r := (h.own.row _ hm).rd encI_len
theorem Kst.put (h : Kst w gx cap vo o vf F l L wr) (k : Nat) (hk : k < l.length) (a : Az) : Kst w gx cap vo o vf F (l.set k a) L (((wr.setCell ⟨gx, k * 3, none⟩ (.int .i64 a.f)).setCell ⟨gx, k * 3 + 1, none⟩ (.int .i64 a.t)).setCell ⟨gx, k * 3 + 2, none⟩ (.bool a.g)) := by
  have k3 : Keep [gx] wr (((wr.setCell ⟨gx, k * 3, none⟩ (.int .i64 a.f)).setCell ⟨gx, k * 3 + 1, none⟩ (.int .i64 a.t)).setCell ⟨gx, k * 3 + 2, none⟩ (.bool a.g)) := ((Keep.set1 wr ⟨gx, k * 3, none⟩ _).trans' (Keep.set1 _ ⟨gx, k * 3 + 1, none⟩ _)).trans' (Keep.set1 _ ⟨gx, k * 3 + 2, none⟩ _)
  refine ⟨?_, h.o.keep k3 (fun y hy hm => h.oo y hy (by simpa using hm)), h.oo, h.f.keep k3 (fun y hy hm => by have := (h.fo y hy).1; simp at hm; omega), fun y hy => ⟨(h.fo y hy).1, Nat.lt_of_lt_of_le (h.fo y hy).2 k3.size⟩, h.own.keep k3 (by simp), h.keep.more k3 (fun y hy => .inr (by simp at hy; subst hy; exact h.new)), h.new⟩
  have := h.x.put3z (by rw [List.length_append, marksA_len]) k (by omega) a
  rw [List.set_append_left _ _ hk] at this
  rw [List.length_set]
  exact this
theorem Kst.cells (h : Kst w gx cap vo o vf F l L wr) (k : Nat) (hk : k < l.length) : (wr.cell? ⟨gx, k * 3, none⟩ = some (.int .i64 l[k].f) ∧ wr.cell? ⟨gx, k * 3 + 1, none⟩ = some (.int .i64 l[k].t) ∧ wr.cell? ⟨gx, k * 3 + 2, none⟩ = some (.bool l[k].g)) ∧ ∀ j, wr.frozen? ⟨gx, j, none⟩ = false := by
  rcases h.x.cases encZ_len with ⟨h0, hv⟩ | ⟨g, cp, hv, _, _, _, h4, h5⟩
  · simp at hv
  · simp only [Value.slice.injEq, Option.some.injEq, Addr.mk.injEq] at hv
    obtain ⟨⟨rfl, -⟩, -⟩ := hv
    have e : (l ++ marksA 24)[k]'(by rw [List.length_append]; omega) = l[k] := List.getElem_append_left hk
    have c0 := h4 k (by rw [List.length_append]; omega) 0 (by omega)
    have c1 := h4 k (by rw [List.length_append]; omega) 1 (by omega)
    have c2 := h4 k (by rw [List.length_append]; omega) 2 (by omega)
    rw [e] at c0 c1 c2
    exact ⟨⟨c0, c1, c2⟩, h5⟩
theorem Kst.apart (h : Kst w gx cap vo o vf F l L wr) (hL : L.length ≤ 100) : Calls Try.prog 16 #[.slice (some ⟨wr.heap.size, 0, none⟩) L.length L.length] (wr.alloc (.cells (L.map Prod.fst).toArray 28 (0, 0))) fun e w' => e = .returned (.bool true) ∧ Keep [] w w' := by
  refine (Ia.apart_any wr.heap.size L.length _ _ (fun k => (L.getD k noRow).2.length) _ h.own.ap (fun _ => rfl) hL (by simp) (fun k => ?_)).mono ?_
  · by_cases hk : k < L.length
    · have := h.own.len (L.getD k noRow) (by
        rw [List.getD_eq_getElem?_getD, List.getElem?_eq_getElem hk]
        exact List.getElem_mem hk)
      show (L.getD k noRow).2.length ≤ _
      omega
    · show (L.getD k noRow).2.length ≤ _
      rw [List.getD_eq_getElem?_getD, List.getElem?_eq_none (by omega)]
      simp
  · rintro e w' ⟨rfl, k⟩
    refine ⟨rfl, (h.keep.alloc _).more k (fun x hx => .inr ?_)⟩
    obtain ⟨j, hj, e⟩ := Ia.mem_blks.1 hx
    have := h.own.new (L.getD j noRow) (by
      rw [List.getD_eq_getElem?_getD, List.getElem?_eq_getElem hj]
      exact List.getElem_mem hj) x e
    have := h.new
    omega
end
end Go.Proofs.Ytmlpkjeaieljfab
