/- A row of one's own, of elements of any type: an append to it, and that what it was before still reads as it did. -/
import Derived.Test.YtfpcpociejefaaaGreatDoorOwn
namespace Go.Proofs.YtfpcpociejefaaaGreatDoor
open Go.RowKit Go.PlainAid
abbrev RowC (w : World) (E : TypeId) (s : Nat) (v : Value) (n : Nat) (xs : List Value) : Prop := w.ownsRow 0 E s v n xs
theorem RowC.keep {F : List Nat} {w w' : World} {E : TypeId} {s : Nat} {v : Value} {n : Nat} {xs : List Value} (h : RowC w E s v n xs) (k : Keep F w w') (hn : Off v F) : RowC w' E s v n xs := by
 refine ⟨h.1, ?_⟩
 rcases h.2 with hz | ⟨g, cap, cur, rfl, hb, hg, r⟩
 ·exact .inl hz
 ·exact .inr ⟨g, cap, cur, rfl, hb, (k.block g (Array.getElem?_eq_some_iff.1 hg).1 (hn g rfl)).trans hg, r⟩
theorem RowC.lt {w : World} {E : TypeId} {s : Nat} {v : Value} {n : Nat} {xs : List Value} (h : RowC w E s v n xs) : ∀ k, v.ownBlock = some k → k < w.heap.size := fun k hk => (World.ownsRow.lt h k hk).2
/-- nothing; or an address, and the cells behind it -/
theorem RowC.cases {w : World} {E : TypeId} {s : Nat} {v : Value} {n : Nat} {xs : List Value} (h : RowC w E s v n xs) : (n = 0 ∧ xs = [] ∧ v = .slice none 0 0) ∨
  ∃ g cap, v = .slice (some ⟨g, 0, none⟩) n cap ∧ n ≤ cap ∧ cap ≤ 9223372036854775807 ∧ g < w.heap.size ∧ (∀ j, j < n * s → w.cell? ⟨g, j, none⟩ = xs[j]?) ∧ ∀ j, w.frozen? ⟨g, j, none⟩ = false := by
 have h0 := h
 rcases h.2 with ⟨rfl, rfl⟩ | ⟨g, cap, cur, rfl, hb, hg, hnc, hcm, hcs, htake⟩
 ·exact .inl ⟨rfl, List.eq_nil_of_length_eq_zero (by simpa using h.1), rfl⟩
 ·refine .inr ⟨g, cap, rfl, hnc, by simp only [maxLen] at hcm; omega, h0.lt g rfl, fun j hj => World.ownsRow.cellAt h0 j hj, fun j => World.ownsRow.frozenAt h0 j⟩
theorem run_appC {P : Program} {E : TypeId} {z : Value} {s nb : Nat} (hinfo : (P.info? E).map (fun i => (i.zero, i.size, i.bytes)) = some (some z, s, nb)) (hzs : z.cells.size = s)
  (w : World) (t tx ty : TypeId) (ht : P.underlying t = some (.slice E)) (v : Value) (n : Nat) (xs : List Value) (hown : RowC w E s v n xs) (x : Value) (m : Nat) (ys : List Value) (hs : Src P s tx x m ys w)
  (hbytes : (n + m) * nb ≤ 140737488355328) (h63 : n + m ≤ maxLen) :
  ∃ v' w', (Builtin.append_ #[t, tx] ty #[v, x]).run P w = .ok v' w' ∧ RowC w' E s v' (n + m) (xs ++ ys) ∧ Keep v.ownBlock.toList w w' ∧ (v'.ownBlock = v.ownBlock ∨ Fresh w w' v') ∧ Sl v' (n + m) ∧ RowC w' E s v n xs := by
 obtain ⟨i, hi, hz, hsize, hby⟩ := info_parts hinfo
 have hxl : xs.length = n * s := hown.1
 have hyl : ys.length = m * s := hs.newsLen
 have hs' : Src P i.size tx x m ys w := by rw [hsize]; exact hs
 have hmul : (n + m) * s = n * s + m * s := Nat.add_mul _ _ _
 have grown : ∀ (old : Nat), old < n + m →
   RowC (w.drew.alloc (.cells ((xs ++ ys).toArray ++ Builtin.zeroCells z.cells (grownCap w (n + m) old E - (n + m))) E)) E s (.slice (some ⟨w.heap.size, 0, none⟩) (n + m) (grownCap w (n + m) old E)) (n + m) (xs ++ ys) ∧
   Keep [] w (w.drew.alloc (.cells ((xs ++ ys).toArray ++ Builtin.zeroCells z.cells (grownCap w (n + m) old E - (n + m))) E)) ∧
   Fresh w (w.drew.alloc (.cells ((xs ++ ys).toArray ++ Builtin.zeroCells z.cells (grownCap w (n + m) old E - (n + m))) E)) (.slice (some ⟨w.heap.size, 0, none⟩) (n + m) (grownCap w (n + m) old E)) := by
  intro old ho
  have hge := grownCap_ge w (n + m) old E
  have hcm : grownCap w (n + m) old E ≤ maxLen := grownCap_le_maxLen w _ old E h63
  refine ⟨⟨by simp [hxl, hyl, hmul], .inr ⟨w.heap.size, _, _, rfl, Nat.zero_le _, heap_alloc_new w.drew _, hge, hcm, ?_, ?_⟩⟩, ((Keep.refl _ w).drew).alloc _, ?_⟩
  ·simp only [Array.size_append, List.size_toArray, size_zeroCells, List.length_append, hxl, hyl, hzs]
   rw [← hmul, ← Nat.add_mul]
   congr 1
   omega
  ·simp only [Array.toList_append]
   rw [List.take_append_of_le_length (by simp [hxl, hyl, hmul])]
   exact List.take_of_length_le (by simp [hxl, hyl, hmul])
  ·intro k hk
   simp [Value.ownBlock] at hk
   subst hk
   exact ⟨Nat.le_refl _, by simp⟩
 have hown0 := hown
 rcases hown.2 with ⟨rfl, rfl⟩ | ⟨g, cap, cur, rfl, hbg, hg, hnc, hcm, hcs, htake⟩
 ·have hx0 : xs = [] := List.eq_nil_of_length_eq_zero (by simpa using hxl)
  subst hx0
  by_cases hm : m = 0
  ·subst hm
   have hy0 : ys = [] := List.eq_nil_of_length_eq_zero (by simpa using hyl)
   subst hy0
   refine ⟨.slice none 0 0, w, ?_, World.ownsRow_nil w 0 E s, Keep.refl _ w, .inl rfl, ⟨none, 0, rfl⟩, hown0⟩
   have hc := hs'.cells
   have hl := hs'.len
   rcases hs'.kind with ⟨e', hk⟩ | hk <;>
    simp [Builtin.append_, run_underlying ht, run_underlying hk, sizeOf, typeInfo, hi, hl, hc]
  ·have hr := run_append_grow_src (P := P) w t tx ty E i z ht hi hz none 0 0 [] (run_firstCells_none w.drew i.size 0 0 0) x m ys hs' (by omega) (by simp only [maxLen] at h63; omega)
    (by rw [hby]; exact growslice_fits (by omega) hbytes)
   obtain ⟨g1, g2, g3⟩ := grown 0 (by omega)
   exact ⟨_, _, hr, g1, g2.mono (fun _ h => by cases h), .inr g3, ⟨_, _, rfl⟩, World.ownsRow_nil _ 0 E s⟩
 ·by_cases hroom : n + m ≤ cap
  ·have hfit : n * i.size + ys.length ≤ cur.size := by
    rw [hsize, hcs, hyl, ← hmul]
    exact Nat.mul_le_mul_right _ hroom
   have hst := run_storeCells_at P g (n * i.size) E ys 0 cur w hg (by simpa using hfit) hs'.one
   simp only [Nat.add_zero] at hst
   have hcl : cur.toList.length = cap * s := by rw [Array.length_toList, hcs]
   have hns : n * s ≤ cap * s := Nat.mul_le_mul_right _ hnc
   have hnm : n * s + ys.length ≤ cap * s := by rw [hyl, ← hmul]; exact Nat.mul_le_mul_right _ hroom
   have hsz : (cur.toList.take (n * i.size) ++ ys ++ cur.toList.drop (n * i.size + ys.length)).toArray.size = cap * s := by
    rw [hsize]
    simp only [List.size_toArray, List.length_append, List.length_take, List.length_drop, hcl]
    omega
   refine ⟨.slice (some ⟨g, 0, none⟩) (n + m) cap, w.setRow g (cur.toList.take (n * i.size) ++ ys ++ cur.toList.drop (n * i.size + ys.length)).toArray, ?_, ⟨by simp [hxl, hyl, hmul], .inr ⟨g, cap, _, rfl, Nat.zero_le _, setRow_heap w g cur _ E _ hg, hroom, hcm, hsz, ?_⟩⟩, ?_, .inl rfl, ⟨_, _, rfl⟩, ⟨hxl, .inr ⟨g, cap, _, rfl, Nat.zero_le _, setRow_heap w g cur _ E _ hg, hnc, hcm, hsz, ?_⟩⟩⟩
   ·rcases hs'.kind with ⟨e', hk⟩ | hk <;>
     simp [Builtin.append_, run_underlying ht, run_underlying hk, sizeOf, typeInfo, hi, hs'.len, hroom, hs'.cells, Addr.add_lit, hst]
   ·rw [hsize, htake]
    simp only []
    rw [List.take_append_of_le_length (by simp [hxl, hyl, hmul])]
    exact List.take_of_length_le (by simp [hxl, hyl, hmul])
   ·exact ⟨rfl, rfl, rfl, by simp, fun k _ hk => setRow_other w g k _ (fun e => hk (by simp [Value.ownBlock, e]))⟩
   ·rw [hsize, htake, List.append_assoc]
    simp only []
    rw [List.take_append_of_le_length (by omega)]
    exact List.take_of_length_le (by omega)
  ·have holds : ∀ j u, xs[j]? = some u → w.cell? ((⟨g, 0, none⟩ : Addr).add j) = some u := World.ownsRow.cells hown (g := g) rfl
   have hr := run_append_grow_src (P := P) w t tx ty E i z ht hi hz (some ⟨g, 0, none⟩) n cap xs (run_firstCells_some w.drew i.size n ⟨g, 0, none⟩ n cap xs (by rw [hsize]; exact hxl) (by simpa using holds)) x m ys hs' (by omega) (by simp only [maxLen] at h63; omega)
    (by rw [hby]; exact growslice_fits (by omega) hbytes)
   obtain ⟨g1, g2, g3⟩ := grown cap (by omega)
   exact ⟨_, _, hr, g1, g2.mono (fun _ h => by cases h), .inr g3, ⟨_, _, rfl⟩, hown0.keep g2 (Off.nil _)⟩
/-- x = append(x, ..): the row goes on by what is appended, and what it was before reads as it did -/
theorem wp_appC {P : Program} {E : TypeId} {z : Value} {sz nb : Nat} (hinfo : (P.info? E).map (fun i => (i.zero, i.size, i.bytes)) = some (some z, sz, nb)) (hzs : z.cells.size = sz)
  {ops : Array Oper} {rest : List Oper} {o : Oper} {a : Act} {w : World} {Q : Exit → Act → World → Prop} (hgd : o.guard = none) (s x : Operand) (t tx : TypeId)
  (ho : o.op = .call { callee := .builtin .append, args := #[s, x], argTypes := #[t, tx] }) (ht : P.underlying t = some (.slice E))
  (v : Value) (n : Nat) (xs : List Value) (hv : a.eval s = v) (hown : RowC w E sz v n xs) (u : Value) (m : Nat) (ys : List Value) (hu : a.eval x = u) (hs : Src P sz tx u m ys w)
  (hbytes : (n + m) * nb ≤ 140737488355328) (h63 : n + m ≤ maxLen)
  (h : ∀ v' w', RowC w' E sz v' (n + m) (xs ++ ys) → Keep v.ownBlock.toList w w' → (v'.ownBlock = v.ownBlock ∨ Fresh w w' v') → Sl v' (n + m) → RowC w' E sz v n xs → wpList P ops Q rest (a.put o.dst v') w') : wpList P ops Q (o :: rest) a w := by
 obtain ⟨v', w', hr, h1, h2, h3, h4, h5⟩ := run_appC hinfo hzs w t tx o.type ht v n xs hown u m ys hs hbytes h63
 refine wpList_plain hgd fun K hK => ?_
 unfold Oper.wp execOp
 simp only [ho, resolve, invoke, builtin, Sem.run_bind, Sem.run_pure, Result.andThen_ok, List.map_toArray, List.map_cons, List.map_nil, hv, hu, hr]
 exact hK _ _ (h v' w' h1 h2 h3 h4 h5)
end Go.Proofs.YtfpcpociejefaaaGreatDoor
