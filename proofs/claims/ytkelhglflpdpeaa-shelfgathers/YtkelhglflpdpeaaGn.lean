/- Memory, told plainly: what stays as it was while other blocks are written; a row of one's own, of elements of any type; a slice that reads as a list; a box. -/
import Derived.Test.YtkelhglflpdpeaaRows
import Derived.WalkKit
import Derived.WalkSpells
import Derived.WalkLawsBesides
import Derived.PlainAid
import Derived.Deep.AppendSrc
import Derived.Deep.QuietTactic
import Derived.BigQuiet
import Derived.Deep.RegionWith
import Derived.Deep.RegionHeld3
import Derived.Sort.AtCall

namespace Go.Proofs.Ytkelhglflpdpeaa
open Go.RowKit Go.PlainAid

/-- what is not among the blocks F is as it was -/
structure Keep (F : List Nat) (w w' : World) : Prop where
  os : w'.os = w.os
  tape : w'.tape = w.tape
  output : w'.output = w.output
  size : w.heap.size ≤ w'.heap.size
  block : ∀ k, k < w.heap.size → k ∉ F → w'.heap[k]? = w.heap[k]?

theorem Keep.refl (F : List Nat) (w : World) : Keep F w w := ⟨rfl, rfl, rfl, Nat.le_refl _, fun _ _ _ => rfl⟩

theorem Keep.trans {F G H : List Nat} {a b c : World} (h : Keep F a b) (k : Keep G b c) (hF : ∀ x ∈ F, x ∈ H ∨ a.heap.size ≤ x) (hG : ∀ x ∈ G, x ∈ H ∨ a.heap.size ≤ x) : Keep H a c := by
  refine ⟨k.os.trans h.os, k.tape.trans h.tape, k.output.trans h.output, Nat.le_trans h.size k.size, fun i hi hn => ?_⟩
  have h1 : i ∉ F := fun hx => by rcases hF i hx with h | h; exact hn h; omega
  have h2 : i ∉ G := fun hx => by rcases hG i hx with h | h; exact hn h; omega
  exact (k.block i (Nat.lt_of_lt_of_le hi h.size) h2).trans (h.block i hi h1)

theorem Keep.trans' {F : List Nat} {a b c : World} (h : Keep F a b) (k : Keep F b c) : Keep F a c := h.trans k (fun _ h => .inl h) (fun _ h => .inl h)
/-- what follows writes none but new blocks and F -/
theorem Keep.more {F G : List Nat} {a b c : World} (h : Keep F a b) (k : Keep G b c) (hG : ∀ x ∈ G, x ∈ F ∨ a.heap.size ≤ x) : Keep F a c := h.trans k (fun _ h => .inl h) hG
theorem Keep.mono {F G : List Nat} {a b : World} (h : Keep F a b) (hF : ∀ x ∈ F, x ∈ G ∨ a.heap.size ≤ x) : Keep G a b := h.trans (Keep.refl [] b) hF (fun _ h => by cases h)
theorem Keep.drew {F : List Nat} {a w : World} (h : Keep F a w) : Keep F a w.drew := ⟨h.os, h.tape, h.output, h.size, h.block⟩
theorem Keep.drewN {F : List Nat} {a w : World} (h : Keep F a w) (n : Nat) : Keep F a (w.drewN n) := ⟨h.os, h.tape, h.output, h.size, h.block⟩
theorem Keep.alloc1 (w : World) (o : Obj) : Keep [] w (w.alloc o) := ⟨rfl, rfl, rfl, by simp, fun k hk _ => Below.heap_alloc _ _ _ hk⟩
theorem Keep.alloc {F : List Nat} {a w : World} (h : Keep F a w) (o : Obj) : Keep F a (w.alloc o) := h.more (Keep.alloc1 w o) (fun _ h => by cases h)
theorem Keep.set1 (w : World) (p : Addr) (u : Value) : Keep [p.block] w (w.setCell p u) :=
  ⟨rfl, rfl, rfl, by simp [World.setCell], fun k _ hn => Below.heap_setCell _ _ _ _ (by simpa using hn)⟩
theorem Keep.setCell {F : List Nat} {a w : World} (h : Keep F a w) {p : Addr} (hp : p.block ∈ F ∨ a.heap.size ≤ p.block) (u : Value) : Keep F a (w.setCell p u) :=
  h.more (Keep.set1 w p u) (by intro x hx; simp at hx; subst hx; exact hp)
theorem Keep.grown {w w' : World} {row : Option Nat} (hg : w.grownBy w' row) : Keep row.toList w w' :=
  ⟨hg.os, hg.tape, hg.output, hg.size, fun k hk hn => hg.block k hk (fun e => hn (by rw [← e]; simp))⟩
theorem Keep.below {w w' : World} (h : Keep [] w w') : Below w.heap.size w w' := ⟨h.os, h.tape, h.output, h.size, fun k hk => h.block k hk (by simp)⟩
theorem Keep.ofBelow {w w' : World} (h : Below w.heap.size w w') : Keep [] w w' := ⟨h.os, h.tape, h.output, h.size, fun k hk _ => h.block k hk⟩
theorem Keep.cell {F : List Nat} {w w' : World} (h : Keep F w w') {p : Addr} (hp : p.block < w.heap.size) (hn : p.block ∉ F) : w'.cell? p = w.cell? p := World.cell?_of_block (w := w) (h.block p.block hp hn)
theorem Keep.cell' {F : List Nat} {w w' : World} (h : Keep F w w') {p : Addr} {u : Value} (hc : w.cell? p = some u) (hn : p.block ∉ F) : w'.cell? p = some u :=
  (h.cell (World.block_lt_of_cell? w p hc) hn).trans hc
theorem Keep.frozen {F : List Nat} {w w' : World} (h : Keep F w w') {p : Addr} (hp : p.block < w.heap.size) (hn : p.block ∉ F) : w'.frozen? p = w.frozen? p := World.frozen?_of_block (w := w) (h.block p.block hp hn)

/-- the block of v is none of F -/
def Off (v : Value) (F : List Nat) : Prop := ∀ k, v.ownBlock = some k → k ∉ F
/-- the block of v is new in w' -/
def Fresh (w w' : World) (v : Value) : Prop := ∀ k, v.ownBlock = some k → w.heap.size ≤ k ∧ k < w'.heap.size

theorem Off.nil (v : Value) : Off v [] := fun _ _ h => by cases h
theorem Fresh.off {w w' : World} {v : Value} {F : List Nat} (h : Fresh w w' v) (hF : ∀ x ∈ F, x < w.heap.size) : Off v F := fun k hk hn => by have := (h k hk).1; have := hF k hn; omega
theorem Fresh.later {w w' w2 : World} {v : Value} (h : Fresh w w' v) (hs : w'.heap.size ≤ w2.heap.size) : Fresh w w2 v := fun k hk => ⟨(h k hk).1, Nat.lt_of_lt_of_le (h k hk).2 hs⟩
theorem Fresh.earlier {w0 w w' : World} {v : Value} (h : Fresh w w' v) (hs : w0.heap.size ≤ w.heap.size) : Fresh w0 w' v := fun k hk => ⟨Nat.le_trans hs (h k hk).1, (h k hk).2⟩
theorem Fresh.nil (w w' : World) : Fresh w w' (.slice none 0 0) := fun _ h => by simp [Value.ownBlock] at h

/-- v is a slice of n elements -/
def Sl (v : Value) (n : Nat) : Prop := ∃ a c, v = .slice a n c

abbrev RowC (w : World) (E : TypeId) (s : Nat) (v : Value) (n : Nat) (xs : List Value) : Prop := w.ownsRow 0 E s v n xs

theorem RowC.keep {F : List Nat} {w w' : World} {E : TypeId} {s : Nat} {v : Value} {n : Nat} {xs : List Value} (h : RowC w E s v n xs) (k : Keep F w w') (hn : Off v F) : RowC w' E s v n xs := by
  refine ⟨h.1, ?_⟩
  rcases h.2 with hz | ⟨g, cap, cur, rfl, hb, hg, r⟩
  · exact .inl hz
  · exact .inr ⟨g, cap, cur, rfl, hb, (k.block g (Array.getElem?_eq_some_iff.1 hg).1 (hn g rfl)).trans hg, r⟩
theorem RowC.lt {w : World} {E : TypeId} {s : Nat} {v : Value} {n : Nat} {xs : List Value} (h : RowC w E s v n xs) : ∀ k, v.ownBlock = some k → k < w.heap.size := fun k hk => (World.ownsRow.lt h k hk).2
/-- nothing; or an address, and the cells behind it -/
theorem RowC.cases {w : World} {E : TypeId} {s : Nat} {v : Value} {n : Nat} {xs : List Value} (h : RowC w E s v n xs) : (n = 0 ∧ xs = [] ∧ v = .slice none 0 0) ∨
    ∃ g cap, v = .slice (some ⟨g, 0, none⟩) n cap ∧ n ≤ cap ∧ cap ≤ 9223372036854775807 ∧ g < w.heap.size ∧ (∀ j, j < n * s → w.cell? ⟨g, j, none⟩ = xs[j]?) ∧ ∀ j, w.frozen? ⟨g, j, none⟩ = false := by
  have h0 := h
  rcases h.2 with ⟨rfl, rfl⟩ | ⟨g, cap, cur, rfl, hb, hg, hnc, hcm, hcs, htake⟩
  · exact .inl ⟨rfl, List.eq_nil_of_length_eq_zero (by simpa using h.1), rfl⟩
  · refine .inr ⟨g, cap, rfl, hnc, by simp only [maxLen] at hcm; omega, h0.lt g rfl, fun j hj => World.ownsRow.cellAt h0 j hj, fun j => World.ownsRow.frozenAt h0 j⟩

theorem run_appC {P : Program} {E : TypeId} {z : Value} {s nb : Nat} (hinfo : (P.info? E).map (fun i => (i.zero, i.size, i.bytes)) = some (some z, s, nb)) (hzs : z.cells.size = s)
    (w : World) (t tx ty : TypeId) (ht : P.underlying t = some (.slice E)) (v : Value) (n : Nat) (xs : List Value) (hown : RowC w E s v n xs) (x : Value) (m : Nat) (ys : List Value) (hs : Src P s tx x m ys w)
    (hbytes : (n + m) * nb ≤ 140737488355328) (h63 : n + m ≤ maxLen) :
    ∃ v' w', (Builtin.append_ #[t, tx] ty #[v, x]).run P w = .ok v' w' ∧ RowC w' E s v' (n + m) (xs ++ ys) ∧ Keep v.ownBlock.toList w w' ∧ (v'.ownBlock = v.ownBlock ∨ Fresh w w' v') ∧ Sl v' (n + m) ∧ RowC w' E s v n xs := by
  obtain ⟨i, hi, hz, hsize, hby⟩ := info_parts hinfo
  have hxl : xs.length = n * s := hown.1
  have hyl : ys.length = m * s := hs.newsLen
  have hs' : Src P i.size tx x m ys w := by rw [hsize]; exact hs
  have hmul : (n + m) * s = n * s + m * s := Nat.add_mul _ _ _
  have grown : ∀ (old : Nat), old < n + m →
      RowC (w.drew.alloc (.cells ((xs ++ ys).toArray ++ Builtin.zeroCells z.cells (grownCap w (n + m) old E - (n + m))) E)) E s (.slice (some ⟨w.heap.size, 0, none⟩) (n + m) (grownCap w (n + m) old E)) (n + m) (xs ++ ys) ∧
      Keep [] w (w.drew.alloc (.cells ((xs ++ ys).toArray ++ Builtin.zeroCells z.cells (grownCap w (n + m) old E - (n + m))) E)) ∧
      Fresh w (w.drew.alloc (.cells ((xs ++ ys).toArray ++ Builtin.zeroCells z.cells (grownCap w (n + m) old E - (n + m))) E)) (.slice (some ⟨w.heap.size, 0, none⟩) (n + m) (grownCap w (n + m) old E)) := by
    intro old ho
    have hge := grownCap_ge w (n + m) old E
    have hcm : grownCap w (n + m) old E ≤ maxLen := grownCap_le_maxLen w _ old E h63
    refine ⟨⟨by simp [hxl, hyl, hmul], .inr ⟨w.heap.size, _, _, rfl, Nat.zero_le _, heap_alloc_new w.drew _, hge, hcm, ?_, ?_⟩⟩, ((Keep.refl _ w).drew).alloc _, ?_⟩
    · simp only [Array.size_append, List.size_toArray, size_zeroCells, List.length_append, hxl, hyl, hzs]
      rw [← hmul, ← Nat.add_mul]
      congr 1
      omega
    · simp only [Array.toList_append]
      rw [List.take_append_of_le_length (by simp [hxl, hyl, hmul])]
      exact List.take_of_length_le (by simp [hxl, hyl, hmul])
    · intro k hk
      simp [Value.ownBlock] at hk
      subst hk
      exact ⟨Nat.le_refl _, by simp⟩
  have hown0 := hown
  rcases hown.2 with ⟨rfl, rfl⟩ | ⟨g, cap, cur, rfl, hbg, hg, hnc, hcm, hcs, htake⟩
  · have hx0 : xs = [] := List.eq_nil_of_length_eq_zero (by simpa using hxl)
    subst hx0
    by_cases hm : m = 0
    · subst hm
      have hy0 : ys = [] := List.eq_nil_of_length_eq_zero (by simpa using hyl)
      subst hy0
      refine ⟨.slice none 0 0, w, ?_, World.ownsRow_nil w 0 E s, Keep.refl _ w, .inl rfl, ⟨none, 0, rfl⟩, hown0⟩
      have hc := hs'.cells
      have hl := hs'.len
      rcases hs'.kind with ⟨e', hk⟩ | hk <;>
        simp [Builtin.append_, run_underlying ht, run_underlying hk, sizeOf, typeInfo, hi, hl, hc]
    · have hr := run_append_grow_src (P := P) w t tx ty E i z ht hi hz none 0 0 [] (run_firstCells_none w.drew i.size 0 0 0) x m ys hs' (by omega) (by simp only [maxLen] at h63; omega)
        (by rw [hby]; exact growslice_fits (by omega) hbytes)
      obtain ⟨g1, g2, g3⟩ := grown 0 (by omega)
      exact ⟨_, _, hr, g1, g2.mono (fun _ h => by cases h), .inr g3, ⟨_, _, rfl⟩, World.ownsRow_nil _ 0 E s⟩
  · by_cases hroom : n + m ≤ cap
    · have hfit : n * i.size + ys.length ≤ cur.size := by
        rw [hsize, hcs, hyl, ← hmul]
        exact Nat.mul_le_mul_right _ hroom
      have hst := run_storeCells_at P g (n * i.size) E ys 0 cur w hg (by simpa using hfit) hs'.one
      simp only [Nat.add_zero] at hst
      have hcl : cur.toList.length = cap * s := by rw [Array.length_toList, hcs]
      have hns : n * s ≤ cap * s := Nat.mul_le_mul_right _ hnc
      have hnm : n * s + ys.length ≤ cap * s := by rw [hyl, ← hmul]; exact Nat.mul_le_mul_right _ hroom
      have hsz : (cur.toList.take (n * i.size) ++ ys ++ cur.toList.drop (n * i.size + ys.length)).toArray.size = cap * s := by
        rw [hsize]
        simp only [List.size_toArray, List.length_append, List.length_take, List.length_drop, hcl]
        omega
      refine ⟨.slice (some ⟨g, 0, none⟩) (n + m) cap, w.setRow g (cur.toList.take (n * i.size) ++ ys ++ cur.toList.drop (n * i.size + ys.length)).toArray, ?_, ⟨by simp [hxl, hyl, hmul], .inr ⟨g, cap, _, rfl, Nat.zero_le _, setRow_heap w g cur _ E _ hg, hroom, hcm, hsz, ?_⟩⟩, ?_, .inl rfl, ⟨_, _, rfl⟩, ⟨hxl, .inr ⟨g, cap, _, rfl, Nat.zero_le _, setRow_heap w g cur _ E _ hg, hnc, hcm, hsz, ?_⟩⟩⟩
      · rcases hs'.kind with ⟨e', hk⟩ | hk <;>
          simp [Builtin.append_, run_underlying ht, run_underlying hk, sizeOf, typeInfo, hi, hs'.len, hroom, hs'.cells, Addr.add_lit, hst]
      · rw [hsize, htake]
        simp only []
        rw [List.take_append_of_le_length (by simp [hxl, hyl, hmul])]
        exact List.take_of_length_le (by simp [hxl, hyl, hmul])
      · exact ⟨rfl, rfl, rfl, by simp, fun k _ hk => setRow_other w g k _ (fun e => hk (by simp [Value.ownBlock, e]))⟩
      · rw [hsize, htake, List.append_assoc]
        simp only []
        rw [List.take_append_of_le_length (by omega)]
        exact List.take_of_length_le (by omega)
    · have holds : ∀ j u, xs[j]? = some u → w.cell? ((⟨g, 0, none⟩ : Addr).add j) = some u := World.ownsRow.cells hown (g := g) rfl
      have hr := run_append_grow_src (P := P) w t tx ty E i z ht hi hz (some ⟨g, 0, none⟩) n cap xs (run_firstCells_some w.drew i.size n ⟨g, 0, none⟩ n cap xs (by rw [hsize]; exact hxl) (by simpa using holds)) x m ys hs' (by omega) (by simp only [maxLen] at h63; omega)
        (by rw [hby]; exact growslice_fits (by omega) hbytes)
      obtain ⟨g1, g2, g3⟩ := grown cap (by omega)
      exact ⟨_, _, hr, g1, g2.mono (fun _ h => by cases h), .inr g3, ⟨_, _, rfl⟩, hown0.keep g2 (Off.nil _)⟩

/-- x = append(x, ..): the row goes on by what is appended, and what it was before reads as it did -/
theorem wp_appC {P : Program} {E : TypeId} {z : Value} {sz nb : Nat} (hinfo : (P.info? E).map (fun i => (i.zero, i.size, i.bytes)) = some (some z, sz, nb)) (hzs : z.cells.size = sz)
    {ops : Array Oper} {rest : List Oper} {o : Oper} {a : Act} {w : World} {Q : Exit → Act → World → Prop} (hgd : o.guard = none) (s x : Operand) (t tx : TypeId)
    (ho : o.op = .call { callee := .builtin .append, args := #[s, x], argTypes := #[t, tx] }) (ht : P.underlying t = some (.slice E))
    (v : Value) (n : Nat) (xs : List Value) (hv : a.eval s = v) (hown : RowC w E sz v n xs) (u : Value) (m : Nat) (ys : List Value) (hu : a.eval x = u) (hs : Src P sz tx u m ys w)
    (hbytes : (n + m) * nb ≤ 140737488355328) (h63 : n + m ≤ maxLen)
    (h : ∀ v' w', RowC w' E sz v' (n + m) (xs ++ ys) → Keep v.ownBlock.toList w w' → (v'.ownBlock = v.ownBlock ∨ Fresh w w' v') → Sl v' (n + m) → RowC w' E sz v n xs → wpList P ops Q rest (a.put o.dst v') w') : wpList P ops Q (o :: rest) a w := by
  obtain ⟨v', w', hr, h1, h2, h3, h4, h5⟩ := run_appC hinfo hzs w t tx o.type ht v n xs hown u m ys hs hbytes h63
  refine wpList_plain hgd fun K hK => ?_
  unfold Oper.wp execOp
  simp only [ho, resolve, invoke, builtin, Sem.run_bind, Sem.run_pure, Result.andThen_ok, List.map_toArray, List.map_cons, List.map_nil, hv, hu, hr]
  exact hK _ _ (h v' w' h1 h2 h3 h4 h5)

/-- the same, as one step of a region whose order is left open -/
theorem step_appC {P : Program} {E : TypeId} {z : Value} {sz nb : Nat} (hinfo : (P.info? E).map (fun i => (i.zero, i.size, i.bytes)) = some (some z, sz, nb)) (hzs : z.cells.size = sz)
    {ops : Array Oper} {o : Oper} {a : Act} {w : World} {K : Act → World → Prop} {Q : Exit → Act → World → Prop} {X : Prop} (hg : o.guard = none) (s x : Operand) (t tx : TypeId)
    (ho : o.op = .call { callee := .builtin .append, args := #[s, x], argTypes := #[t, tx] }) (ht : P.underlying t = some (.slice E))
    (v : Value) (n : Nat) (xs : List Value) (hv : a.eval s = v) (hown : RowC w E sz v n xs) (u : Value) (m : Nat) (ys : List Value) (hu : a.eval x = u) (hs : Src P sz tx u m ys w)
    (hbytes : (n + m) * nb ≤ 140737488355328) (h63 : n + m ≤ maxLen)
    (h : ∀ v' w', RowC w' E sz v' (n + m) (xs ++ ys) → Keep v.ownBlock.toList w w' → (v'.ownBlock = v.ownBlock ∨ Fresh w w' v') → Sl v' (n + m) → RowC w' E sz v n xs → K (a.put o.dst v') w') :
    if Region.wanted o (yielded ops a.tmps) = true then Oper.wp P o a w K Q else X := by
  have hw : Region.wanted o (yielded ops a.tmps) = true := by simp [Region.wanted, hg]
  rw [if_pos hw]
  obtain ⟨v', w', hr, h1, h2, h3, h4, h5⟩ := run_appC hinfo hzs w t tx o.type ht v n xs hown u m ys hs hbytes h63
  unfold Oper.wp execOp
  simp only [ho, resolve, invoke, builtin, Sem.run_bind, Sem.run_pure, Result.andThen_ok, List.map_toArray, List.map_cons, List.map_nil, hv, hu, hr]
  exact h v' w' h1 h2 h3 h4 h5


theorem wrap_ok (z : Int) (h1 : -9223372036854775808 ≤ z) (h2 : z ≤ 9223372036854775807) : IntKind.i64.wrap z = z := by
  unfold IntKind.wrap
  simp [IntKind.signed, IntKind.bits]
  omega

/-- a variable in a block of its own -/
def Bx (w : World) (b : Nat) (t : TypeId) (v : Value) : Prop := w.heap[b]? = some (.cells #[v] t (0, 0))
theorem Bx.keep {F : List Nat} {w w' : World} {b : Nat} {t : TypeId} {v : Value} (h : Bx w b t v) (k : Keep F w w') (hn : b ∉ F) : Bx w' b t v := (k.block b (Array.getElem?_eq_some_iff.1 h).1 hn).trans h
theorem Bx.lt {w : World} {b : Nat} {t : TypeId} {v : Value} (h : Bx w b t v) : b < w.heap.size := (Array.getElem?_eq_some_iff.1 h).1
theorem Bx.cell {w : World} {b : Nat} {t : TypeId} {v : Value} (h : Bx w b t v) : w.cell? ⟨b, 0, none⟩ = some v := cell_of_one h
theorem Bx.free {w : World} {b : Nat} {t : TypeId} {v : Value} (h : Bx w b t v) : w.frozen? ⟨b, 0, none⟩ = false := free_of_one h
theorem Bx.set {w : World} {b : Nat} {t : TypeId} {v : Value} (h : Bx w b t v) (u : Value) : Bx (w.setCell ⟨b, 0, none⟩ u) b t u := one_setCell h
theorem Bx.new (w : World) (t : TypeId) (v : Value) : Bx (w.alloc (.cells #[v] t)) w.heap.size t v := heap_alloc_new w _

/-- a row of one's own reads as a list -/
def Rw {α : Type} (E : TypeId) (enc : α → List Value) (k : Nat) (w : World) (v : Value) (l : List α) : Prop := RowC w E k v l.length (l.flatMap enc)

theorem flat_len {α : Type} {enc : α → List Value} {k : Nat} (hk : ∀ x, (enc x).length = k) (l : List α) : (l.flatMap enc).length = l.length * k := by
  induction l with
  | nil => simp
  | cons a l ih => simp only [List.flatMap_cons, List.length_append, hk, ih, List.length_cons]; rw [Nat.add_mul]; omega

theorem flat_get {α : Type} {enc : α → List Value} {k : Nat} (hk : ∀ x, (enc x).length = k) (l : List α) (j i : Nat) (hj : j < l.length) (hi : i < k) : (l.flatMap enc)[j * k + i]? = (enc l[j])[i]? := by
  induction l generalizing j with
  | nil => simp at hj
  | cons a l ih =>
    rw [List.flatMap_cons]
    cases j with
    | zero =>
      rw [List.getElem?_append_left (by rw [hk]; omega)]
      simp
    | succ j =>
      rw [List.getElem?_append_right (by rw [hk, Nat.succ_mul]; omega), hk, Nat.succ_mul]
      have := ih j (by simpa using hj)
      rw [show j * k + k + i - k = j * k + i by omega, this]
      simp

theorem Rw.keep {α : Type} {E : TypeId} {enc : α → List Value} {k : Nat} {F : List Nat} {w w' : World} {v : Value} {l : List α} (h : Rw E enc k w v l) (kp : Keep F w w') (hn : Off v F) : Rw E enc k w' v l := RowC.keep h kp hn
theorem Rw.lt {α : Type} {E : TypeId} {enc : α → List Value} {k : Nat} {w : World} {v : Value} {l : List α} (h : Rw E enc k w v l) : ∀ x, v.ownBlock = some x → x < w.heap.size := RowC.lt h
theorem Rw.nil {α : Type} (E : TypeId) (enc : α → List Value) (k : Nat) (w : World) : Rw E enc k w (.slice none 0 0) [] := World.ownsRow_nil w 0 E k
theorem Rw.cases {α : Type} {E : TypeId} {enc : α → List Value} {k : Nat} (hk : ∀ x, (enc x).length = k) {w : World} {v : Value} {l : List α} (h : Rw E enc k w v l) : (l = [] ∧ v = .slice none 0 0) ∨
    ∃ g cap, v = .slice (some ⟨g, 0, none⟩) l.length cap ∧ l.length ≤ cap ∧ cap ≤ 9223372036854775807 ∧ g < w.heap.size ∧ (∀ j (hj : j < l.length) i, i < k → w.cell? ⟨g, j * k + i, none⟩ = (enc l[j])[i]?) ∧ ∀ j, w.frozen? ⟨g, j, none⟩ = false := by
  rcases RowC.cases h with ⟨h1, _, h3⟩ | ⟨g, cap, h1, h2, h3, h4, h5, h6⟩
  · exact .inl ⟨List.eq_nil_of_length_eq_zero h1, h3⟩
  · refine .inr ⟨g, cap, h1, h2, h3, h4, fun j hj i hi => ?_, h6⟩
    rw [h5 _ (by have := Nat.mul_le_mul_right k (Nat.succ_le_of_lt hj); rw [Nat.succ_mul] at this; omega)]
    exact flat_get hk l j i hj hi

/-- the first m of a row of one's own -/
theorem RowC.take {w : World} {E : TypeId} {s : Nat} {ao : Option Addr} {n cap : Nat} {xs : List Value} (h : RowC w E s (.slice ao n cap) n xs) (m : Nat) (hm : m ≤ n) (hn : ao ≠ none) : RowC w E s (.slice ao m cap) m (xs.take (m * s)) := by
  rcases h.2 with ⟨h1, _⟩ | ⟨g, cap', cur, he, hb, hg, hnc, hcm, hcs, htake⟩
  · simp at h1; exact absurd h1.1 hn
  · simp at he
    obtain ⟨rfl, rfl⟩ := he
    have hl : xs.length = n * s := h.1
    have hms : m * s ≤ n * s := Nat.mul_le_mul_right _ hm
    refine ⟨by rw [List.length_take, hl]; omega, .inr ⟨g, cap, cur, rfl, hb, hg, by omega, hcm, hcs, ?_⟩⟩
    rw [← htake, List.take_take, Nat.min_eq_left hms]
/-- one cell of a row of one's own is written -/
theorem RowC.set {w : World} {E : TypeId} {s : Nat} {g n cap : Nat} {xs : List Value} (h : RowC w E s (.slice (some ⟨g, 0, none⟩) n cap) n xs) (j : Nat) (u : Value) : RowC (w.setCell ⟨g, j, none⟩ u) E s (.slice (some ⟨g, 0, none⟩) n cap) n (xs.set j u) := by
  rcases h.2 with ⟨h1, _⟩ | ⟨g', cap', cur, he, hb, hg, hnc, hcm, hcs, htake⟩
  · simp at h1
  · simp at he
    obtain ⟨rfl, rfl⟩ := he
    have hms : n * s ≤ cap * s := Nat.mul_le_mul_right _ hnc
    refine ⟨by rw [List.length_set]; exact h.1, .inr ⟨g, cap, cur.setIfInBounds j u, rfl, hb, ?_, hnc, hcm, by rw [Array.size_setIfInBounds]; exact hcs, ?_⟩⟩
    · exact heap_setCell_same w g j cur E u hg
    · rw [Array.toList_setIfInBounds, List.take_set, htake]
end Go.Proofs.Ytkelhglflpdpeaa

/- Arcs as they lie in memory; the smallest calls: isNode, negWeight, refused. -/
namespace Go.Proofs.Ytkelhglflpdpeaa
open Go.RowKit Go.PlainAid


/-- an element: its key and its mark -/
structure Pr where
  k : Int
  m : Int
instance : Inhabited Pr := ⟨⟨0, 0⟩⟩
def encP (x : Pr) : List Value := [.int .i64 x.k, .int .i64 x.m]
def encI (x : Int) : List Value := [.int .i64 x]
theorem encP_len (x : Pr) : (encP x).length = 2 := rfl
theorem encI_len (a : Int) : (encI a).length = 1 := rfl
theorem infoP : (Try.prog.info? 29).map (fun i => (i.zero, i.size, i.bytes)) = some (some (.agg #[.int .i64 0, .int .i64 0]), 2, 16) := by kernel_rfl
theorem infoI : (Try.prog.info? 3).map (fun i => (i.zero, i.size, i.bytes)) = some (some (.int .i64 0), 1, 8) := by kernel_rfl

/-- the slice v reads as a list -/
structure Rd {α : Type} (enc : α → List Value) (k : Nat) (w : World) (v : Value) (l : List α) : Prop where
  ex : ∃ ao cap, v = .slice ao l.length cap ∧ l.length ≤ cap ∧ cap ≤ maxLen ∧ (ao = none → cap = 0) ∧
    (l ≠ [] → ∃ b o, ao = some ⟨b, o, none⟩ ∧ b < w.heap.size ∧ ∀ j (hj : j < l.length) i, i < k → w.cell? ⟨b, o + j * k + i, none⟩ = (enc l[j])[i]?)

theorem Rd.nil {α : Type} (enc : α → List Value) (k : Nat) (w : World) : Rd enc k w (.slice none 0 0) [] := ⟨none, 0, rfl, by simp, by simp [maxLen], fun _ => rfl, fun h => absurd rfl h⟩
theorem Rd.keep {α : Type} {enc : α → List Value} {k : Nat} {F : List Nat} {w w' : World} {v : Value} {l : List α} (h : Rd enc k w v l) (kp : Keep F w w') (hn : Off v F) : Rd enc k w' v l := by
  obtain ⟨ao, cap, rfl, h1, h2, h3, h4⟩ := h.ex
  refine ⟨ao, cap, rfl, h1, h2, h3, fun hl => ?_⟩
  obtain ⟨b, o, rfl, hb, hc⟩ := h4 hl
  refine ⟨b, o, rfl, Nat.lt_of_lt_of_le hb kp.size, fun j hj i hi => ?_⟩
  rw [← hc j hj i hi]
  exact kp.cell hb (hn b rfl)
theorem Rd.len {α : Type} {enc : α → List Value} {k : Nat} {w : World} {v : Value} {l : List α} (h : Rd enc k w v l) : l.length ≤ 9223372036854775807 := by
  obtain ⟨ao, cap, rfl, h1, h2, h3, h4⟩ := h.ex
  simp only [maxLen] at h2
  omega
theorem Rd.form {α : Type} {enc : α → List Value} {k : Nat} {w : World} {v : Value} {l : List α} (h : Rd enc k w v l) : ∃ ao cap, v = .slice ao l.length cap ∧ l.length ≤ cap ∧ cap ≤ 9223372036854775807 := by
  obtain ⟨ao, cap, rfl, h1, h2, h3, h4⟩ := h.ex
  simp only [maxLen] at h2
  exact ⟨ao, cap, rfl, h1, by omega⟩
theorem Rd.at {α : Type} {enc : α → List Value} {k : Nat} {w : World} {v : Value} {l : List α} (h : Rd enc k w v l) (j : Nat) (hj : j < l.length) : ∃ b o cap, v = .slice (some ⟨b, o, none⟩) l.length cap ∧ b < w.heap.size ∧ ∀ i, i < k → w.cell? ⟨b, o + j * k + i, none⟩ = (enc l[j])[i]? := by
  obtain ⟨ao, cap, rfl, h1, h2, h3, h4⟩ := h.ex
  obtain ⟨b, o, rfl, hb, hc⟩ := h4 (by intro e; rw [e] at hj; simp at hj)
  exact ⟨b, o, cap, rfl, hb, fun i hi => hc j hj i hi⟩
/-- a row of one's own reads as its list -/
theorem Rw.rd {α : Type} {E : TypeId} {enc : α → List Value} {k : Nat} (hk : ∀ x, (enc x).length = k) {w : World} {v : Value} {l : List α} (h : Rw E enc k w v l) : Rd enc k w v l := by
  rcases h.cases hk with ⟨rfl, rfl⟩ | ⟨g, cap, rfl, h1, h2, h3, h4, _⟩
  · exact Rd.nil enc k w
  · exact ⟨some ⟨g, 0, none⟩, cap, rfl, h1, by simp only [maxLen]; omega, (by intro h; cases h), fun _ => ⟨g, 0, rfl, h3, fun j hj i hi => by rw [Nat.zero_add]; exact h4 j hj i hi⟩⟩
theorem Rd.int {w : World} {v : Value} {l : List Int} (h : Rd encI 1 w v l) (j : Nat) (hj : j < l.length) : ∃ b o cap, v = .slice (some ⟨b, o, none⟩) l.length cap ∧ b < w.heap.size ∧ w.cell? ⟨b, o + j, none⟩ = some (.int .i64 l[j]) := by
  obtain ⟨b, o, cap, rfl, hb, hc⟩ := h.at j hj
  refine ⟨b, o, cap, rfl, hb, ?_⟩
  have := hc 0 (by omega)
  simpa [encI] using this


theorem Rd.pair {w : World} {v : Value} {l : List Pr} (h : Rd encP 2 w v l) (j : Nat) (hj : j < l.length) : ∃ b o cap, v = .slice (some ⟨b, o, none⟩) l.length cap ∧ b < w.heap.size ∧ w.cell? ⟨b, o + j * 2, none⟩ = some (.int .i64 l[j].k) ∧ w.cell? ⟨b, o + j * 2 + 1, none⟩ = some (.int .i64 l[j].m) := by
  obtain ⟨b, o, cap, rfl, hb, hc⟩ := h.at j hj
  exact ⟨b, o, cap, rfl, hb, hc 0 (by omega), hc 1 (by omega)⟩

end Go.Proofs.Ytkelhglflpdpeaa
