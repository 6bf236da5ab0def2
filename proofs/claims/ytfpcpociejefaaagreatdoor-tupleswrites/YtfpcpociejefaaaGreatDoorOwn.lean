/- Bytes in memory, told plainly: what a slice of bytes reads as, what a row of bytes of one's own is, and what stays as it was while other blocks are written. -/
import Derived.Test.YtfpcpociejefaaaGreatDoorPsC
import Derived.WalkKit
import Derived.WalkSpells
import Derived.WalkLawsBesides
import Derived.PlainAid
import Derived.Deep.AppendSrc
namespace Go.Proofs.YtfpcpociejefaaaGreatDoor
open Go.RowKit Go.PlainAid
abbrev TB : TypeId := 5
abbrev TS : TypeId := 33
theorem infoB : (Tryz.prog.info? TB).map (fun i => (i.zero, i.size, i.bytes)) = some (some (.int .u8 0), 1, 1) := by kernel_rfl
theorem underS : Tryz.prog.underlying TS = some (.slice TB) := Tryz.underlying33
def bv (l : List UInt8) : List Value := l.map fun x => Value.int .u8 (x.toNat : Int)
theorem bv_length (l : List UInt8) : (bv l).length = l.length := by simp [bv]
theorem bv_append (a b : List UInt8) : bv (a ++ b) = bv a ++ bv b := by simp [bv]
theorem bv_get (l : List UInt8) (j : Nat) (hj : j < l.length) : (bv l)[j]? = some (.int .u8 ((l[j]).toNat : Int)) := by simp [bv, hj]
theorem bv_one (l : List UInt8) : ∀ u ∈ bv l, u.oneCell' = true := by
 intro u hu
 obtain ⟨x, _, rfl⟩ := List.mem_map.1 hu
 rfl
theorem bv_byteCells (s : ByteArray) : byteCells s = bv s.data.toList := rfl
/-- what is not among the blocks F is as it was -/
structure Keep (F : List Nat) (w w' : World) : Prop where
 os : w'.os = w.os
 tape : w'.tape = w.tape
 output : w'.output = w.output
 size : w.heap.size ≤ w'.heap.size
 block : ∀ k, k < w.heap.size → k ∉ F → w'.heap[k]? = w.heap[k]?
theorem Keep.refl (F : List Nat) (w : World) : Keep F w w := ⟨rfl, rfl, rfl, Nat.le_refl _, fun _ _ _ => rfl⟩
theorem Keep.trans {F G H : List Nat} {a b c : World} (h : Keep F a b) (k : Keep G b c) (hF : ∀ x ∈ F, x ∈ H ∨ a.heap.size ≤ x) (hG : ∀ x ∈ G, x ∈ H ∨ a.heap.size ≤ x) : Keep H a c := by
 refine ⟨k.os.trans h.os, k.tape.trans h.tape, k.output.trans h.output, Nat.le_trans h.size k.size, fun i hi hn => ?_⟩
 have h1 : i ∉ F := fun hx => by rcases hF i hx with h | h; exact hn h; omega
 have h2 : i ∉ G := fun hx => by rcases hG i hx with h | h; exact hn h; omega
 exact (k.block i (Nat.lt_of_lt_of_le hi h.size) h2).trans (h.block i hi h1)
theorem Keep.trans' {F : List Nat} {a b c : World} (h : Keep F a b) (k : Keep F b c) : Keep F a c := h.trans k (fun _ h => .inl h) (fun _ h => .inl h)
/-- what follows writes none but new blocks and F -/
theorem Keep.more {F G : List Nat} {a b c : World} (h : Keep F a b) (k : Keep G b c) (hG : ∀ x ∈ G, x ∈ F ∨ a.heap.size ≤ x) : Keep F a c := h.trans k (fun _ h => .inl h) hG
theorem Keep.mono {F G : List Nat} {a b : World} (h : Keep F a b) (hF : ∀ x ∈ F, x ∈ G ∨ a.heap.size ≤ x) : Keep G a b := h.trans (Keep.refl [] b) hF (fun _ h => by cases h)
theorem Keep.drew {F : List Nat} {a w : World} (h : Keep F a w) : Keep F a w.drew := ⟨h.os, h.tape, h.output, h.size, h.block⟩
theorem Keep.drewN {F : List Nat} {a w : World} (h : Keep F a w) (n : Nat) : Keep F a (w.drewN n) := ⟨h.os, h.tape, h.output, h.size, h.block⟩
theorem Keep.alloc1 (w : World) (o : Obj) : Keep [] w (w.alloc o) := ⟨rfl, rfl, rfl, by simp, fun k hk _ => Below.heap_alloc _ _ _ hk⟩
theorem Keep.alloc {F : List Nat} {a w : World} (h : Keep F a w) (o : Obj) : Keep F a (w.alloc o) := h.more (Keep.alloc1 w o) (fun _ h => by cases h)
theorem Keep.set1 (w : World) (p : Addr) (u : Value) : Keep [p.block] w (w.setCell p u) :=
 ⟨rfl, rfl, rfl, by simp [World.setCell], fun k _ hn => Below.heap_setCell _ _ _ _ (by simpa using hn)⟩
theorem Keep.setCell {F : List Nat} {a w : World} (h : Keep F a w) {p : Addr} (hp : p.block ∈ F ∨ a.heap.size ≤ p.block) (u : Value) : Keep F a (w.setCell p u) :=
 h.more (Keep.set1 w p u) (by intro x hx; simp at hx; subst hx; exact hp)
theorem Keep.grown {w w' : World} {row : Option Nat} (hg : w.grownBy w' row) : Keep row.toList w w' :=
 ⟨hg.os, hg.tape, hg.output, hg.size, fun k hk hn => hg.block k hk (fun e => hn (by rw [← e]; simp))⟩
theorem Keep.below {w w' : World} (h : Keep [] w w') : Below w.heap.size w w' := ⟨h.os, h.tape, h.output, h.size, fun k hk => h.block k hk (by simp)⟩
theorem Keep.ofBelow {w w' : World} (h : Below w.heap.size w w') : Keep [] w w' := ⟨h.os, h.tape, h.output, h.size, fun k hk _ => h.block k hk⟩
theorem Keep.cell {F : List Nat} {w w' : World} (h : Keep F w w') {p : Addr} (hp : p.block < w.heap.size) (hn : p.block ∉ F) : w'.cell? p = w.cell? p := World.cell?_of_block (w := w) (h.block p.block hp hn)
theorem Keep.cell' {F : List Nat} {w w' : World} (h : Keep F w w') {p : Addr} {u : Value} (hc : w.cell? p = some u) (hn : p.block ∉ F) : w'.cell? p = some u :=
 (h.cell (World.block_lt_of_cell? w p hc) hn).trans hc
theorem Keep.frozen {F : List Nat} {w w' : World} (h : Keep F w w') {p : Addr} (hp : p.block < w.heap.size) (hn : p.block ∉ F) : w'.frozen? p = w.frozen? p := World.frozen?_of_block (w := w) (h.block p.block hp hn)
/-- the block of v is none of F -/
def Off (v : Value) (F : List Nat) : Prop := ∀ k, v.ownBlock = some k → k ∉ F
/-- the block of v is new in w' -/
def Fresh (w w' : World) (v : Value) : Prop := ∀ k, v.ownBlock = some k → w.heap.size ≤ k ∧ k < w'.heap.size
theorem Off.nil (v : Value) : Off v [] := fun _ _ h => by cases h
theorem Fresh.off {w w' : World} {v : Value} {F : List Nat} (h : Fresh w w' v) (hF : ∀ x ∈ F, x < w.heap.size) : Off v F := fun k hk hn => by have := (h k hk).1; have := hF k hn; omega
theorem Fresh.later {w w' w2 : World} {v : Value} (h : Fresh w w' v) (hs : w'.heap.size ≤ w2.heap.size) : Fresh w w2 v := fun k hk => ⟨(h k hk).1, Nat.lt_of_lt_of_le (h k hk).2 hs⟩
theorem Fresh.earlier {w0 w w' : World} {v : Value} (h : Fresh w w' v) (hs : w0.heap.size ≤ w.heap.size) : Fresh w0 w' v := fun k hk => ⟨Nat.le_trans hs (h k hk).1, (h k hk).2⟩
theorem Fresh.nil (w w' : World) : Fresh w w' (.slice none 0 0) := fun _ h => by simp [Value.ownBlock] at h
/-- the slice v reads as the bytes l -/
structure Bs (w : World) (v : Value) (l : List UInt8) : Prop where
 ex : ∃ ao cap, v = .slice ao l.length cap ∧ l.length ≤ cap ∧ cap ≤ maxLen ∧ (ao = none → cap = 0) ∧
  (l ≠ [] → ∃ b o, ao = some ⟨b, o, none⟩ ∧ ∀ j, j < l.length → w.cell? ⟨b, o + j, none⟩ = some (.int .u8 ((l.getD j 0).toNat : Int)))
theorem Bs.nil (w : World) : Bs w (.slice none 0 0) [] := ⟨none, 0, rfl, by simp, by simp [maxLen], fun _ => rfl, fun h => absurd rfl h⟩
theorem Bs.empty (w : World) (a : Addr) (cap : Nat) (h : cap ≤ maxLen) : Bs w (.slice (some a) 0 cap) [] := ⟨some a, cap, rfl, by simp, h, (by intro h; cases h), fun h => absurd rfl h⟩
theorem Bs.keep {F : List Nat} {w w' : World} {v : Value} {l : List UInt8} (h : Bs w v l) (k : Keep F w w') (hn : Off v F) : Bs w' v l := by
 obtain ⟨ao, cap, rfl, h1, h2, h3, h4⟩ := h.ex
 refine ⟨ao, cap, rfl, h1, h2, h3, fun hl => ?_⟩
 obtain ⟨b, o, rfl, hc⟩ := h4 hl
 exact ⟨b, o, rfl, fun j hj => k.cell' (hc j hj) (hn b rfl)⟩
theorem Bs.len {w : World} {v : Value} {l : List UInt8} (h : Bs w v l) : l.length ≤ 9223372036854775807 := by
 obtain ⟨ao, cap, rfl, h1, h2, h3, h4⟩ := h.ex
 simp only [maxLen] at h2
 omega
theorem Bs.lt {w : World} {v : Value} {l : List UInt8} (h : Bs w v l) (hl : l ≠ []) : ∀ k, v.ownBlock = some k → k < w.heap.size := by
 obtain ⟨ao, cap, rfl, h1, h2, h3, h4⟩ := h.ex
 obtain ⟨b, o, rfl, hc⟩ := h4 hl
 intro k hk
 simp [Value.ownBlock] at hk
 subst hk
 exact World.block_lt_of_cell? w _ (hc 0 (by cases l; exact absurd rfl hl; simp))
/-- the two cases of a walk: nothing to read; or an address, and the cells behind it -/
theorem Bs.cases {w : World} {v : Value} {l : List UInt8} (h : Bs w v l) :
  (l = [] ∧ ∃ ao cap, v = .slice ao 0 cap ∧ cap ≤ 9223372036854775807 ∧ (ao = none → cap = 0)) ∨
  (l ≠ [] ∧ ∃ b o cap, v = .slice (some ⟨b, o, none⟩) l.length cap ∧ 0 < l.length ∧ l.length ≤ cap ∧ cap ≤ 9223372036854775807 ∧ ∀ j, j < l.length → w.cell? ⟨b, o + j, none⟩ = some (.int .u8 ((l.getD j 0).toNat : Int))) := by
 obtain ⟨ao, cap, rfl, h1, h2, h3, h4⟩ := h.ex
 simp only [maxLen] at h2
 by_cases hl : l = []
 ·exact .inl ⟨hl, ao, cap, by simp [hl], by omega, h3⟩
 ·obtain ⟨b, o, rfl, hc⟩ := h4 hl
  exact .inr ⟨hl, b, o, cap, rfl, by cases l; exact absurd rfl hl; simp, h1, by omega, hc⟩
theorem Bs.src {w : World} {v : Value} {l : List UInt8} (h : Bs w v l) : Src Tryz.prog 1 TS v l.length (bv l) w := by
 rcases h.cases with ⟨rfl, ao, cap, rfl, _, h3⟩ | ⟨hl, b, o, cap, rfl, _, h1, h2, hc⟩
 ·cases ao with
  | none => exact Src.ofNil w underS cap
  | some a => exact Src.ofSlice w underS a 0 cap [] rfl (fun j u h => by simp at h) (fun u h => by cases h)
 ·refine Src.ofSlice w underS ⟨b, o, none⟩ l.length cap (bv l) (by simp [bv_length]) (fun j u hu => ?_) (bv_one l)
  have hj : j < l.length := by
   have := (List.getElem?_eq_some_iff.1 hu).1
   simpa [bv_length] using this
  rw [bv_get l j hj] at hu
  have hadd : (⟨b, o, none⟩ : Addr).add j = ⟨b, o + j, none⟩ := by unfold Addr.add; split <;> simp_all
  rw [hadd, hc j hj, List.getD_eq_getElem?_getD, List.getElem?_eq_getElem hj]
  exact hu
/-- a row of bytes of one's own -/
def Row (w : World) (v : Value) (l : List UInt8) : Prop := w.ownsRow 0 TB 1 v l.length (bv l)
theorem Row.nil (w : World) : Row w (.slice none 0 0) [] := World.ownsRow_nil w 0 TB 1
theorem Row.keep {F : List Nat} {w w' : World} {v : Value} {l : List UInt8} (h : Row w v l) (k : Keep F w w') (hn : Off v F) : Row w' v l := by
 refine ⟨h.1, ?_⟩
 rcases h.2 with hz | ⟨g, cap, cur, rfl, hb, hg, r⟩
 ·exact .inl hz
 ·exact .inr ⟨g, cap, cur, rfl, hb, (k.block g (Array.getElem?_eq_some_iff.1 hg).1 (hn g rfl)).trans hg, r⟩
theorem Row.lt {w : World} {v : Value} {l : List UInt8} (h : Row w v l) : ∀ k, v.ownBlock = some k → k < w.heap.size := fun k hk => (World.ownsRow.lt h k hk).2
theorem Row.bs {w : World} {v : Value} {l : List UInt8} (h : Row w v l) : Bs w v l := by
 rcases h.2 with ⟨rfl, hz⟩ | ⟨g, cap, cur, rfl, hb, hg, hnc, hcm, hcs, htake⟩
 ·have : l = [] := List.eq_nil_of_length_eq_zero hz
  subst this
  exact Bs.nil w
 ·refine ⟨some ⟨g, 0, none⟩, cap, rfl, hnc, hcm, (by intro h; cases h), fun _ => ⟨g, 0, rfl, fun j hj => ?_⟩⟩
  have := World.ownsRow.cellAt h j (by omega)
  rw [Nat.zero_add, this, bv_get l j hj, List.getD_eq_getElem?_getD, List.getElem?_eq_getElem hj]
  rfl
/-- v is a slice of n elements -/
def Sl (v : Value) (n : Nat) : Prop := ∃ a c, v = .slice a n c
theorem run_app (w : World) (t tx ty : TypeId) (ht : Tryz.prog.underlying t = some (.slice TB)) (v : Value) (l : List UInt8) (hown : Row w v l) (x : Value) (r : List UInt8) (hs : Src Tryz.prog 1 tx x r.length (bv r) w)
  (hbytes : l.length + r.length ≤ 140737488355328) :
  ∃ v' w', (Builtin.append_ #[t, tx] ty #[v, x]).run Tryz.prog w = .ok v' w' ∧ Row w' v' (l ++ r) ∧ Keep v.ownBlock.toList w w' ∧ (v'.ownBlock = v.ownBlock ∨ Fresh w w' v') ∧ Sl v' (l.length + r.length) := by
 obtain ⟨i, hi, hz, hsize, hby⟩ := info_parts infoB
 have h63 : l.length + r.length ≤ maxLen := by simp only [maxLen]; omega
 have hlen : (bv l ++ bv r).length = (l.length + r.length) * i.size := by rw [hsize]; simp [bv_length]
 have hs' : Src Tryz.prog i.size tx x r.length (bv r) w := by rw [hsize]; exact hs
 have hz1 : (Value.int IntKind.u8 0).cells.size = i.size := by rw [hsize]; rfl
 have grown : ∀ (old : Nat), old < l.length + r.length →
   Row (w.drew.alloc (.cells ((bv l ++ bv r).toArray ++ Builtin.zeroCells (Value.int IntKind.u8 0).cells (grownCap w (l.length + r.length) old TB - (l.length + r.length))) TB)) (.slice (some ⟨w.heap.size, 0, none⟩) (l.length + r.length) (grownCap w (l.length + r.length) old TB)) (l ++ r) ∧
   Keep v.ownBlock.toList w (w.drew.alloc (.cells ((bv l ++ bv r).toArray ++ Builtin.zeroCells (Value.int IntKind.u8 0).cells (grownCap w (l.length + r.length) old TB - (l.length + r.length))) TB)) ∧
   Fresh w (w.drew.alloc (.cells ((bv l ++ bv r).toArray ++ Builtin.zeroCells (Value.int IntKind.u8 0).cells (grownCap w (l.length + r.length) old TB - (l.length + r.length))) TB)) (.slice (some ⟨w.heap.size, 0, none⟩) (l.length + r.length) (grownCap w (l.length + r.length) old TB)) := by
  intro old ho
  have hge := grownCap_ge w (l.length + r.length) old TB
  have hcm : grownCap w (l.length + r.length) old TB ≤ maxLen := grownCap_le_maxLen w _ old TB h63
  refine ⟨⟨by simp [bv_length], .inr ⟨w.heap.size, _, _, by simp, Nat.zero_le _, heap_alloc_new w.drew _, by simpa using hge, hcm, ?_, ?_⟩⟩, ((Keep.refl _ w).drew).alloc _, ?_⟩
  ·simp only [Array.size_append, List.size_toArray, size_zeroCells, List.length_append, bv_length]
   simp [Value.cells]
   omega
  ·simp only [Array.toList_append, bv_append]
   rw [List.take_append_of_le_length (by simp [bv_length])]
   exact List.take_of_length_le (by simp [bv_length])
  ·intro k hk
   simp [Value.ownBlock] at hk
   subst hk
   exact ⟨Nat.le_refl _, by simp⟩
 rcases hown.2 with ⟨rfl, hz0⟩ | ⟨g, cap, cur, rfl, hbg, hg, hnc, hcm, hcs, htake⟩
 ·have hl0 : l = [] := List.eq_nil_of_length_eq_zero hz0
  subst hl0
  by_cases hm : r.length = 0
  ·have hr0 : r = [] := List.eq_nil_of_length_eq_zero hm
   subst hr0
   refine ⟨.slice none 0 0, w, ?_, Row.nil w, Keep.refl _ w, .inl rfl, ⟨none, 0, rfl⟩⟩
   have hc := hs'.cells
   have hl := hs'.len
   simp only [List.length_nil] at hc hl
   rcases hs'.kind with ⟨e', hk⟩ | hk <;>
    simp [Builtin.append_, run_underlying ht, run_underlying hk, sizeOf, typeInfo, hi, hl, hc, bv]
  ·have hr := run_append_grow_src (P := Tryz.prog) w t tx ty TB i (.int .u8 0) ht hi hz none 0 0 [] (run_firstCells_none w.drew i.size 0 0 0) x r.length (bv r) hs' (by omega) (by simp only [maxLen] at h63; simp at h63; omega)
    (by rw [hby]; have := hbytes; simp at this; exact growslice_fits (bytes := 1) (by omega) (by omega))
   obtain ⟨g1, g2, g3⟩ := grown 0 (by simp; omega)
   simp only [List.length_nil, Nat.zero_add, List.nil_append, bv, List.map_nil] at hr g1 g2 g3 ⊢
   exact ⟨_, _, hr, g1, g2, .inr g3, _, _, rfl⟩
 ·by_cases hroom : l.length + r.length ≤ cap
  ·have hfit : l.length * i.size + (bv r).length ≤ cur.size := by rw [hsize, hcs, bv_length]; omega
   have hst := run_storeCells_at Tryz.prog g (l.length * i.size) TB (bv r) 0 cur w hg (by simpa using hfit) hs'.one
   simp only [Nat.add_zero] at hst
   refine ⟨.slice (some ⟨g, 0, none⟩) (l.length + r.length) cap, w.setRow g (cur.toList.take (l.length * i.size) ++ bv r ++ cur.toList.drop (l.length * i.size + (bv r).length)).toArray, ?_, ⟨by simp [bv_length], .inr ⟨g, cap, _, by simp, Nat.zero_le _, setRow_heap w g cur _ TB _ hg, by simpa using hroom, hcm, ?_, ?_⟩⟩, ?_, .inl rfl, ⟨_, _, rfl⟩⟩
   ·rcases hs'.kind with ⟨e', hk⟩ | hk <;>
     simp [Builtin.append_, run_underlying ht, run_underlying hk, sizeOf, typeInfo, hi, hs'.len, hroom, hs'.cells, Addr.add_lit, hst]
   ·rw [hsize]
    simp only [List.size_toArray, List.length_append, List.length_take, List.length_drop, Array.length_toList, bv_length]
    omega
   ·rw [hsize, htake]
    simp only [bv_append]
    rw [List.take_append_of_le_length (by simp [bv_length])]
    exact List.take_of_length_le (by simp [bv_length])
   ·exact ⟨rfl, rfl, rfl, by simp, fun k _ hk => setRow_other w g k _ (fun e => hk (by simp [Value.ownBlock, e]))⟩
  ·have holds : ∀ j u, (bv l)[j]? = some u → w.cell? ((⟨g, 0, none⟩ : Addr).add j) = some u := World.ownsRow.cells hown (g := g) rfl
   have hr := run_append_grow_src (P := Tryz.prog) w t tx ty TB i (.int .u8 0) ht hi hz (some ⟨g, 0, none⟩) l.length cap (bv l) (run_firstCells_some w.drew i.size l.length ⟨g, 0, none⟩ l.length cap (bv l) (by rw [hsize]; simp [bv_length]) (by simpa using holds)) x r.length (bv r) hs' (by omega) (by simp only [maxLen] at h63; omega)
    (by rw [hby]; exact growslice_fits (bytes := 1) (by omega) (by omega))
   obtain ⟨g1, g2, g3⟩ := grown cap (by omega)
   exact ⟨_, _, hr, g1, g2, .inr g3, _, _, rfl⟩
/-- x = append(x, ..): the row goes on by what is appended -/
theorem wp_app {ops : Array Oper} {rest : List Oper} {o : Oper} {a : Act} {w : World} {Q : Exit → Act → World → Prop} (hgd : o.guard = none) (s x : Operand) (t tx : TypeId)
  (ho : o.op = .call { callee := .builtin .append, args := #[s, x], argTypes := #[t, tx] }) (ht : Tryz.prog.underlying t = some (.slice TB))
  (v : Value) (l : List UInt8) (hv : a.eval s = v) (hown : Row w v l) (u : Value) (r : List UInt8) (hu : a.eval x = u) (hs : Src Tryz.prog 1 tx u r.length (bv r) w)
  (hbytes : l.length + r.length ≤ 140737488355328)
  (h : ∀ v' w', Row w' v' (l ++ r) → Keep v.ownBlock.toList w w' → (v'.ownBlock = v.ownBlock ∨ Fresh w w' v') → Sl v' (l.length + r.length) → wpList Tryz.prog ops Q rest (a.put o.dst v') w') : wpList Tryz.prog ops Q (o :: rest) a w := by
 obtain ⟨v', w', hr, h1, h2, h3, h4⟩ := run_app w t tx o.type ht v l hown u r hs hbytes
 refine wpList_plain hgd fun K hK => ?_
 unfold Oper.wp execOp
 simp only [ho, resolve, invoke, builtin, Sem.run_bind, Sem.run_pure, Result.andThen_ok, List.map_toArray, List.map_cons, List.map_nil, hv, hu, hr]
 exact hK _ _ (h v' w' h1 h2 h3 h4)
theorem Bs.one (w : World) (c : Nat) (hc : c < 256) : Bs (w.alloc (.cells #[.int .u8 (c : Int)] TB)) (.slice (some ⟨w.heap.size, 0, none⟩) 1 1) [c.toUInt8] := by
 refine ⟨some ⟨w.heap.size, 0, none⟩, 1, rfl, by simp, by simp [maxLen], (by intro h; cases h), fun _ => ⟨w.heap.size, 0, rfl, fun j hj => ?_⟩⟩
 have hj0 : j = 0 := by simpa using hj
 subst hj0
 have h1 : (c.toUInt8).toNat = c := by simp; omega
 simp [h1]
theorem Bs.byte (w : World) (x : UInt8) : Bs (w.alloc (.cells #[.int .u8 (x.toNat : Int)] TB)) (.slice (some ⟨w.heap.size, 0, none⟩) 1 1) [x] := by
 have h := Bs.one w x.toNat x.toNat_lt
 simpa using h
/-- behind an append to bytes of one's own that are new since w -/
theorem app_fresh {w wr w1 : World} {o : Obj} {v v' : Value} (hk : Keep [] w wr) (hf : Fresh w wr v) (h2 : Keep v.ownBlock.toList (wr.alloc o) w1) (h3 : v'.ownBlock = v.ownBlock ∨ Fresh (wr.alloc o) w1 v') :
  Keep [] w w1 ∧ Fresh w w1 v' := by
 have hs := h2.size
 simp at hs
 refine ⟨(hk.alloc o).more h2 (fun x hx => .inr ?_), ?_⟩
 ·simp at hx
  exact (hf x hx).1
 ·rcases h3 with h3 | h3
  ·intro k hk'
   rw [h3] at hk'
   have := hf k hk'
   exact ⟨this.1, by omega⟩
  ·exact h3.earlier (by have := hk.size; simp; omega)
theorem Bs.take {w : World} {ao : Option Addr} {l : List UInt8} {cap : Nat} (n : Nat) (hn : n ≤ l.length) (h : Bs w (.slice ao l.length cap) l) : Bs w (.slice ao n cap) (l.take n) := by
 obtain ⟨ao', cap', he, h1, h2, h3, h4⟩ := h.ex
 simp at he
 obtain ⟨rfl, rfl⟩ := he
 have hl : (l.take n).length = n := by simp; omega
 refine ⟨ao, cap, by rw [hl], by omega, h2, h3, fun hne => ?_⟩
 obtain ⟨b, o, hao, hc⟩ := h4 (by intro hz; rw [hz] at hne; simp at hne)
 refine ⟨b, o, hao, fun j hj => ?_⟩
 rw [hl] at hj
 rw [hc j (by omega)]
 simp [List.getD_eq_getElem?_getD, hj]
theorem Bs.drop {w : World} {b o : Nat} {l : List UInt8} {cap : Nat} (n : Nat) (hn : n ≤ l.length) (h : Bs w (.slice (some ⟨b, o, none⟩) l.length cap) l) : Bs w (.slice (some ⟨b, o + n, none⟩) (l.length - n) (cap - n)) (l.drop n) := by
 obtain ⟨ao, c, he, h1, h2, h3, h4⟩ := h.ex
 simp at he
 obtain ⟨rfl, rfl⟩ := he
 refine ⟨some ⟨b, o + n, none⟩, cap - n, by simp, by simp; omega, by simp only [maxLen] at h2 ⊢; omega, (by intro h; cases h), fun hl => ⟨b, o + n, rfl, fun j hj => ?_⟩⟩
 obtain ⟨b', o', hbo, hc⟩ := h4 (by intro hz; rw [hz] at hl; simp at hl)
 simp at hbo
 obtain ⟨rfl, rfl⟩ := hbo
 have := hc (n + j) (by simp at hj; omega)
 rw [Nat.add_assoc, this]
 simp [List.getD_eq_getElem?_getD]
end Go.Proofs.YtfpcpociejefaaaGreatDoor
