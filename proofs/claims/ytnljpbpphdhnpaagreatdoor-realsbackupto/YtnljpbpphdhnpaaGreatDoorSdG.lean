/- Bytes in memory, told plainly: what a slice of bytes reads as, what a row of bytes of one's own is, and what stays as it was while other blocks are written. -/
import Derived.Test.YtnljpbpphdhnpaaGreatDoorPsC
import Derived.WalkKit
import Derived.WalkSpells
import Derived.WalkLawsBesides
import Derived.PlainAid
import Derived.Deep.AppendSrc

namespace Go.Proofs.YtnljpbpphdhnpaaGreatDoor
open Go.RowKit Go.PlainAid

abbrev TB : TypeId := 5
abbrev TS : TypeId := 72

theorem infoB : (Tryz.prog.info? TB).map (fun i => (i.zero, i.size, i.bytes)) = some (some (.int .u8 0), 1, 1) := by kernel_rfl
theorem underS : Tryz.prog.underlying TS = some (.slice TB) := Tryz.underlying72

def bv (l : List UInt8) : List Value := l.map fun x => Value.int .u8 (x.toNat : Int)

theorem bv_length (l : List UInt8) : (bv l).length = l.length := by simp [bv]
theorem bv_append (a b : List UInt8) : bv (a ++ b) = bv a ++ bv b := by simp [bv]
theorem bv_get (l : List UInt8) (j : Nat) (hj : j < l.length) : (bv l)[j]? = some (.int .u8 ((l[j]).toNat : Int)) := by simp [bv, hj]
theorem bv_one (l : List UInt8) : ∀ u ∈ bv l, u.oneCell' = true := by
  intro u hu
  obtain ⟨x, _, rfl⟩ := List.mem_map.1 hu
  rfl
theorem bv_byteCells (s : ByteArray) : byteCells s = bv s.data.toList := rfl

/-- what is not among the blocks F is as it was -/
structure Keep (F : List Nat) (w w' : World) : Prop where
  os : w'.os = w.os
  tape : w'.tape = w.tape
  output : w'.output = w.output
  size : w.heap.size ≤ w'.heap.size
  block : ∀ k, k < w.heap.size → k ∉ F → w'.heap[k]? = w.heap[k]?

theorem Keep.refl (F : List Nat) (w : World) : Keep F w w := ⟨rfl, rfl, rfl, Nat.le_refl _, fun _ _ _ => rfl⟩

theorem Keep.trans {F G H : List Nat} {a b c : World} (h : Keep F a b) (k : Keep G b c) (hF : ∀ x ∈ F, x ∈ H ∨ a.heap.size ≤ x) (hG : ∀ x ∈ G, x ∈ H ∨ a.heap.size ≤ x) : Keep H a c := by
  refine ⟨k.os.trans h.os, k.tape.trans h.tape, k.output.trans h.output, Nat.le_trans h.size k.size, fun i hi hn => ?_⟩
  have h1 : i ∉ F := fun hx => by rcases hF i hx with h | h; exact hn h; omega
  have h2 : i ∉ G := fun hx => by rcases hG i hx with h | h; exact hn h; omega
  exact (k.block i (Nat.lt_of_lt_of_le hi h.size) h2).trans (h.block i hi h1)

theorem Keep.trans' {F : List Nat} {a b c : World} (h : Keep F a b) (k : Keep F b c) : Keep F a c := h.trans k (fun _ h => .inl h) (fun _ h => .inl h)
/-- what follows writes none but new blocks and F -/
theorem Keep.more {F G : List Nat} {a b c : World} (h : Keep F a b) (k : Keep G b c) (hG : ∀ x ∈ G, x ∈ F ∨ a.heap.size ≤ x) : Keep F a c := h.trans k (fun _ h => .inl h) hG
theorem Keep.mono {F G : List Nat} {a b : World} (h : Keep F a b) (hF : ∀ x ∈ F, x ∈ G ∨ a.heap.size ≤ x) : Keep G a b := h.trans (Keep.refl [] b) hF (fun _ h => by cases h)
theorem Keep.drew {F : List Nat} {a w : World} (h : Keep F a w) : Keep F a w.drew := ⟨h.os, h.tape, h.output, h.size, h.block⟩
theorem Keep.drewN {F : List Nat} {a w : World} (h : Keep F a w) (n : Nat) : Keep F a (w.drewN n) := ⟨h.os, h.tape, h.output, h.size, h.block⟩
theorem Keep.alloc1 (w : World) (o : Obj) : Keep [] w (w.alloc o) := ⟨rfl, rfl, rfl, by simp, fun k hk _ => Below.heap_alloc _ _ _ hk⟩
theorem Keep.alloc {F : List Nat} {a w : World} (h : Keep F a w) (o : Obj) : Keep F a (w.alloc o) := h.more (Keep.alloc1 w o) (fun _ h => by cases h)
theorem Keep.set1 (w : World) (p : Addr) (u : Value) : Keep [p.block] w (w.setCell p u) :=
  ⟨rfl, rfl, rfl, by simp [World.setCell], fun k _ hn => Below.heap_setCell _ _ _ _ (by simpa using hn)⟩
theorem Keep.setCell {F : List Nat} {a w : World} (h : Keep F a w) {p : Addr} (hp : p.block ∈ F ∨ a.heap.size ≤ p.block) (u : Value) : Keep F a (w.setCell p u) :=
  h.more (Keep.set1 w p u) (by intro x hx; simp at hx; subst hx; exact hp)
theorem Keep.grown {w w' : World} {row : Option Nat} (hg : w.grownBy w' row) : Keep row.toList w w' :=
  ⟨hg.os, hg.tape, hg.output, hg.size, fun k hk hn => hg.block k hk (fun e => hn (by rw [← e]; simp))⟩
theorem Keep.below {w w' : World} (h : Keep [] w w') : Below w.heap.size w w' := ⟨h.os, h.tape, h.output, h.size, fun k hk => h.block k hk (by simp)⟩
theorem Keep.ofBelow {w w' : World} (h : Below w.heap.size w w') : Keep [] w w' := ⟨h.os, h.tape, h.output, h.size, fun k hk _ => h.block k hk⟩
theorem Keep.cell {F : List Nat} {w w' : World} (h : Keep F w w') {p : Addr} (hp : p.block < w.heap.size) (hn : p.block ∉ F) : w'.cell? p = w.cell? p := World.cell?_of_block (w := w) (h.block p.block hp hn)
theorem Keep.cell' {F : List Nat} {w w' : World} (h : Keep F w w') {p : Addr} {u : Value} (hc : w.cell? p = some u) (hn : p.block ∉ F) : w'.cell? p = some u :=
  (h.cell (World.block_lt_of_cell? w p hc) hn).trans hc
theorem Keep.frozen {F : List Nat} {w w' : World} (h : Keep F w w') {p : Addr} (hp : p.block < w.heap.size) (hn : p.block ∉ F) : w'.frozen? p = w.frozen? p := World.frozen?_of_block (w := w) (h.block p.block hp hn)

/-- the block of v is none of F -/
def Off (v : Value) (F : List Nat) : Prop := ∀ k, v.ownBlock = some k → k ∉ F
/-- the block of v is new in w' -/
def Fresh (w w' : World) (v : Value) : Prop := ∀ k, v.ownBlock = some k → w.heap.size ≤ k ∧ k < w'.heap.size

theorem Off.nil (v : Value) : Off v [] := fun _ _ h => by cases h
theorem Fresh.off {w w' : World} {v : Value} {F : List Nat} (h : Fresh w w' v) (hF : ∀ x ∈ F, x < w.heap.size) : Off v F := fun k hk hn => by have := (h k hk).1; have := hF k hn; omega
theorem Fresh.later {w w' w2 : World} {v : Value} (h : Fresh w w' v) (hs : w'.heap.size ≤ w2.heap.size) : Fresh w w2 v := fun k hk => ⟨(h k hk).1, Nat.lt_of_lt_of_le (h k hk).2 hs⟩
theorem Fresh.earlier {w0 w w' : World} {v : Value} (h : Fresh w w' v) (hs : w0.heap.size ≤ w.heap.size) : Fresh w0 w' v := fun k hk => ⟨Nat.le_trans hs (h k hk).1, (h k hk).2⟩
theorem Fresh.nil (w w' : World) : Fresh w w' (.slice none 0 0) := fun _ h => by simp [Value.ownBlock] at h

/-- the slice v reads as the bytes l -/
structure Bs (w : World) (v : Value) (l : List UInt8) : Prop where
  ex : ∃ ao cap, v = .slice ao l.length cap ∧ l.length ≤ cap ∧ cap ≤ maxLen ∧ (ao = none → cap = 0) ∧
    (l ≠ [] → ∃ b o, ao = some ⟨b, o, none⟩ ∧ ∀ j, j < l.length → w.cell? ⟨b, o + j, none⟩ = some (.int .u8 ((l.getD j 0).toNat : Int)))

theorem Bs.nil (w : World) : Bs w (.slice none 0 0) [] := ⟨none, 0, rfl, by simp, by simp [maxLen], fun _ => rfl, fun h => absurd rfl h⟩
theorem Bs.empty (w : World) (a : Addr) (cap : Nat) (h : cap ≤ maxLen) : Bs w (.slice (some a) 0 cap) [] := ⟨some a, cap, rfl, by simp, h, (by intro h; cases h), fun h => absurd rfl h⟩

theorem Bs.keep {F : List Nat} {w w' : World} {v : Value} {l : List UInt8} (h : Bs w v l) (k : Keep F w w') (hn : Off v F) : Bs w' v l := by
  obtain ⟨ao, cap, rfl, h1, h2, h3, h4⟩ := h.ex
  refine ⟨ao, cap, rfl, h1, h2, h3, fun hl => ?_⟩
  obtain ⟨b, o, rfl, hc⟩ := h4 hl
  exact ⟨b, o, rfl, fun j hj => k.cell' (hc j hj) (hn b rfl)⟩

theorem Bs.len {w : World} {v : Value} {l : List UInt8} (h : Bs w v l) : l.length ≤ 9223372036854775807 := by
  obtain ⟨ao, cap, rfl, h1, h2, h3, h4⟩ := h.ex
  simp only [maxLen] at h2
  omega

theorem Bs.lt {w : World} {v : Value} {l : List UInt8} (h : Bs w v l) (hl : l ≠ []) : ∀ k, v.ownBlock = some k → k < w.heap.size := by
  obtain ⟨ao, cap, rfl, h1, h2, h3, h4⟩ := h.ex
  obtain ⟨b, o, rfl, hc⟩ := h4 hl
  intro k hk
  simp [Value.ownBlock] at hk
  subst hk
  exact World.block_lt_of_cell? w _ (hc 0 (by cases l; exact absurd rfl hl; simp))

/-- the two cases of a walk: nothing to read; or an address, and the cells behind it -/
theorem Bs.cases {w : World} {v : Value} {l : List UInt8} (h : Bs w v l) :
    (l = [] ∧ ∃ ao cap, v = .slice ao 0 cap ∧ cap ≤ 9223372036854775807 ∧ (ao = none → cap = 0)) ∨
    (l ≠ [] ∧ ∃ b o cap, v = .slice (some ⟨b, o, none⟩) l.length cap ∧ 0 < l.length ∧ l.length ≤ cap ∧ cap ≤ 9223372036854775807 ∧ ∀ j, j < l.length → w.cell? ⟨b, o + j, none⟩ = some (.int .u8 ((l.getD j 0).toNat : Int))) := by
  obtain ⟨ao, cap, rfl, h1, h2, h3, h4⟩ := h.ex
  simp only [maxLen] at h2
  by_cases hl : l = []
  · exact .inl ⟨hl, ao, cap, by simp [hl], by omega, h3⟩
  · obtain ⟨b, o, rfl, hc⟩ := h4 hl
    exact .inr ⟨hl, b, o, cap, rfl, by cases l; exact absurd rfl hl; simp, h1, by omega, hc⟩

theorem Bs.src {w : World} {v : Value} {l : List UInt8} (h : Bs w v l) : Src Tryz.prog 1 TS v l.length (bv l) w := by
  rcases h.cases with ⟨rfl, ao, cap, rfl, _, h3⟩ | ⟨hl, b, o, cap, rfl, _, h1, h2, hc⟩
  · cases ao with
    | none => exact Src.ofNil w underS cap
    | some a => exact Src.ofSlice w underS a 0 cap [] rfl (fun j u h => by simp at h) (fun u h => by cases h)
  · refine Src.ofSlice w underS ⟨b, o, none⟩ l.length cap (bv l) (by simp [bv_length]) (fun j u hu => ?_) (bv_one l)
    have hj : j < l.length := by
      have := (List.getElem?_eq_some_iff.1 hu).1
      simpa [bv_length] using this
    rw [bv_get l j hj] at hu
    have hadd : (⟨b, o, none⟩ : Addr).add j = ⟨b, o + j, none⟩ := by unfold Addr.add; split <;> simp_all
    rw [hadd, hc j hj, List.getD_eq_getElem?_getD, List.getElem?_eq_getElem hj]
    exact hu

/-- a row of bytes of one's own -/
def Row (w : World) (v : Value) (l : List UInt8) : Prop := w.ownsRow 0 TB 1 v l.length (bv l)

theorem Row.nil (w : World) : Row w (.slice none 0 0) [] := World.ownsRow_nil w 0 TB 1
theorem Row.keep {F : List Nat} {w w' : World} {v : Value} {l : List UInt8} (h : Row w v l) (k : Keep F w w') (hn : Off v F) : Row w' v l := by
  refine ⟨h.1, ?_⟩
  rcases h.2 with hz | ⟨g, cap, cur, rfl, hb, hg, r⟩
  · exact .inl hz
  · exact .inr ⟨g, cap, cur, rfl, hb, (k.block g (Array.getElem?_eq_some_iff.1 hg).1 (hn g rfl)).trans hg, r⟩
theorem Row.lt {w : World} {v : Value} {l : List UInt8} (h : Row w v l) : ∀ k, v.ownBlock = some k → k < w.heap.size := fun k hk => (World.ownsRow.lt h k hk).2
theorem Row.bs {w : World} {v : Value} {l : List UInt8} (h : Row w v l) : Bs w v l := by
  rcases h.2 with ⟨rfl, hz⟩ | ⟨g, cap, cur, rfl, hb, hg, hnc, hcm, hcs, htake⟩
  · have : l = [] := List.eq_nil_of_length_eq_zero hz
    subst this
    exact Bs.nil w
  · refine ⟨some ⟨g, 0, none⟩, cap, rfl, hnc, hcm, (by intro h; cases h), fun _ => ⟨g, 0, rfl, fun j hj => ?_⟩⟩
    have := World.ownsRow.cellAt h j (by omega)
    rw [Nat.zero_add, this, bv_get l j hj, List.getD_eq_getElem?_getD, List.getElem?_eq_getElem hj]
    rfl

/-- v is a slice of n elements -/
def Sl (v : Value) (n : Nat) : Prop := ∃ a c, v = .slice a n c

theorem run_app (w : World) (t tx ty : TypeId) (ht : Tryz.prog.underlying t = some (.slice TB)) (v : Value) (l : List UInt8) (hown : Row w v l) (x : Value) (r : List UInt8) (hs : Src Tryz.prog 1 tx x r.length (bv r) w)
    (hbytes : l.length + r.length ≤ 140737488355328) :
    ∃ v' w', (Builtin.append_ #[t, tx] ty #[v, x]).run Tryz.prog w = .ok v' w' ∧ Row w' v' (l ++ r) ∧ Keep v.ownBlock.toList w w' ∧ (v'.ownBlock = v.ownBlock ∨ Fresh w w' v') ∧ Sl v' (l.length + r.length) := by
  obtain ⟨i, hi, hz, hsize, hby⟩ := info_parts infoB
  have h63 : l.length + r.length ≤ maxLen := by simp only [maxLen]; omega
  have hlen : (bv l ++ bv r).length = (l.length + r.length) * i.size := by rw [hsize]; simp [bv_length]
  have hs' : Src Tryz.prog i.size tx x r.length (bv r) w := by rw [hsize]; exact hs
  have hz1 : (Value.int IntKind.u8 0).cells.size = i.size := by rw [hsize]; rfl
  have grown : ∀ (old : Nat), old < l.length + r.length →
      Row (w.drew.alloc (.cells ((bv l ++ bv r).toArray ++ Builtin.zeroCells (Value.int IntKind.u8 0).cells (grownCap w (l.length + r.length) old TB - (l.length + r.length))) TB)) (.slice (some ⟨w.heap.size, 0, none⟩) (l.length + r.length) (grownCap w (l.length + r.length) old TB)) (l ++ r) ∧
      Keep v.ownBlock.toList w (w.drew.alloc (.cells ((bv l ++ bv r).toArray ++ Builtin.zeroCells (Value.int IntKind.u8 0).cells (grownCap w (l.length + r.length) old TB - (l.length + r.length))) TB)) ∧
      Fresh w (w.drew.alloc (.cells ((bv l ++ bv r).toArray ++ Builtin.zeroCells (Value.int IntKind.u8 0).cells (grownCap w (l.length + r.length) old TB - (l.length + r.length))) TB)) (.slice (some ⟨w.heap.size, 0, none⟩) (l.length + r.length) (grownCap w (l.length + r.length) old TB)) := by
    intro old ho
    have hge := grownCap_ge w (l.length + r.length) old TB
    have hcm : grownCap w (l.length + r.length) old TB ≤ maxLen := grownCap_le_maxLen w _ old TB h63
    refine ⟨⟨by simp [bv_length], .inr ⟨w.heap.size, _, _, by simp, Nat.zero_le _, heap_alloc_new w.drew _, by simpa using hge, hcm, ?_, ?_⟩⟩, ((Keep.refl _ w).drew).alloc _, ?_⟩
    · simp only [Array.size_append, List.size_toArray, size_zeroCells, List.length_append, bv_length]
      simp [Value.cells]
      omega
    · simp only [Array.toList_append, bv_append]
      rw [List.take_append_of_le_length (by simp [bv_length])]
      exact List.take_of_length_le (by simp [bv_length])
    · intro k hk
      simp [Value.ownBlock] at hk
      subst hk
      exact ⟨Nat.le_refl _, by simp⟩
  rcases hown.2 with ⟨rfl, hz0⟩ | ⟨g, cap, cur, rfl, hbg, hg, hnc, hcm, hcs, htake⟩
  · have hl0 : l = [] := List.eq_nil_of_length_eq_zero hz0
    subst hl0
    by_cases hm : r.length = 0
    · have hr0 : r = [] := List.eq_nil_of_length_eq_zero hm
      subst hr0
      refine ⟨.slice none 0 0, w, ?_, Row.nil w, Keep.refl _ w, .inl rfl, ⟨none, 0, rfl⟩⟩
      have hc := hs'.cells
      have hl := hs'.len
      simp only [List.length_nil] at hc hl
      rcases hs'.kind with ⟨e', hk⟩ | hk <;>
        simp [Builtin.append_, run_underlying ht, run_underlying hk, sizeOf, typeInfo, hi, hl, hc, bv]
    · have hr := run_append_grow_src (P := Tryz.prog) w t tx ty TB i (.int .u8 0) ht hi hz none 0 0 [] (run_firstCells_none w.drew i.size 0 0 0) x r.length (bv r) hs' (by omega) (by simp only [maxLen] at h63; simp at h63; omega)
        (by rw [hby]; have := hbytes; simp at this; exact growslice_fits (bytes := 1) (by omega) (by omega))
      obtain ⟨g1, g2, g3⟩ := grown 0 (by simp; omega)
      simp only [List.length_nil, Nat.zero_add, List.nil_append, bv, List.map_nil] at hr g1 g2 g3 ⊢
      exact ⟨_, _, hr, g1, g2, .inr g3, _, _, rfl⟩
  · by_cases hroom : l.length + r.length ≤ cap
    · have hfit : l.length * i.size + (bv r).length ≤ cur.size := by rw [hsize, hcs, bv_length]; omega
      have hst := run_storeCells_at Tryz.prog g (l.length * i.size) TB (bv r) 0 cur w hg (by simpa using hfit) hs'.one
      simp only [Nat.add_zero] at hst
      refine ⟨.slice (some ⟨g, 0, none⟩) (l.length + r.length) cap, w.setRow g (cur.toList.take (l.length * i.size) ++ bv r ++ cur.toList.drop (l.length * i.size + (bv r).length)).toArray, ?_, ⟨by simp [bv_length], .inr ⟨g, cap, _, by simp, Nat.zero_le _, setRow_heap w g cur _ TB _ hg, by simpa using hroom, hcm, ?_, ?_⟩⟩, ?_, .inl rfl, ⟨_, _, rfl⟩⟩
      · rcases hs'.kind with ⟨e', hk⟩ | hk <;>
          simp [Builtin.append_, run_underlying ht, run_underlying hk, sizeOf, typeInfo, hi, hs'.len, hroom, hs'.cells, Addr.add_lit, hst]
      · rw [hsize]
        simp only [List.size_toArray, List.length_append, List.length_take, List.length_drop, Array.length_toList, bv_length]
        omega
      · rw [hsize, htake]
        simp only [bv_append]
        rw [List.take_append_of_le_length (by simp [bv_length])]
        exact List.take_of_length_le (by simp [bv_length])
      · exact ⟨rfl, rfl, rfl, by simp, fun k _ hk => setRow_other w g k _ (fun e => hk (by simp [Value.ownBlock, e]))⟩
    · have holds : ∀ j u, (bv l)[j]? = some u → w.cell? ((⟨g, 0, none⟩ : Addr).add j) = some u := World.ownsRow.cells hown (g := g) rfl
      have hr := run_append_grow_src (P := Tryz.prog) w t tx ty TB i (.int .u8 0) ht hi hz (some ⟨g, 0, none⟩) l.length cap (bv l) (run_firstCells_some w.drew i.size l.length ⟨g, 0, none⟩ l.length cap (bv l) (by rw [hsize]; simp [bv_length]) (by simpa using holds)) x r.length (bv r) hs' (by omega) (by simp only [maxLen] at h63; omega)
        (by rw [hby]; exact growslice_fits (bytes := 1) (by omega) (by omega))
      obtain ⟨g1, g2, g3⟩ := grown cap (by omega)
      exact ⟨_, _, hr, g1, g2, .inr g3, _, _, rfl⟩

/-- x = append(x, ..): the row goes on by what is appended -/
theorem wp_app {ops : Array Oper} {rest : List Oper} {o : Oper} {a : Act} {w : World} {Q : Exit → Act → World → Prop} (hgd : o.guard = none) (s x : Operand) (t tx : TypeId)
    (ho : o.op = .call { callee := .builtin .append, args := #[s, x], argTypes := #[t, tx] }) (ht : Tryz.prog.underlying t = some (.slice TB))
    (v : Value) (l : List UInt8) (hv : a.eval s = v) (hown : Row w v l) (u : Value) (r : List UInt8) (hu : a.eval x = u) (hs : Src Tryz.prog 1 tx u r.length (bv r) w)
    (hbytes : l.length + r.length ≤ 140737488355328)
    (h : ∀ v' w', Row w' v' (l ++ r) → Keep v.ownBlock.toList w w' → (v'.ownBlock = v.ownBlock ∨ Fresh w w' v') → Sl v' (l.length + r.length) → wpList Tryz.prog ops Q rest (a.put o.dst v') w') : wpList Tryz.prog ops Q (o :: rest) a w := by
  obtain ⟨v', w', hr, h1, h2, h3, h4⟩ := run_app w t tx o.type ht v l hown u r hs hbytes
  refine wpList_plain hgd fun K hK => ?_
  unfold Oper.wp execOp
  simp only [ho, resolve, invoke, builtin, Sem.run_bind, Sem.run_pure, Result.andThen_ok, List.map_toArray, List.map_cons, List.map_nil, hv, hu, hr]
  exact hK _ _ (h v' w' h1 h2 h3 h4)

theorem Bs.one (w : World) (c : Nat) (hc : c < 256) : Bs (w.alloc (.cells #[.int .u8 (c : Int)] TB)) (.slice (some ⟨w.heap.size, 0, none⟩) 1 1) [c.toUInt8] := by
  refine ⟨some ⟨w.heap.size, 0, none⟩, 1, rfl, by simp, by simp [maxLen], (by intro h; cases h), fun _ => ⟨w.heap.size, 0, rfl, fun j hj => ?_⟩⟩
  have hj0 : j = 0 := by simpa using hj
  subst hj0
  have h1 : (c.toUInt8).toNat = c := by simp; omega
  simp [h1]


theorem Bs.byte (w : World) (x : UInt8) : Bs (w.alloc (.cells #[.int .u8 (x.toNat : Int)] TB)) (.slice (some ⟨w.heap.size, 0, none⟩) 1 1) [x] := by
  have h := Bs.one w x.toNat x.toNat_lt
  simpa using h

/-- behind an append to bytes of one's own that are new since w -/
theorem app_fresh {w wr w1 : World} {o : Obj} {v v' : Value} (hk : Keep [] w wr) (hf : Fresh w wr v) (h2 : Keep v.ownBlock.toList (wr.alloc o) w1) (h3 : v'.ownBlock = v.ownBlock ∨ Fresh (wr.alloc o) w1 v') :
    Keep [] w w1 ∧ Fresh w w1 v' := by
  have hs := h2.size
  simp at hs
  refine ⟨(hk.alloc o).more h2 (fun x hx => .inr ?_), ?_⟩
  · simp at hx
    exact (hf x hx).1
  · rcases h3 with h3 | h3
    · intro k hk'
      rw [h3] at hk'
      have := hf k hk'
      exact ⟨this.1, by omega⟩
    · exact h3.earlier (by have := hk.size; simp; omega)

theorem Bs.take {w : World} {ao : Option Addr} {l : List UInt8} {cap : Nat} (n : Nat) (hn : n ≤ l.length) (h : Bs w (.slice ao l.length cap) l) : Bs w (.slice ao n cap) (l.take n) := by
  obtain ⟨ao', cap', he, h1, h2, h3, h4⟩ := h.ex
  simp at he
  obtain ⟨rfl, rfl⟩ := he
  have hl : (l.take n).length = n := by simp; omega
  refine ⟨ao, cap, by rw [hl], by omega, h2, h3, fun hne => ?_⟩
  obtain ⟨b, o, hao, hc⟩ := h4 (by intro hz; rw [hz] at hne; simp at hne)
  refine ⟨b, o, hao, fun j hj => ?_⟩
  rw [hl] at hj
  rw [hc j (by omega)]
  simp [List.getD_eq_getElem?_getD, hj]

theorem Bs.drop {w : World} {b o : Nat} {l : List UInt8} {cap : Nat} (n : Nat) (hn : n ≤ l.length) (h : Bs w (.slice (some ⟨b, o, none⟩) l.length cap) l) : Bs w (.slice (some ⟨b, o + n, none⟩) (l.length - n) (cap - n)) (l.drop n) := by
  obtain ⟨ao, c, he, h1, h2, h3, h4⟩ := h.ex
  simp at he
  obtain ⟨rfl, rfl⟩ := he
  refine ⟨some ⟨b, o + n, none⟩, cap - n, by simp, by simp; omega, by simp only [maxLen] at h2 ⊢; omega, (by intro h; cases h), fun hl => ⟨b, o + n, rfl, fun j hj => ?_⟩⟩
  obtain ⟨b', o', hbo, hc⟩ := h4 (by intro hz; rw [hz] at hl; simp at hl)
  simp at hbo
  obtain ⟨rfl, rfl⟩ := hbo
  have := hc (n + j) (by simp at hj; omega)
  rw [Nat.add_assoc, this]
  simp [List.getD_eq_getElem?_getD]

end Go.Proofs.YtnljpbpphdhnpaaGreatDoor




/- The library's fmtEFG, where the digits are written with a power of ten of one digit. -/
namespace Go.Proofs.YtnljpbpphdhnpaaGreatDoor
open Go.RowKit Go.PlainAid

/-- what is being written, beside the digits -/
structure Fm (w0 w : World) (v : Value) (l : List UInt8) (b cap : Nat) (D : List UInt8) : Prop where
  row : Row w v l
  bs : Bs w (.slice (some ⟨b, 0, none⟩) D.length cap) D
  ne : D ≠ []
  off : b ∉ v.ownBlock.toList
  keep : Keep [] w0 w
  fresh : Fresh w0 w v
theorem Fm.blt {w0 w : World} {v : Value} {l : List UInt8} {b cap : Nat} {D : List UInt8} (h : Fm w0 w v l b cap D) : b < w.heap.size := h.bs.lt h.ne b rfl
theorem Fm.app {w0 w w1 : World} {v v' : Value} {l r : List UInt8} {b cap : Nat} {D : List UInt8} (h : Fm w0 w v l b cap D) (g1 : Row w1 v' (l ++ r)) (g2 : Keep v.ownBlock.toList w w1) (g3 : v'.ownBlock = v.ownBlock ∨ Fresh w w1 v') : Fm w0 w1 v' (l ++ r) b cap D := by
  have hb := h.blt
  refine ⟨g1, h.bs.keep g2 (fun k hk => by simp [Value.ownBlock] at hk; subst hk; exact h.off), h.ne, ?_, ?_, ?_⟩
  · rcases g3 with g | g
    · rw [g]; exact h.off
    · intro hm
      simp at hm
      have := (g b hm).1
      omega
  · exact h.keep.more g2 (fun x hx => .inr (by simp at hx; exact (h.fresh x hx).1))
  · rcases g3 with g | g
    · intro k hk
      rw [g] at hk
      have := h.fresh k hk
      exact ⟨this.1, Nat.lt_of_lt_of_le this.2 g2.size⟩
    · exact g.earlier h.keep.size
theorem Fm.alloc {w0 w : World} {v : Value} {l : List UInt8} {b cap : Nat} {D : List UInt8} (h : Fm w0 w v l b cap D) (o : Obj) : Fm w0 (w.alloc o) v l b cap D :=
  ⟨h.row.keep (Keep.alloc1 w o) (Off.nil _), h.bs.keep (Keep.alloc1 w o) (Off.nil _), h.ne, h.off, h.keep.alloc o, h.fresh.later (by simp)⟩
theorem Bs.two (w : World) (x y : UInt8) : Bs (w.alloc (.cells #[.int .u8 (x.toNat : Int), .int .u8 (y.toNat : Int)] TB)) (.slice (some ⟨w.heap.size, 0, none⟩) 2 2) [x, y] := by
  refine ⟨some ⟨w.heap.size, 0, none⟩, 2, rfl, by simp, by simp [maxLen], (by intro h; cases h), fun _ => ⟨w.heap.size, 0, rfl, fun j hj => ?_⟩⟩
  rw [Nat.zero_add, World.cell?_alloc_new]
  have : j = 0 ∨ j = 1 := by simp at hj; omega
  rcases this with rfl | rfl <;> rfl

set_option maxRecDepth 1000000 in
set_option maxHeartbeats 4000000 in
theorem fmtE_any (w0 w : World) (v : Value) (l : List UInt8) (b cap : Nat) (D : List UInt8) (nd dp : Nat) (hF : Fm w0 w v l b cap D) (hl : l.length ≤ 1000) (hD : D.length ≤ 1000) (hn1 : 2 ≤ nd) (hn2 : nd ≤ D.length) (hc : cap ≤ 1000) (hd1 : 1 ≤ dp) (hd2 : dp ≤ 10) :
    Calls Tryz.prog 137 #[v, .bool false, .slice (some ⟨b, 0, none⟩) D.length cap, .int .i64 dp, .int .i64 nd, .int .i64 ((nd : Int) - 1), .int .u8 101, .bool true] w fun e w' =>
      ∃ v', e = .returned v' ∧ Fm w0 w' v' (l ++ [D.getD 0 0] ++ [46] ++ (D.take nd).drop 1 ++ [101] ++ [43] ++ [48, UInt8.ofNat (48 + (dp - 1))]) b cap D := by
  have h0 : 0 < D.length := by omega
  obtain ⟨ao, cp, he, hb1, hb2, hb3, hb4⟩ := hF.bs.ex
  obtain ⟨b', o', hbo, hcell⟩ := hb4 hF.ne
  simp at he
  obtain ⟨rfl, rfl⟩ := he
  simp at hbo
  obtain ⟨rfl, rfl⟩ := hbo
  have hc0 := hcell 0 h0
  rw [Nat.add_zero] at hc0
  clear hb1 hb2 hb3 hb4
  have HC : Hid (∀ j, j < D.length → w.cell? ⟨b, 0 + j, none⟩ = some (.int .u8 ((D.getD j 0).toNat : Int))) := hcell
  clear hcell
  generalize hx0 : D.getD 0 0 = x0 at *
  have HF : Hid (Fm w0 w v l b cap D) := hF
  have hF1 := hF.alloc (.cells #[.int .u8 (x0.toNat : Int)] TB)
  have hr1 := hF1.row
  have hs1 := (Bs.byte w x0).src
  have HB1 : Hid (l.length + [x0].length ≤ 140737488355328) := show l.length + [x0].length ≤ 140737488355328 by simp; omega
  have HF1 : Hid (Fm w0 (w.alloc (.cells #[.int .u8 (x0.toNat : Int)] TB)) v l b cap D) := hF1
  have t1 : ((nd : Int) != 0) = true := by simp; omega
  have t2 : (0 : Int) < (nd : Int) - 1 := by omega
  have hDi : (0 : Int) < (D.length : Int) := by omega
  clear hF hF1
  go_enter Tryz.func137, Tryz.ntmps137
  go_wp2_with (at_builtin; refine wp_app rfl (.tmp 87) (.tmp 89) 72 72 rfl underS _ l rfl hr1 _ [x0] rfl hs1 HB1.out ?_)
  intro v1 w1 g1 g2 g3 g4
  obtain ⟨L1, HL1, HG1⟩ : ∃ L, Hid (L = l ++ [x0] ∧ L.length ≤ 2010) ∧ Hid (Fm w0 w1 v1 L b cap D) := ⟨_, ⟨rfl, by simp; omega⟩, HF1.out.app g1 g2 g3⟩
  clear g1 g2 g3 g4 hr1 hs1 HB1 HF1 HF HC hc0 t1
  have HF1 := HG1
  clear HG1
  have hl2 : L1.length ≤ 2010 := HL1.out.2
  have hr := (HF1.out.alloc (.cells #[.int .u8 46] TB)).row
  have hs := (show Bs (w1.alloc (.cells #[.int .u8 46] TB)) (.slice (some ⟨w1.heap.size, 0, none⟩) 1 1) [46] from Bs.byte w1 46).src
  have HB : Hid (L1.length + [(46 : UInt8)].length ≤ 140737488355328) := show L1.length + [(46 : UInt8)].length ≤ 140737488355328 by simp; omega
  go_wp2_with (at_builtin; refine wp_app rfl (.tmp 93) (.tmp 94) 72 72 rfl underS _ L1 rfl hr _ [46] rfl hs HB.out ?_)
  intro v2 w2 g1 g2 g3 g4
  obtain ⟨L2, HL2, HF2⟩ : ∃ L, Hid (L = L1 ++ [46] ∧ L.length ≤ 3020) ∧ Hid (Fm w0 w2 v2 L b cap D) := ⟨_, ⟨rfl, by simp; omega⟩, (HF1.out.alloc _).app g1 g2 g3⟩
  clear g1 g2 g3 g4 hr hs HB HF1
  have hl3 : L2.length ≤ 3020 := HL2.out.2
  have hcap : D.length ≤ cap := by
    obtain ⟨ao, cp, he, hb1, _, _, _⟩ := HF2.out.bs.ex
    simp at he
    omega
  have u1 : nd ≤ cap := by omega
  have u2 : ¬ cap = 1 := by omega
  have hr := HF2.out.row
  have hs : Src Tryz.prog 1 72 (.slice (some ⟨b, 1, none⟩) (nd - 1) (cap - 1)) ((D.take nd).drop 1).length (bv ((D.take nd).drop 1)) w2 := by
    have h1 := Bs.take nd hn2 HF2.out.bs
    have h2 : (D.take nd).length = nd := by simp; omega
    have h3 := Bs.drop (b := b) (o := 0) (l := D.take nd) (cap := cap) 1 (by omega) (by rw [h2]; exact h1)
    rw [h2] at h3
    exact h3.src
  have hlr : ((D.take nd).drop 1).length = nd - 1 := by simp; omega
  have HB : Hid (L2.length + ((D.take nd).drop 1).length ≤ 140737488355328) := show L2.length + ((D.take nd).drop 1).length ≤ 140737488355328 by omega
  have HD : Hid (((D.take nd).drop 1).length ≤ 1000) := show ((D.take nd).drop 1).length ≤ 1000 by omega
  clear hlr
  generalize hEE : (D.take nd).drop 1 = E at *
  have HEE : Hid ((D.take nd).drop 1 = E) := hEE
  clear hEE
  go_wp2_with (at_builtin; refine wp_app rfl (.tmp 103) (.tmp 107) 72 72 rfl underS _ L2 rfl hr _ E rfl hs HB.out ?_)
  intro v3 w3 g1 g2 g3 g4
  have hE : E.length ≤ 1000 := HD.out
  obtain ⟨L3, HL3, HF3⟩ : ∃ L, Hid (L = L2 ++ E ∧ L.length ≤ 4030) ∧ Hid (Fm w0 w3 v3 L b cap D) := ⟨_, ⟨rfl, by simp; omega⟩, HF2.out.app g1 g2 g3⟩
  clear g1 g2 g3 g4 hr hs HB HF2 u1 u2
  go_wp2
  refine wp_loop_rounds 1 ?_
  rw [rounds_succ]
  have hl4 : L3.length ≤ 4030 := HL3.out.2
  have hr := (HF3.out.alloc (.cells #[.int .u8 101] TB)).row
  have hs := (show Bs (w3.alloc (.cells #[.int .u8 101] TB)) (.slice (some ⟨w3.heap.size, 0, none⟩) 1 1) [101] from Bs.byte w3 101).src
  have HB : Hid (L3.length + [(101 : UInt8)].length ≤ 140737488355328) := show L3.length + [(101 : UInt8)].length ≤ 140737488355328 by simp; omega
  go_wp2_with (at_builtin; refine wp_app rfl (.tmp 120) (.tmp 122) 72 72 rfl underS _ L3 rfl hr _ [101] rfl hs HB.out ?_)
  intro v4 w4 g1 g2 g3 g4
  obtain ⟨L4, HL4, HF4⟩ : ∃ L, Hid (L = L3 ++ [101] ∧ L.length ≤ 5040) ∧ Hid (Fm w0 w4 v4 L b cap D) := ⟨_, ⟨rfl, by simp; omega⟩, (HF3.out.alloc _).app g1 g2 g3⟩
  clear g1 g2 g3 g4 hr hs HB HF3
  have hl5 : L4.length ≤ 5040 := HL4.out.2
  have hr := (HF4.out.alloc (.cells #[.int .u8 43] TB)).row
  have hs := (show Bs (w4.alloc (.cells #[.int .u8 43] TB)) (.slice (some ⟨w4.heap.size, 0, none⟩) 1 1) [43] from Bs.byte w4 43).src
  have HB : Hid (L4.length + [(43 : UInt8)].length ≤ 140737488355328) := show L4.length + [(43 : UInt8)].length ≤ 140737488355328 by simp; omega
  go_wp2_with (at_builtin; refine wp_app rfl (.tmp 132) (.tmp 134) 72 72 rfl underS _ L4 rfl hr _ [43] rfl hs HB.out ?_)
  intro v5 w5 g1 g2 g3 g4
  obtain ⟨L5, HL5, HF5⟩ : ∃ L, Hid (L = L4 ++ [43] ∧ L.length ≤ 6050) ∧ Hid (Fm w0 w5 v5 L b cap D) := ⟨_, ⟨rfl, by simp; omega⟩, (HF4.out.alloc _).app g1 g2 g3⟩
  clear g1 g2 g3 g4 hr hs HB HF4
  have hl6 : L5.length ≤ 6050 := HL5.out.2
  obtain ⟨y, HY⟩ : ∃ y, Hid (y = UInt8.ofNat (48 + (dp - 1))) := ⟨_, rfl⟩
  have hy : (y.toNat : Int) = (dp : Int) - 1 + 48 := by
    rw [HY.out]
    simp [UInt8.toNat_ofNat]; omega
  have hr := (HF5.out.alloc (.cells #[.int .u8 48, .int .u8 ((dp : Int) - 1 + 48)] TB)).row
  have hs : Src Tryz.prog 1 72 (.slice (some ⟨w5.heap.size, 0, none⟩) 2 2) 2 (bv [48, y]) (w5.alloc (.cells #[.int .u8 48, .int .u8 ((dp : Int) - 1 + 48)] TB)) := by
    have := (Bs.two w5 48 y).src
    rw [hy] at this
    exact this
  have HB : Hid (L5.length + [(48 : UInt8), y].length ≤ 140737488355328) := show L5.length + [(48 : UInt8), y].length ≤ 140737488355328 by simp; omega
  clear hy
  go_wp2_with (at_builtin; refine wp_app rfl (.tmp 155) (.tmp 159) 72 72 rfl underS _ L5 rfl hr _ [48, y] rfl hs HB.out ?_)
  intro v6 w6 g1 g2 g3 g4
  have HF6 : Hid (Fm w0 w6 v6 (L5 ++ [48, y]) b cap D) := (HF5.out.alloc _).app g1 g2 g3
  clear g1 g2 g3 g4 hr hs HB HF5
  go_wp2
  go_ret
  refine ⟨_, rfl, ?_⟩
  have e := HF6.out
  rw [HY.out, HL5.out.1, HL4.out.1, HL3.out.1, HL2.out.1, HL1.out.1] at e
  rw [HEE.out]
  exact e
end Go.Proofs.YtnljpbpphdhnpaaGreatDoor



/- The library's setDigits, of a number whose last digit is no nought. -/
namespace Go.Proofs.YtnljpbpphdhnpaaGreatDoor
open Go.RowKit Go.PlainAid Go.Sort

abbrev encB (b : UInt8) : Value := Value.int .u8 (b.toNat : Int)

theorem putRow_keep (w : World) (b off : Nat) (d : Array UInt8) (n : Nat) : Keep [b] w ((putRow encB w b off d).drewN n) := by
  refine ⟨rfl, rfl, rfl, ?_, fun k hk hn => ?_⟩
  · show w.heap.size ≤ (putRow encB w b off d).heap.size
    rw [size_putRow]; exact Nat.le_refl _
  · show (putRow encB w b off d).heap[k]? = w.heap[k]?
    have hne : ¬ b = k := by intro e; exact hn (by simp [e])
    simp [putRow, mapBlock, Array.getElem?_modify, hne]

set_option maxRecDepth 1000000 in
set_option maxHeartbeats 1000000 in
theorem setDigits_any (b nd u : Nat) (p : Int) (w : World) (hn1 : 1 ≤ nd) (hn2 : nd ≤ 32) (hu : u < 10 ^ nd) (hu64 : u < 18446744073709551616) (h10 : u % 10 ≠ 0) (hp1 : -1000 ≤ p) (hp2 : p ≤ 1000)
    (hZ : ∀ j, j < 32 → w.cell? ⟨b, j, none⟩ = some (.int .u8 0) ∧ w.frozen? ⟨b, j, none⟩ = false) :
    Calls Tryz.prog 139 #[.slice (some ⟨b, 0, none⟩) 32 32, .int .u64 (u : Nat), .int .i64 p, .int .i64 (nd : Nat)] w fun e w' =>
      e = .returned (.tuple #[.int .i64 ((nd : Int) + p), .int .i64 (nd : Nat)]) ∧ Keep [b] w w' ∧ (∀ j, j < nd → w'.cell? ⟨b, j, none⟩ = some (.int .u8 ((Lib.dg u (nd - 1 - j)).toNat : Int))) ∧ (∀ j, nd ≤ j → j < 32 → w'.cell? ⟨b, j, none⟩ = some (.int .u8 0)) := by
  have hH : Holds encB w b 0 (Array.replicate nd (0 : UInt8)) := fun j hj => by
    have hj' : j < nd := by simpa using hj
    rw [Nat.zero_add]
    obtain ⟨z1, z2⟩ := hZ j (by omega)
    refine ⟨?_, z2⟩
    rw [z1, getElem!_pos _ j (by simpa using hj)]
    simp
  have hC := Tryz.internal_strconv_formatBase10 b 0 32 u (Array.replicate nd (0 : UInt8)) w hH (by simpa using hu) hu64 (by simp; omega)
  rw [Array.size_replicate] at hC
  have HZ : Hid (∀ j, j < 32 → w.cell? ⟨b, j, none⟩ = some (.int .u8 0) ∧ w.frozen? ⟨b, j, none⟩ = false) := hZ
  have HH : Hid (Holds encB w b 0 (Array.replicate nd (0 : UInt8))) := hH
  clear hZ hH
  have hndi : (nd : Int) ≤ 32 := by omega
  go_enter Tryz.func139, Tryz.ntmps139
  go_wp2_with (first | (go_at_call 106; refine hC.mono ?_; rintro e9 w9 ⟨rfl, n9, v9, dk, hw9, hI⟩; have HW : Hid (w9 = (putRow encB w b 0 dk).drewN n9 ∧ Lib.FmtInv nd u 0 v9 dk) := ⟨hw9, hI⟩; clear hw9 hI))
  obtain ⟨hw9, hI⟩ := HW.out
  obtain ⟨m, rfl⟩ : ∃ m, nd = m + 1 := ⟨nd - 1, by omega⟩
  have hdone : ∀ j, j < m + 1 → w9.cell? ⟨b, j, none⟩ = some (.int .u8 ((Lib.dg u (m + 1 - 1 - j)).toNat : Int)) := by
    intro j hj
    have hsz : dk.size = (Array.replicate (m + 1) (0 : UInt8)).size := by rw [hI.size]; simp
    have := cell?_putRow encB w b 0 (Array.replicate (m + 1) (0 : UInt8)) dk HH.out hsz j (by rw [hI.size]; exact hj)
    rw [Nat.zero_add] at this
    rw [hw9]
    show (putRow encB w b 0 dk).cell? ⟨b, j, none⟩ = _
    rw [this, hI.done j (Nat.zero_le _) hj]
  have hrest : ∀ j, m + 1 ≤ j → j < 32 → w9.cell? ⟨b, j, none⟩ = some (.int .u8 0) := by
    intro j h1 h2
    rw [hw9]
    show (putRow encB w b 0 dk).cell? ⟨b, j, none⟩ = _
    rw [cell?_putRow_other encB w b 0 dk ⟨b, j, none⟩ (.inr (.inr (by rw [hI.size]; simpa using h1)))]
    exact (HZ.out j h2).1
  have HK : Hid (Keep [b] w w9) := by rw [hw9]; exact putRow_keep w b 0 dk n9
  have hlast := hdone m (by omega)
  have h48 : ((Lib.dg u (m + 1 - 1 - m)).toNat : Int) ≠ 48 := by
    rw [show m + 1 - 1 - m = 0 by omega]
    unfold Lib.dg
    rw [Nat.pow_zero, Nat.div_one, UInt8.toNat_ofNat']
    omega
  generalize ((Lib.dg u (m + 1 - 1 - m)).toNat : Int) = c at hlast h48
  have t1 : (c == 48) = false := by simpa using h48
  have HD : Hid ((∀ j, j < m + 1 → w9.cell? ⟨b, j, none⟩ = some (.int .u8 ((Lib.dg u (m + 1 - 1 - j)).toNat : Int))) ∧ ∀ j, m + 1 ≤ j → j < 32 → w9.cell? ⟨b, j, none⟩ = some (.int .u8 0)) := ⟨hdone, hrest⟩
  clear hdone hrest hw9 hI HW h48 HZ HH hC hu hu64 h10
  refine wp_loop_rounds 1 ?_
  rw [rounds_succ]
  go_wp2
  go_ret2
  exact ⟨by simp, HK.out, HD.out.1, HD.out.2⟩
end Go.Proofs.YtnljpbpphdhnpaaGreatDoor


