/- TokensLimits, walked. -/
import Derived.Test.YtmglbcldjhdhkaaTkL1
namespace Go.Proofs.Ytmglbcldjhdhkaa
open Go.RowKit Go.PlainAid

theorem infoX {E : TypeId} {z : Value} {s b : Nat} (h : (Try.prog.info? E).map (fun i => (i.zero, i.size, i.bytes)) = some (some z, s, b)) : ∃ i, Try.prog.info? E = some i ∧ i.zero = some z ∧ i.size = s ∧ i.bytes = b := by
  obtain ⟨i, e, h2⟩ := Option.map_eq_some_iff.1 h
  simp only [Prod.mk.injEq] at h2
  exact ⟨i, e, h2.1, h2.2.1, h2.2.2⟩
theorem infoB5 : (Try.prog.info? 5).map (fun i => (i.zero, i.size, i.bytes)) = some (some (.int .u8 0), 1, 1) := by kernel_rfl

theorem ba_app' (x y : List UInt8) : ba x ++ ba y = ba (x ++ y) := ba_of (by
  rw [ByteArray.toList_eq]
  simp [ba])
theorem rowT_first {w : World} {a : Option Addr} {n c : Nat} {t : TokD} {l : List TokD} (h : RowT w (.slice a n c) (t :: l)) : ∃ g, a = some ⟨g, 0, none⟩ ∧ n ≤ c ∧ w.cell? ⟨g, 0, none⟩ = some (.int .i64 t.kind) ∧ w.cell? ⟨g, 1, none⟩ = some (.string (ba t.text)) ∧ w.cell? ⟨g, 2, none⟩ = some (.int .i64 t.line) ∧ w.cell? ⟨g, 3, none⟩ = some (.int .i64 t.col) := by
  rcases RowC.cases h with ⟨h0, _⟩ | ⟨g, cap, e, h1, _, _, hc, _⟩
  · simp at h0
  · simp only [Value.slice.injEq] at e
    obtain ⟨rfl, rfl, rfl⟩ := e
    have hl : 4 ≤ (t :: l).length * 4 := by simp; omega
    exact ⟨g, rfl, h1, hc 0 (by omega), hc 1 (by omega), hc 2 (by omega), hc 3 (by omega)⟩
theorem set3 {w : World} {b : Nat} {x y z x' y' z' : Value} {T : TypeId} (h : w.heap[b]? = some (.cells #[x, y, z] T (0, 0))) :
    (((w.setCell ⟨b, 0, none⟩ x').setCell ⟨b, 1, none⟩ y').setCell ⟨b, 2, none⟩ z').heap[b]? = some (.cells #[x', y', z'] T (0, 0)) ∧ Keep [b] w (((w.setCell ⟨b, 0, none⟩ x').setCell ⟨b, 1, none⟩ y').setCell ⟨b, 2, none⟩ z') := by
  refine ⟨?_, ((Keep.set1 w ⟨b, 0, none⟩ x').trans' (Keep.set1 _ ⟨b, 1, none⟩ y')).trans' (Keep.set1 _ ⟨b, 2, none⟩ z')⟩
  have h1 := heap_setCell_same w b 0 _ T x' h
  have h2 := heap_setCell_same _ b 1 _ T y' h1
  have h3 := heap_setCell_same _ b 2 _ T z' h2
  simpa using h3
/-- two spots of one's own -/
structure St (w W : World) (b4 b6 : Nat) (o4 o6 : Obj) : Prop where
  h4 : W.heap[b4]? = some o4
  h6 : W.heap[b6]? = some o6
  keep : Keep [] w W
  g4 : w.heap.size ≤ b4
  g6 : w.heap.size ≤ b6
  ne : b4 ≠ b6
theorem St.call {w W W' : World} {b4 b6 : Nat} {o4 o6 : Obj} (h : St w W b4 b6 o4 o6) (k : Keep [] W W') : St w W' b4 b6 o4 o6 :=
  ⟨(k.block _ (Array.getElem?_eq_some_iff.1 h.h4).1 (by simp)).trans h.h4, (k.block _ (Array.getElem?_eq_some_iff.1 h.h6).1 (by simp)).trans h.h6, h.keep.trans' k, h.g4, h.g6, h.ne⟩
theorem St.set4 {w W : World} {b4 b6 : Nat} {x y z : Value} {o6 : Obj} (h : St w W b4 b6 (.cells #[x, y, z] 25 (0, 0)) o6) (x' y' z' : Value) : St w (((W.setCell ⟨b4, 0, none⟩ x').setCell ⟨b4, 1, none⟩ y').setCell ⟨b4, 2, none⟩ z') b4 b6 (.cells #[x', y', z'] 25 (0, 0)) o6 := by
  obtain ⟨h1, h2⟩ := set3 (x' := x') (y' := y') (z' := z') h.h4
  exact ⟨h1, (h2.block _ (Array.getElem?_eq_some_iff.1 h.h6).1 (by simpa using h.ne.symm)).trans h.h6, h.keep.more h2 (by intro x hx; simp at hx; subst hx; exact .inr h.g4), h.g4, h.g6, h.ne⟩
theorem St.set6 {w W : World} {b4 b6 : Nat} {x y z : Value} {o4 : Obj} (h : St w W b4 b6 o4 (.cells #[x, y, z] 25 (0, 0))) (x' y' z' : Value) : St w (((W.setCell ⟨b6, 0, none⟩ x').setCell ⟨b6, 1, none⟩ y').setCell ⟨b6, 2, none⟩ z') b4 b6 o4 (.cells #[x', y', z'] 25 (0, 0)) := by
  obtain ⟨h1, h2⟩ := set3 (x' := x') (y' := y') (z' := z') h.h6
  exact ⟨(h2.block _ (Array.getElem?_eq_some_iff.1 h.h4).1 (by simpa using h.ne)).trans h.h4, h1, h.keep.more h2 (by intro x hx; simp at hx; subst hx; exact .inr h.g6), h.g4, h.g6, h.ne⟩
theorem toks_put (l : List TokD) (k : Nat) (t : TokD) (hk : k < l.length) : ((((toksC l).set (k * 4) (.int .i64 t.kind)).set (k * 4 + 1) (.string (ba t.text))).set (k * 4 + 2) (.int .i64 t.line)).set (k * 4 + 3) (.int .i64 t.col) = toksC (l.set k t) := by
  have e0 := toks_set l k 0 ⟨t.kind, l[k].text, l[k].line, l[k].col⟩ (.int .i64 t.kind) hk (by omega) (fun i hi => by
    have : i = 0 ∨ i = 1 ∨ i = 2 ∨ i = 3 := by omega
    rcases this with rfl | rfl | rfl | rfl <;> rfl)
  rw [Nat.add_zero] at e0
  rw [e0]
  have e1 := toks_set (l.set k ⟨t.kind, l[k].text, l[k].line, l[k].col⟩) k 1 ⟨t.kind, t.text, l[k].line, l[k].col⟩ (.string (ba t.text)) (by simpa using hk) (by omega) (fun i hi => by
    have : i = 0 ∨ i = 1 ∨ i = 2 ∨ i = 3 := by omega
    rw [List.getElem_set_self]
    rcases this with rfl | rfl | rfl | rfl <;> rfl)
  rw [e1, List.set_set]
  have e2 := toks_set (l.set k ⟨t.kind, t.text, l[k].line, l[k].col⟩) k 2 ⟨t.kind, t.text, t.line, l[k].col⟩ (.int .i64 t.line) (by simpa using hk) (by omega) (fun i hi => by
    have : i = 0 ∨ i = 1 ∨ i = 2 ∨ i = 3 := by omega
    rw [List.getElem_set_self]
    rcases this with rfl | rfl | rfl | rfl <;> rfl)
  rw [e2, List.set_set]
  have e3 := toks_set (l.set k ⟨t.kind, t.text, t.line, l[k].col⟩) k 3 t (.int .i64 t.col) (by simpa using hk) (by omega) (fun i hi => by
    have : i = 0 ∨ i = 1 ∨ i = 2 ∨ i = 3 := by omega
    rw [List.getElem_set_self]
    rcases this with rfl | rfl | rfl | rfl <;> rfl)
  rw [e3, List.set_set]
/-- the k-th token is written over -/
theorem rowT_put {w : World} {g cap n : Nat} {l : List TokD} (h : RowC w 37 4 (.slice (some ⟨g, 0, none⟩) n cap) n (toksC l)) (k : Nat) (t : TokD) (hk : k < l.length) :
    RowC ((((w.setCell ⟨g, k * 4, none⟩ (.int .i64 t.kind)).setCell ⟨g, k * 4 + 1, none⟩ (.string (ba t.text))).setCell ⟨g, k * 4 + 2, none⟩ (.int .i64 t.line)).setCell ⟨g, k * 4 + 3, none⟩ (.int .i64 t.col)) 37 4 (.slice (some ⟨g, 0, none⟩) n cap) n (toksC (l.set k t)) := by
  have h0 := (World.ownsRow.stored h (k * 4) (.int .i64 t.kind)).1
  have h1 := (World.ownsRow.stored h0 (k * 4 + 1) (.string (ba t.text))).1
  have h2 := (World.ownsRow.stored h1 (k * 4 + 2) (.int .i64 t.line)).1
  have h3 := (World.ownsRow.stored h2 (k * 4 + 3) (.int .i64 t.col)).1
  rwa [toks_put l k t hk] at h3
theorem rowT_cells {w : World} {g cap n : Nat} {l : List TokD} (h : RowC w 37 4 (.slice (some ⟨g, 0, none⟩) n cap) n (toksC l)) (k : Nat) (hk : k < l.length) (hn : n = l.length) :
    (w.cell? ⟨g, k * 4, none⟩ = some (.int .i64 l[k].kind) ∧ w.cell? ⟨g, k * 4 + 1, none⟩ = some (.string (ba l[k].text)) ∧ w.cell? ⟨g, k * 4 + 2, none⟩ = some (.int .i64 l[k].line) ∧ w.cell? ⟨g, k * 4 + 3, none⟩ = some (.int .i64 l[k].col)) ∧
    (∀ j, w.frozen? ⟨g, j, none⟩ = false) := by
  have hc := fun j (hj : j < 4) => (World.ownsRow.cellAt h (k * 4 + j) (by subst hn; omega)).trans (getD_cell l k j hk hj)
  exact ⟨⟨hc 0 (by omega), hc 1 (by omega), hc 2 (by omega), hc 3 (by omega)⟩, fun j => World.ownsRow.frozenAt h j⟩
theorem St.off {w W W' : World} {b4 b6 g : Nat} {o4 o6 : Obj} (h : St w W b4 b6 o4 o6) (k : Keep [g] W W') (h1 : g ≠ b4) (h2 : g ≠ b6) (h3 : w.heap.size ≤ g) : St w W' b4 b6 o4 o6 :=
  ⟨(k.block _ (Array.getElem?_eq_some_iff.1 h.h4).1 (by simpa using h1.symm)).trans h.h4, (k.block _ (Array.getElem?_eq_some_iff.1 h.h6).1 (by simpa using h2.symm)).trans h.h6, h.keep.more k (by intro x hx; simp at hx; subst hx; exact .inr h3), h.g4, h.g6, h.ne⟩
theorem St.lt {w W : World} {b4 b6 : Nat} {o4 o6 : Obj} (h : St w W b4 b6 o4 o6) : b4 < W.heap.size ∧ b6 < W.heap.size ∧ w.heap.size ≤ W.heap.size :=
  ⟨(Array.getElem?_eq_some_iff.1 h.h4).1, (Array.getElem?_eq_some_iff.1 h.h6).1, h.keep.size⟩
theorem keep4 (w : World) (g o : Nat) (a b c d : Value) : Keep [g] w ((((w.setCell ⟨g, o, none⟩ a).setCell ⟨g, o + 1, none⟩ b).setCell ⟨g, o + 2, none⟩ c).setCell ⟨g, o + 3, none⟩ d) :=
  (((Keep.set1 w ⟨g, o, none⟩ a).trans' (Keep.set1 _ ⟨g, o + 1, none⟩ b)).trans' (Keep.set1 _ ⟨g, o + 2, none⟩ c)).trans' (Keep.set1 _ ⟨g, o + 3, none⟩ d)
theorem txt_rep (n : Nat) : ∀ t ∈ List.replicate n tokA, t.text.length ≤ 140737488351232 := by
  intro t ht
  rw [(List.mem_replicate.1 ht).2]
  decide
/-- a row of tokens, read -/
theorem Ts4.ofC {w : World} {g n cap : Nat} {l : List TokD} (h : RowC w 37 4 (.slice (some ⟨g, 0, none⟩) n cap) n (toksC l)) (hn : n = l.length) (ht : ∀ t ∈ l, t.text.length ≤ 140737488351232) : Ts4 w (.slice (some ⟨g, 0, none⟩) n cap) l := by
  subst hn
  exact Ts4.ofRow h ht

set_option maxRecDepth 1000000 in
set_option maxHeartbeats 4000000 in
theorem limits_law (w : World) : Calls Try.prog 5 #[] w fun e w' => e = .returned (.bool true) ∧ Keep [] w w' := by
  obtain ⟨i5, e5, z5, s5, b5⟩ := infoX infoB5
  have hb5 : i5.bytes * 65536 ≤ 281474976710656 := by rw [b5]; omega
  have hm5 : 65536 ≤ maxLen := by unfold maxLen; omega
  go_enter Try.func5, Try.ntmps5
  go_wp2_with (refine wpList_make_full w rfl (.const (.int .i64 65536)) (.const (.int .i64 65536)) 35 rfl 0 5 i5 (.int .u8 0) 1 underS e5 z5 s5 .i64 .i64 65536 65536 65536 rfl rfl rfl rfl hb5 hm5 (Nat.zero_le _) ?_; intro w1 R1 G1)
  have K1 : Keep [] w w1 := Keep.grown G1
  rw [made_bytes] at R1
  have HR1 : Hid (Row w1 (.slice (some ⟨w.heap.size, 0, none⟩) 65536 65536) (fillR 0 32 65536 0)) := by
    have h0 : Row w1 (.slice (some ⟨w.heap.size, 0, none⟩) 65536 65536) (List.replicate 65536 0) := by
      unfold Row
      rw [List.length_replicate]
      exact R1
    rw [fillR_zero]
    exact h0
  have HK1 : Hid _ := K1
  clear R1 K1 G1 hb5 hm5 b5 s5 z5 e5
  go_loopw [2] (fun z wr => ∃ (k : Nat), z = .int .i64 (k : Int) ∧ k ≤ 65536 ∧ Hid (Row wr (.slice (some ⟨w.heap.size, 0, none⟩) 65536 65536) (fillR 0 32 65536 k) ∧ Keep [] w wr)) (fun z _ => 65536 - (intOf z).toNat)
  case atStart => exact ⟨0, rfl, Nat.zero_le _, HR1.out, HK1.out⟩
  case round =>
    clear HR1 HK1
    obtain ⟨k, rfl, hk, hI⟩ := hrel
    by_cases hlt : k < 65536
    · have hlti : (k : Int) < 65536 := by omega
      have hl := fillR_len (0 : UInt8) 32 65536 k (by omega)
      have hrow := hI.out.1
      have hr5 : wr.ownsRow 0 5 1 (.slice (some ⟨w.heap.size, 0, none⟩) 65536 65536) 65536 (bv (fillR (0 : UInt8) 32 65536 k)) := by
        have := hI.out.1
        unfold Row at this
        rw [hl] at this
        exact this
      have hlen : k < (bv (fillR (0 : UInt8) 32 65536 k)).length := by rw [bv_length, hl]; exact hlt
      have hc := World.ownsRow.cellAt hr5 k (by omega)
      have hf := World.ownsRow.frozenAt hr5 k
      rw [List.getElem?_eq_getElem hlen] at hc
      have hnx : Hid (Row (wr.setCell ⟨w.heap.size, k, none⟩ (.int .u8 32)) (.slice (some ⟨w.heap.size, 0, none⟩) 65536 65536) (fillR 0 32 65536 (k + 1)) ∧ Keep [] w (wr.setCell ⟨w.heap.size, k, none⟩ (.int .u8 32))) := by
        have hrow2 : Row wr (.slice (some ⟨w.heap.size, 0, none⟩) (fillR (0 : UInt8) 32 65536 k).length 65536) (fillR 0 32 65536 k) := by rw [hl]; exact hrow
        have := Row.set hrow2 k 32
        rw [fillR_next _ _ _ _ hlt, fillR_len _ _ _ _ (by omega)] at this
        exact ⟨this, hI.out.2.setCell (.inr (Nat.le_refl _)) _⟩
      generalize (bv (fillR (0 : UInt8) 32 65536 k))[k] = u at hc
      clear hrow hlen hl hI hr5
      go_wp2
      go_roundw
      case rel => exact ⟨k + 1, by go_num, by omega, hnx⟩
      case measure => simp [intOf]; omega
    · have hlti : ¬ (k : Int) < 65536 := by omega
      have hke : k = 65536 := by omega
      obtain ⟨L, hL⟩ : ∃ L : List UInt8, L = List.replicate 65536 32 := ⟨_, rfl⟩
      have hrow : Hid (Row wr (.slice (some ⟨w.heap.size, 0, none⟩) 65536 65536) L) := by
        have := hI.out.1
        rw [hke, fillR_full, ← hL] at this
        exact this
      have hLl : L.length = 65536 := by rw [hL]; exact List.length_replicate
      have hS1 : Hid (∀ w, Calls Try.prog 9 #[.string (ba L)] w fun e w' => ∃ a c, e = .returned (.tuple #[.slice a 1 c, .agg #[.int .i64 0, .int .i64 0, .int .i64 0]]) ∧ RowT w' (.slice a 1 c) [⟨7, [], 1, 65537⟩] ∧ Keep [] w w' ∧ ∀ x, (Value.slice a 1 c).ownBlock = some x → w.heap.size ≤ x) := fun w => scan_yes L [⟨7, [], 1, 65537⟩] (by rw [hL]; exact scan_blank 65536 (by omega)) (by omega) w
      have hS2 : Hid (∀ w, Calls Try.prog 9 #[.string (ba (L ++ [33]))] w fun e w' => ∃ a c, e = .returned (.tuple #[.slice a 0 c, .agg #[.int .i64 3, .int .i64 0, .int .i64 0]]) ∧ Keep [] w w') := fun w => scan_nay (L ++ [33]) 3 (0, 0) (scan_over _ (by rw [List.length_append, hLl]; simp)) (by rw [List.length_append, hLl]; simp) w
      have hcat : ba L ++ (⟨#[33]⟩ : ByteArray) = ba (L ++ [33]) := ba_app' L [33]
      have hLs : (ba L).size = 65536 := by rw [ba_size, hLl]
      have hstr : Hid (∀ w', Keep [] wr w' → (convert 35 9 (.slice (some ⟨w.heap.size, 0, none⟩) 65536 65536)).run Try.prog w' = .ok (.string (ba L)) w') := fun w' h => run_str (Bs.keep hrow.out.bs h (Off.nil _))
      have hS3 : Hid (∀ w, Calls Try.prog 9 #[.string (ba rowA)] w fun e w' => ∃ a c, e = .returned (.tuple #[.slice a 2 c, .agg #[.int .i64 0, .int .i64 0, .int .i64 0]]) ∧ RowT w' (.slice a 2 c) [⟨1, rowA, 1, 1⟩, ⟨7, [], 1, 33⟩] ∧ Keep [] w w' ∧ ∀ x, (Value.slice a 2 c).ownBlock = some x → w.heap.size ≤ x) := fun w => scan_yes rowA _ scan_rowA (by decide) w
      have hS4 : Hid (∀ w, Calls Try.prog 9 #[.string (ba rowB)] w fun e w' => ∃ a c, e = .returned (.tuple #[.slice a 0 c, .agg #[.int .i64 50, .int .i64 1, .int .i64 33]]) ∧ Keep [] w w') := fun w => scan_nay rowB 50 (1, 33) scan_rowB (by decide) w
      have hKw : Hid (Keep [] w wr) := hI.out.2
      have hst1 := hstr.out wr (Keep.refl _ _)
      clear hI hke hL hrow hLl
      go_wp2_with fail
      refine (hS1.out wr).mono ?_
      rintro e w2 ⟨a2, c2, rfl, R2, K2, -⟩
      have hR2 := RowC.keep R2 (Keep.alloc1 w2 (.cells #[.int .i64 0, .int .i64 0, .int .i64 0] 25 (0, 0))) (Off.nil _)
      have hB2 : (w2.alloc (.cells #[.int .i64 0, .int .i64 0, .int .i64 0] 25 (0, 0))).heap[w2.heap.size]? = some (.cells #[.int .i64 0, .int .i64 0, .int .i64 0] 25 (0, 0)) := heap_alloc_new w2 _
      have hKW2 : Hid (Keep [] wr (w2.alloc (.cells #[.int .i64 0, .int .i64 0, .int .i64 0] 25 (0, 0)))) := K2.alloc _
      have hst2 := hstr.out _ hKW2.out
      have hb4 : Hid (w.heap.size ≤ w2.heap.size) := (hKw.out.trans' K2).size
      have hw2s : Hid (w2.heap.size < (w2.alloc (.cells #[.int .i64 0, .int .i64 0, .int .i64 0] 25 (0, 0))).heap.size) := by show _ < _; simp
      obtain ⟨s0, s1, s2, -, -, -⟩ := box3 hB2
      obtain ⟨g2, rfl, hc2, -, -, -, m3⟩ := rowT_first hR2
      clear R2 K2 hR2 hst1
      go_wp2_with fail
      generalize w2.alloc (.cells #[.int .i64 0, .int .i64 0, .int .i64 0] 25 (0, 0)) = W2 at *
      generalize w2.heap.size = b4 at *
      refine (hS2.out W2).mono ?_
      rintro e w3 ⟨a3, c3, rfl, K3⟩
      have hSt : Hid (St w (w3.alloc (.cells #[.int .i64 3, .int .i64 0, .int .i64 0] 25 (0, 0))) b4 w3.heap.size (.cells #[.int .i64 0, .int .i64 0, .int .i64 0] 25 (0, 0)) (.cells #[.int .i64 3, .int .i64 0, .int .i64 0] 25 (0, 0))) := by
        have h4 := (K3.block b4 (Array.getElem?_eq_some_iff.1 hB2).1 (by simp)).trans hB2
        have hlt4 := (Array.getElem?_eq_some_iff.1 h4).1
        exact ⟨(Below.heap_alloc w3 _ _ hlt4).trans h4, heap_alloc_new w3 _, ((hKw.out.trans' hKW2.out).trans' K3).alloc _, hb4.out, ((hKw.out.trans' hKW2.out).trans' K3).size, by omega⟩
      clear K3 hB2 s0 s1 s2 m3 hst2 hKW2 hw2s hb4 hstr hS1 hS2 hcat hLs hKw
      obtain ⟨s0, s1, s2, -, -, -⟩ := box3 hSt.out.h6
      go_wp2_with fail
      clear s0 s1 s2
      generalize w3.alloc (.cells #[.int .i64 3, .int .i64 0, .int .i64 0] 25 (0, 0)) = W3 at *
      generalize w3.heap.size = b6 at *
      refine (hS3.out W3).mono ?_
      rintro e w4 ⟨a4, c4, rfl, R4, K4, F4⟩
      have hSt4 : Hid _ := hSt.out.call K4
      obtain ⟨s0, s1, s2, f0, f1, f2⟩ := box3 hSt4.out.h4
      have hA4 : Hid (∀ x, (Value.slice a4 2 c4).ownBlock = some x → x ≠ b4 ∧ x ≠ b6) := fun x hx => by
        have h1 := F4 x hx
        have h2 := hSt.out.lt
        omega
      have hR4 : Hid _ := R4
      clear R4 K4 F4 hSt hS3
      go_wp2_with fail
      have hSt5 : Hid _ := hSt4.out.set4 (.int .i64 0) (.int .i64 0) (.int .i64 0)
      have hR5 : Hid (RowT (((w4.setCell ⟨b4, 0, none⟩ (.int .i64 0)).setCell ⟨b4, 1, none⟩ (.int .i64 0)).setCell ⟨b4, 2, none⟩ (.int .i64 0)) (.slice a4 2 c4) [⟨1, rowA, 1, 1⟩, ⟨7, [], 1, 33⟩]) := RowC.keep hR4.out (set3 hSt4.out.h4).2 (fun x hx hm => by have := (hA4.out x hx).1; simp at hm; omega)
      clear hSt4 s0 s1 s2 f0 f1 f2 hR4
      generalize ((w4.setCell ⟨b4, 0, none⟩ (.int .i64 0)).setCell ⟨b4, 1, none⟩ (.int .i64 0)).setCell ⟨b4, 2, none⟩ (.int .i64 0) = W4 at *
      refine (hS4.out W4).mono ?_
      rintro e w5 ⟨a5, c5, rfl, K5⟩
      have hSt6 : Hid _ := hSt5.out.call K5
      have hSt7 : Hid _ := hSt6.out.set6 (.int .i64 50) (.int .i64 1) (.int .i64 33)
      have hR6 := RowC.keep (RowC.keep hR5.out K5 (Off.nil _)) (set3 (x' := .int .i64 50) (y' := .int .i64 1) (z' := .int .i64 33) hSt6.out.h6).2 (fun x hx hm => by have := (hA4.out x hx).2; simp at hm; omega)
      obtain ⟨s0, s1, s2, f0, f1, f2⟩ := box3 hSt6.out.h6
      obtain ⟨q0, q1, q2, -, -, -⟩ := box3 hSt7.out.h4
      obtain ⟨r0, r1, r2, -, -, -⟩ := box3 hSt7.out.h6
      obtain ⟨g4, rfl, hc4, m0, m1, -, -⟩ := rowT_first hR6
      have m1' : (((w5.setCell ⟨b6, 0, none⟩ (.int .i64 50)).setCell ⟨b6, 1, none⟩ (.int .i64 1)).setCell ⟨b6, 2, none⟩ (.int .i64 33)).cell? ⟨g4, 1, none⟩ = some (.string ⟨#[97, 98, 99, 100, 101, 102, 103, 104, 105, 106, 107, 108, 109, 110, 111, 112, 113, 114, 115, 116, 117, 118, 119, 120, 121, 122, 95, 48, 49, 50, 51, 52]⟩) := m1
      clear m1 hR6 hR5 hSt5 hSt6 K5 hS4
      obtain ⟨i7, e7, z7, s7, b7⟩ := infoX infoT
      have hb7 : i7.bytes * 32769 ≤ 281474976710656 := by rw [b7]; omega
      have hm7 : 32769 ≤ maxLen := by unfold maxLen; omega
      go_wp2_with (refine wpList_make_full _ rfl (.const (.int .i64 32769)) (.const (.int .i64 32769)) 22 rfl 0 37 i7 (.agg #[.int .i64 0, .string ByteArray.empty, .int .i64 0, .int .i64 0]) 4 Try.underlying22 e7 z7 s7 .i64 .i64 32769 32769 32769 rfl rfl rfl rfl hb7 hm7 (Nat.zero_le _) ?_; intro w6 R6 G6)
      clear s0 s1 s2 f0 f1 f2 q0 q1 q2 r0 r1 r2 m0 m1' e7 z7 s7 b7 hb7 hm7 hA4
      have hg7 : (((w5.setCell ⟨b6, 0, none⟩ (.int .i64 50)).setCell ⟨b6, 1, none⟩ (.int .i64 1)).setCell ⟨b6, 2, none⟩ (.int .i64 33)).heap.size = w5.heap.size := by simp [World.setCell]
      have hSt8 : Hid (St w w6 b4 b6 (.cells #[.int .i64 0, .int .i64 0, .int .i64 0] 25 (0, 0)) (.cells #[.int .i64 50, .int .i64 1, .int .i64 33] 25 (0, 0))) := hSt7.out.call (Keep.grown G6)
      have hgb : Hid (w5.heap.size ≠ b4 ∧ w5.heap.size ≠ b6 ∧ w.heap.size ≤ w5.heap.size) := by
        have := hSt7.out.lt
        rw [hg7] at this
        show _ ∧ _ ∧ _
        omega
      rw [made_toks, hg7] at R6
      have hR8 : Hid (RowC w6 37 4 (.slice (some ⟨w5.heap.size, 0, none⟩) 32769 32769) 32769 (toksC (fillR tok0 tokA 32769 0))) := by rw [fillR_zero]; exact R6
      clear R6 G6 hSt7 hg7 hk hlt hlti hc2 hc4
      generalize w5.heap.size = g at *
      go_loopw [8] (fun z wq => ∃ (k : Nat), z = .int .i64 (k : Int) ∧ k ≤ 32769 ∧ Hid (RowC wq 37 4 (.slice (some ⟨g, 0, none⟩) 32769 32769) 32769 (toksC (fillR tok0 tokA 32769 k)) ∧ St w wq b4 b6 (.cells #[.int .i64 0, .int .i64 0, .int .i64 0] 25 (0, 0)) (.cells #[.int .i64 50, .int .i64 1, .int .i64 33] 25 (0, 0)))) (fun z _ => 32769 - (intOf z).toNat)
      case atStart => exact ⟨0, rfl, Nat.zero_le _, hR8.out, hSt8.out⟩
      case round =>
        clear hR8 hSt8
        obtain ⟨j, rfl, hj, hI⟩ := hrel
        by_cases hjl : j < 32769
        · have hjli : (j : Int) < 32769 := by omega
          have hl := fillR_len tok0 tokA 32769 j (by omega)
          obtain ⟨⟨c0, c1, c2, c3⟩, hfz⟩ := rowT_cells hI.out.1 j (by omega) hl.symm
          have f0 := hfz (j * 4)
          have f1 := hfz (j * 4 + 1)
          have f2 := hfz (j * 4 + 2)
          have f3 := hfz (j * 4 + 3)
          have hnx : Hid (RowC ((((wr.setCell ⟨g, j * 4, none⟩ (.int .i64 1)).setCell ⟨g, j * 4 + 1, none⟩ (.string ⟨#[97]⟩)).setCell ⟨g, j * 4 + 2, none⟩ (.int .i64 0)).setCell ⟨g, j * 4 + 3, none⟩ (.int .i64 0)) 37 4 (.slice (some ⟨g, 0, none⟩) 32769 32769) 32769 (toksC (fillR tok0 tokA 32769 (j + 1))) ∧ St w ((((wr.setCell ⟨g, j * 4, none⟩ (.int .i64 1)).setCell ⟨g, j * 4 + 1, none⟩ (.string ⟨#[97]⟩)).setCell ⟨g, j * 4 + 2, none⟩ (.int .i64 0)).setCell ⟨g, j * 4 + 3, none⟩ (.int .i64 0)) b4 b6 (.cells #[.int .i64 0, .int .i64 0, .int .i64 0] 25 (0, 0)) (.cells #[.int .i64 50, .int .i64 1, .int .i64 33] 25 (0, 0))) := by
            have := rowT_put hI.out.1 j tokA (by omega)
            rw [fillR_next _ _ _ _ hjl] at this
            exact ⟨this, hI.out.2.off (keep4 wr g (j * 4) _ _ _ _) hgb.out.1 hgb.out.2.1 hgb.out.2.2⟩
          generalize (fillR tok0 tokA 32769 j)[j].kind = x0 at c0
          generalize (fillR tok0 tokA 32769 j)[j].text = x1 at c1
          generalize (fillR tok0 tokA 32769 j)[j].line = x2 at c2
          generalize (fillR tok0 tokA 32769 j)[j].col = x3 at c3
          clear hfz hl hI
          go_wp2
          go_roundw
          case rel => exact ⟨j + 1, by go_num, by omega, hnx⟩
          case measure => simp [intOf]; omega
        · have hjli : ¬ (j : Int) < 32769 := by omega
          have hje : j = 32769 := by omega
          obtain ⟨M1, hM1⟩ : ∃ M1, M1 = List.replicate 32768 tokA := ⟨_, rfl⟩
          obtain ⟨M2, hM2⟩ : ∃ M2, M2 = List.replicate 32767 tokA ++ [tokAB] := ⟨_, rfl⟩
          have hl1 : Hid (M1.length = 32768) := by show _ = _; rw [hM1]; exact List.length_replicate
          have hl2 : Hid (M2.length = 32768) := by show _ = _; rw [hM2, List.length_append, List.length_replicate]; rfl
          have ht1 : Hid (∀ t ∈ tokA :: M1, t.text.length ≤ 140737488351232) := by
            intro t ht
            rw [hM1, ← List.replicate_succ] at ht
            exact txt_rep _ t ht
          have ht2 : Hid (∀ t ∈ tokA :: M2, t.text.length ≤ 140737488351232) := by
            intro t ht
            rw [hM2] at ht
            rcases List.mem_cons.1 ht with rfl | ht
            · decide
            · rcases List.mem_append.1 ht with ht | ht
              · exact txt_rep _ t ht
              · rw [List.mem_singleton.1 ht]; decide
          have hall : Hid (∀ t ∈ M1, t = tokA) := fun t ht => by rw [hM1] at ht; exact (List.mem_replicate.1 ht).2
          have hset : Hid ((tokA :: M1).set 32768 tokAB = tokA :: M2) := by
            show _ = _
            rw [hM1, hM2, rep_snoc 32767, List.set_cons_succ, List.set_append_right _ _ (by rw [List.length_replicate]; exact Nat.le_refl _), List.length_replicate]
            rfl
          have hRM : Hid (RowC wr 37 4 (.slice (some ⟨g, 0, none⟩) 32769 32769) 32769 (toksC (tokA :: M1))) := by
            have := hI.out.1
            rw [hje, fillR_full, List.replicate_succ, ← hM1] at this
            exact this
          obtain ⟨J1, hp1, hJ1⟩ := print_a
          obtain ⟨J2, hp2, hJ2⟩ := print_c
          have hP1 : Hid (∀ w v, Ts4 w v M1 → Calls Try.prog 15 #[v] w fun e w' => e = .returned (.tuple #[.string (ba J1), .int .i64 0]) ∧ Keep [] w w') := fun w v h => by
            have := print_any v M1 w h
            rwa [hM1, hp1] at this
          have hP2 : Hid (∀ w v, Ts4 w v (tokA :: M1) → Calls Try.prog 15 #[v] w fun e w' => e = .returned (.tuple #[.string ⟨#[]⟩, .int .i64 3]) ∧ Keep [] w w') := fun w v h => by
            have := print_any v _ w h
            rwa [hM1, ← List.replicate_succ, print_b] at this
          have hP3 : Hid (∀ w v, Ts4 w v M2 → Calls Try.prog 15 #[v] w fun e w' => e = .returned (.tuple #[.string (ba J2), .int .i64 0]) ∧ Keep [] w w') := fun w v h => by
            have := print_any v M2 w h
            rwa [hM2, hp2] at this
          have hj1 : (ba J1).size = 65535 := by rw [ba_size, hJ1]
          have hj2 : (ba J2).size = 65536 := by rw [ba_size, hJ2]
          have hSt9 : Hid _ := hI.out.2
          clear hI hM1 hM2 hp1 hp2 hJ1 hJ2 hje
          go_wp2_with fail
          have hW : Ts4 wr (.slice (some ⟨g, 0, none⟩) 32769 32769) (tokA :: M1) := Ts4.ofC hRM.out (by rw [List.length_cons, hl1.out]) ht1.out
          refine (hP1.out wr _ (Ts4.tail (n := 32768) (cap := 32768) hW)).mono ?_
          rintro e w7 ⟨rfl, K7⟩
          have hR7 : Hid (RowC w7 37 4 (.slice (some ⟨g, 0, none⟩) 32769 32769) 32769 (toksC (tokA :: M1))) := RowC.keep hRM.out K7 (Off.nil _)
          have hSt10 : Hid _ := hSt9.out.call K7
          clear hW K7 hRM hSt9 hj hjl hjli hP1
          go_wp2_with fail
          refine (hP2.out w7 _ (Ts4.ofC hR7.out (by rw [List.length_cons, hl1.out]) ht1.out)).mono ?_
          rintro e w8 ⟨rfl, K8⟩
          have hR8 := RowC.keep hR7.out K8 (Off.nil _)
          have hSt11 : Hid _ := hSt10.out.call K8
          obtain ⟨⟨-, c1, -, -⟩, hfz⟩ := rowT_cells hR8 32768 (by rw [List.length_cons, hl1.out]; omega) (by rw [List.length_cons, hl1.out])
          have f1 := hfz (32768 * 4 + 1)
          have hgl : (tokA :: M1)[32768]'(by rw [List.length_cons, hl1.out]; omega) = tokA := by
            have h1 : M1[32767]'(by rw [hl1.out]; omega) = tokA := hall.out _ (List.getElem_mem _)
            rw [List.getElem_cons_succ]
            exact h1
          have hRS := RowT.set1 hR8 32768 1 tokAB (.string ⟨#[97, 98]⟩) (by rw [List.length_cons, hl1.out]; omega) (by omega) (fun i hi => by
            rw [hgl]
            have : i = 0 ∨ i = 1 ∨ i = 2 ∨ i = 3 := by omega
            rcases this with rfl | rfl | rfl | rfl <;> rfl)
          rw [hset.out] at hRS
          have hRS2 : Hid (RowC (w8.setCell ⟨g, 131073, none⟩ (.string ⟨#[97, 98]⟩)) 37 4 (.slice (some ⟨g, 0, none⟩) 32769 32769) 32769 (toksC (tokA :: M2))) := hRS
          have hSt12 : Hid (St w (w8.setCell ⟨g, 131073, none⟩ (.string ⟨#[97, 98]⟩)) b4 b6 _ _) := hSt11.out.off (Keep.set1 w8 ⟨g, 131073, none⟩ _) hgb.out.1 hgb.out.2.1 hgb.out.2.2
          rw [hgl] at c1
          have c1' : w8.cell? ⟨g, 131073, none⟩ = some (.string ⟨#[97]⟩) := c1
          have f1' : w8.frozen? ⟨g, 131073, none⟩ = false := f1
          clear c1 f1 hfz hR8 K8 hRS hR7 hSt10 hSt11 hgl hP2
          go_wp2_with fail
          clear c1' f1'
          generalize w8.setCell ⟨g, 131073, none⟩ (.string ⟨#[97, 98]⟩) = W8 at *
          refine (hP3.out W8 _ (Ts4.tail (n := 32768) (cap := 32768) (Ts4.ofC hRS2.out (by rw [List.length_cons, hl2.out]) ht2.out))).mono ?_
          rintro e w9 ⟨rfl, K9⟩
          have hSt13 : Hid _ := hSt12.out.call K9
          clear K9 hSt12 hRS2 hP3
          go_wp2_with fail
          refine (words_any w9).mono ?_
          rintro e w10 ⟨gw, rfl, hcw, K10, hg1, hg2⟩
          have hSt14 : Hid _ := hSt13.out.call K10
          have hgw : Hid (gw ≠ b4) := by show _ ≠ _; have := hSt13.out.lt; omega
          have hCW : Hid _ := hcw
          clear K10 hg1 hg2 hcw hSt13
          go_wp2
          go_loopw [16] (fun z wq => ∃ (k : Nat), z = .int .i64 (k : Int) ∧ k ≤ 13 ∧ Hid ((∃ x y z, St w wq b4 b6 (.cells #[x, y, z] 25 (0, 0)) (.cells #[.int .i64 50, .int .i64 1, .int .i64 33] 25 (0, 0))) ∧ ∀ k, k < 13 → wq.cell? ⟨gw, k, none⟩ = some (.string (ba (wordsL.getD k []))))) (fun z _ => 13 - (intOf z).toNat)
          case atStart => exact ⟨0, rfl, Nat.zero_le _, ⟨_, _, _, hSt14.out⟩, hCW.out⟩
          case round =>
            clear hSt14 hCW
            obtain ⟨m, rfl, hm, hI⟩ := hrel
            by_cases hml : m < 13
            · have hmli : (m : Int) < 13 := by omega
              have hcm := hI.out.2 m hml
              obtain ⟨ta, tb, hsc, hka⟩ := scan_words m hml
              have hwl : (wordsL.getD m []).length ≤ 65536 := by
                have h13 : m = 0 ∨ m = 1 ∨ m = 2 ∨ m = 3 ∨ m = 4 ∨ m = 5 ∨ m = 6 ∨ m = 7 ∨ m = 8 ∨ m = 9 ∨ m = 10 ∨ m = 11 ∨ m = 12 := by omega
                rcases h13 with rfl | rfl | rfl | rfl | rfl | rfl | rfl | rfl | rfl | rfl | rfl | rfl | rfl <;> decide
              have hSc : Hid (∀ w, Calls Try.prog 9 #[.string (ba (wordsL.getD m []))] w fun e w' => ∃ a c, e = .returned (.tuple #[.slice a 2 c, .agg #[.int .i64 0, .int .i64 0, .int .i64 0]]) ∧ RowT w' (.slice a 2 c) [ta, tb] ∧ Keep [] w w' ∧ ∀ x, (Value.slice a 2 c).ownBlock = some x → w.heap.size ≤ x) := fun w => scan_yes _ [ta, tb] hsc hwl w
              generalize wordsL.getD m [] = wd at hcm hSc hsc hwl
              have HI : Hid _ := hI.out
              clear hI hsc hwl
              obtain ⟨x, y, z, hst⟩ := HI.out.1
              have hSt : Hid _ := hst
              clear hst
              go_wp2_with fail
              refine (hSc.out wr).mono ?_
              rintro e w11 ⟨a11, c11, rfl, R11, K11, F11⟩
              have hSt15 : Hid _ := hSt.out.call K11
              have hSt16 : Hid _ := hSt15.out.set4 (.int .i64 0) (.int .i64 0) (.int .i64 0)
              have hR11 := RowC.keep R11 (set3 (x' := .int .i64 0) (y' := .int .i64 0) (z' := .int .i64 0) hSt15.out.h4).2 (fun x hx hm => by have := F11 x hx; have := hSt.out.lt; simp at hm; omega)
              obtain ⟨s0, s1, s2, f0, f1, f2⟩ := box3 hSt15.out.h4
              obtain ⟨q0, q1, q2, -, -, -⟩ := box3 hSt16.out.h4
              obtain ⟨g11, rfl, hc11, m0, -, -, -⟩ := rowT_first hR11
              rw [hka] at m0
              have hnx : Hid ((∃ x y z, St w (((w11.setCell ⟨b4, 0, none⟩ (.int .i64 0)).setCell ⟨b4, 1, none⟩ (.int .i64 0)).setCell ⟨b4, 2, none⟩ (.int .i64 0)) b4 b6 (.cells #[x, y, z] 25 (0, 0)) (.cells #[.int .i64 50, .int .i64 1, .int .i64 33] 25 (0, 0))) ∧ ∀ k, k < 13 → (((w11.setCell ⟨b4, 0, none⟩ (.int .i64 0)).setCell ⟨b4, 1, none⟩ (.int .i64 0)).setCell ⟨b4, 2, none⟩ (.int .i64 0)).cell? ⟨gw, k, none⟩ = some (.string (ba (wordsL.getD k [])))) :=
                ⟨⟨_, _, _, hSt16.out⟩, fun k hk => (set3 (x' := .int .i64 0) (y' := .int .i64 0) (z' := .int .i64 0) hSt15.out.h4).2.cell' (K11.cell' (HI.out.2 k hk) (by simp)) (by simpa using hgw.out)⟩
              clear hSt15 hSt16 R11 K11 F11 hR11 HI hSt hka
              go_wp2
              go_roundw
              case rel => exact ⟨m + 1, by go_num, by omega, hnx⟩
              case measure => simp [intOf]; omega
            · have hmli : ¬ (m : Int) < 13 := by omega
              obtain ⟨x, y, z, hst⟩ := hI.out.1
              have hKf : Hid (Keep [] w wr) := hst.keep
              clear hI hst
              go_wp2_with (go_at_call 12; refine (awake_any _).mono ?_; rintro e w12 ⟨rfl, K12⟩)
              go_ret
              exact ⟨rfl, hKf.out.trans' K12⟩
end Go.Proofs.Ytmglbcldjhdhkaa
