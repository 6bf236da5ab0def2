/- The graph whose arcs lead the other way: turned. -/
import Derived.Test.YtmlpkjeaieljfabEq
namespace Go.Proofs.Ytmlpkjeaieljfab
open Go.RowKit Go.PlainAid Go.Sort

def revA (a : Ar) : Ar := ⟨a.t, a.f, a.g⟩
def arc0 : Ar := ⟨0, 0, false⟩
theorem made_arcs (n : Nat) : (madeCells #[.int .i64 0, .int .i64 0, .bool false] (n * 3)).toList = (List.replicate n arc0).flatMap encA := by
  apply List.ext_getElem?
  intro j
  by_cases h : j < n * 3
  · have hd : j / 3 < (List.replicate n arc0).length := by rw [List.length_replicate]; omega
    have hg := flat_get encA_len (List.replicate n arc0) (j / 3) (j % 3) hd (Nat.mod_lt _ (by omega))
    rw [show j / 3 * 3 + j % 3 = j by omega] at hg
    rw [hg, List.getElem_replicate]
    have hm : j % 3 = 0 ∨ j % 3 = 1 ∨ j % 3 = 2 := by omega
    rcases hm with e | e | e <;> simp [madeCells, h, e, encA, arc0]
  · rw [List.getElem?_eq_none (by rw [Array.length_toList, size_madeCells]; omega), List.getElem?_eq_none (by rw [flat_len encA_len, List.length_replicate]; omega)]

theorem flat_set3 (l : List Ar) (i : Nat) (hi : i < l.length) (a : Ar) : (((l.flatMap encA).set (i * 3) (.int .i64 (a.f : Int))).set (i * 3 + 1) (.int .i64 (a.t : Int))).set (i * 3 + 2) (.bool a.g) = (l.set i a).flatMap encA := by
  have e1 : l = l.take i ++ l[i] :: l.drop (i + 1) := by rw [← List.drop_eq_getElem_cons hi, List.take_append_drop]
  have hlen : ((l.take i).flatMap encA).length = i * 3 := by rw [flat_len encA_len, List.length_take, Nat.min_eq_left (by omega)]
  have e2 : l.flatMap encA = (l.take i).flatMap encA ++ (.int .i64 (l[i].f : Int) :: .int .i64 (l[i].t : Int) :: .bool l[i].g :: (l.drop (i + 1)).flatMap encA) := by
    conv => lhs; rw [e1, List.flatMap_append, List.flatMap_cons]
    rfl
  have e3 : l.set i a = l.take i ++ a :: l.drop (i + 1) := by rw [List.set_eq_take_append_cons_drop, if_pos hi]
  rw [e3, e2, List.set_append_right _ _ (by omega), hlen, List.set_append_right _ _ (by omega), hlen, List.set_append_right _ _ (by omega), hlen]
  rw [show i * 3 - i * 3 = 0 by omega, show i * 3 + 1 - i * 3 = 1 by omega, show i * 3 + 2 - i * 3 = 2 by omega, List.flatMap_append, List.flatMap_cons]
  rfl

/-- an arc is written into a row of one's own -/
theorem Rw.put3 {w : World} {g n cap : Nat} {l : List Ar} (h : Rw 31 encA 3 w (.slice (some ⟨g, 0, none⟩) n cap) l) (hn : l.length = n) (i : Nat) (hi : i < n) (a : Ar) : Rw 31 encA 3 (((w.setCell ⟨g, i * 3, none⟩ (.int .i64 (a.f : Int))).setCell ⟨g, i * 3 + 1, none⟩ (.int .i64 (a.t : Int))).setCell ⟨g, i * 3 + 2, none⟩ (.bool a.g)) (.slice (some ⟨g, 0, none⟩) n cap) (l.set i a) := by
  unfold Rw at h ⊢
  rw [List.length_set, hn, ← flat_set3 l i (by omega) a]
  rw [hn] at h
  exact ((h.set (i * 3) _).set (i * 3 + 1) _).set (i * 3 + 2) _

/-- the arcs turned, behind i of them -/
structure Tn (w wr : World) (g : Nat) (va : Value) (A cur : List Ar) (i : Nat) : Prop where
  row : Rw 31 encA 3 wr (.slice (some ⟨g, 0, none⟩) A.length A.length) cur
  len : cur.length = A.length
  done : ∀ j, j < i → cur[j]? = (A[j]?).map revA
  arcs : Rd encA 3 wr va A
  off : Off va [g]
  keep : Keep [] w wr
  new : w.heap.size ≤ g

theorem Tn.next {w wr : World} {g : Nat} {va : Value} {A cur : List Ar} {i : Nat} (h : Tn w wr g va A cur i) (hi : i < A.length) (o : Obj) : Tn w (((((wr.setCell ⟨g, i * 3, none⟩ (.int .i64 (A[i].t : Int))).setCell ⟨g, i * 3 + 1, none⟩ (.int .i64 (A[i].f : Int))).setCell ⟨g, i * 3 + 2, none⟩ (.bool A[i].g))).alloc o) g va A (cur.set i (revA A[i])) (i + 1) := by
  have k3 : Keep [g] wr ((wr.setCell ⟨g, i * 3, none⟩ (.int .i64 (A[i].t : Int))).setCell ⟨g, i * 3 + 1, none⟩ (.int .i64 (A[i].f : Int)) |>.setCell ⟨g, i * 3 + 2, none⟩ (.bool A[i].g)) := ((Keep.set1 wr ⟨g, i * 3, none⟩ _).trans' (Keep.set1 _ ⟨g, i * 3 + 1, none⟩ _)).trans' (Keep.set1 _ ⟨g, i * 3 + 2, none⟩ _)
  have hl := h.len
  refine ⟨(h.row.put3 h.len i hi (revA A[i])).keep (Keep.alloc1 _ o) (Off.nil _), by rw [List.length_set]; exact h.len, fun j hj => ?_, (h.arcs.keep k3 h.off).keep (Keep.alloc1 _ o) (Off.nil _), h.off, (h.keep.more k3 (fun x hx => by simp at hx; subst hx; exact .inr h.new)).alloc o, h.new⟩
  by_cases hji : j = i
  · subst hji
    rw [List.getElem?_set_self (by omega), List.getElem?_eq_getElem hi]
    rfl
  · rw [List.getElem?_set_ne (by omega)]
    exact h.done j (by omega)

set_option maxRecDepth 1000000 in
set_option maxHeartbeats 4000000 in
theorem turned_own (va vf : Value) (n : Nat) (A : List Ar) (F : List Nat) (w : World) (hg : Gph w va vf n A F) (hva : ∀ x, va.ownBlock = some x → x < w.heap.size) :
    Calls Try.prog 65 #[.agg #[va, vf]] w fun e w' => ∃ va2 vf2, e = .returned (.agg #[va2, vf2]) ∧ GphR w w' va2 vf2 n (A.map revA) := by
  obtain ⟨a1, c1, rfl, hc1, hc2⟩ := hg.arcs.form
  obtain ⟨b2, o2, c2, rfl, -, -, -, -⟩ := hg.firstLen
  have hn := hg.big.2
  have hA := hg.big.1
  have HG : Hid (Gph w (.slice a1 A.length c1) (.slice (some ⟨b2, o2, none⟩) (n + 1) c2) n A F) := hg
  have HNo : Hid (∀ w', Keep [] w w' → Calls Try.prog 33 #[.agg #[.slice a1 A.length c1, .slice (some ⟨b2, o2, none⟩) (n + 1) c2]] w' fun e w2 => e = .returned (.int .i64 (n : Int)) ∧ w2 = w'.alloc (.cells #[.slice a1 A.length c1, .slice (some ⟨b2, o2, none⟩) (n + 1) c2] 45)) := fun w' k => nodes_any _ _ n A F _ (hg.keep k (Off.nil _) (Off.nil _))
  have HVA : Hid (∀ x, (Value.slice a1 A.length c1).ownBlock = some x → x < w.heap.size) := hva
  clear hva
  obtain ⟨i4, hi4, hz4, hs4, hy4⟩ := info_parts infoA
  have HB2 : Hid (i4.bytes * A.length ≤ 281474976710656) := show i4.bytes * A.length ≤ 281474976710656 by rw [hy4]; omega
  have HB3 : Hid (A.length ≤ maxLen) := show A.length ≤ maxLen by simp only [maxLen]; omega
  clear hg
  go_enter Try.func65, Try.ntmps65
  go_wp2_with (at_make; refine wpList_make_full _ rfl (.tmp 8) (.tmp 8) 22 rfl 0 31 i4 (.agg #[.int .i64 0, .int .i64 0, .bool false]) 3 Try.underlying22 hi4 hz4 hs4 .i64 .i64 _ _ A.length rfl rfl rfl rfl HB2.out HB3.out (Nat.zero_le _) ?_)
  intro w2 r1 r2
  obtain ⟨W0, HW0⟩ : ∃ W0 : World, Hid (W0 = (w.alloc (.cells #[.slice a1 A.length c1, .slice (some ⟨b2, o2, none⟩) (n + 1) c2] 45)).alloc (.cells #[.slice none 0 0, .slice none 0 0] 45)) := ⟨_, show _ = _ from rfl⟩
  obtain ⟨h0, HH0⟩ : ∃ h0 : Nat, Hid (h0 = w.heap.size) := ⟨_, show _ = _ from rfl⟩
  obtain ⟨hr, HHr⟩ : ∃ hr : Nat, Hid (hr = h0 + 1) := ⟨_, show _ = _ from rfl⟩
  obtain ⟨gA, HGA⟩ : ∃ gA : Nat, Hid (gA = hr + 1) := ⟨_, show _ = _ from rfl⟩
  have hsz : ((w.alloc (.cells #[.slice a1 A.length c1, .slice (some ⟨b2, o2, none⟩) (n + 1) c2] 45)).alloc (.cells #[.slice none 0 0, .slice none 0 0] 45)).heap.size = gA := by rw [HGA.out, HHr.out, HH0.out]; simp
  rw [← HH0.out, ← HHr.out, ← HGA.out] at r1 ⊢
  have HZ : Hid (W0.cell? ⟨h0, 0, none⟩ = some (.slice a1 A.length c1) ∧ W0.cell? ⟨h0, 1, none⟩ = some (.slice (some ⟨b2, o2, none⟩) (n + 1) c2) ∧ W0.heap[hr]? = some (.cells #[.slice none 0 0, .slice none 0 0] 45 (0, 0)) ∧ Keep [] w W0 ∧ W0.heap.size = gA) := by
    have hb := blk_next (o' := .cells #[.slice none 0 0, .slice none 0 0] 45) (heap_alloc_new w (.cells #[.slice a1 A.length c1, .slice (some ⟨b2, o2, none⟩) (n + 1) c2] 45))
    refine ⟨?_, ?_, ?_, ?_, ?_⟩
    · rw [HW0.out, HH0.out]; simp only [World.cell?, hb]; rfl
    · rw [HW0.out, HH0.out]; simp only [World.cell?, hb]; rfl
    · rw [HW0.out, HHr.out, HH0.out, show w.heap.size + 1 = (w.alloc (.cells #[.slice a1 A.length c1, .slice (some ⟨b2, o2, none⟩) (n + 1) c2] 45)).heap.size by simp]
      exact heap_alloc_new _ _
    · rw [HW0.out]; exact ((Keep.refl [] w).alloc _).alloc _
    · rw [HW0.out]; exact hsz
  have k2 : Keep [] W0 w2 := by rw [HW0.out]; exact Keep.mono (Keep.grown r2) (by simp)
  have HT : Hid (Tn W0 w2 gA (.slice a1 A.length c1) A (List.replicate A.length arc0) 0) := by
    rw [made_arcs] at r1
    refine ⟨?_, by simp, fun j hj => by omega, HG.out.arcs.keep (HZ.out.2.2.2.1.trans' k2) (Off.nil _), fun x hx hm => ?_, k2, by rw [HZ.out.2.2.2.2]; exact Nat.le_refl _⟩
    · unfold Rw
      rw [List.length_replicate]
      exact r1
    · simp at hm
      subst hm
      have hlt : ∀ x, (Value.slice a1 A.length c1).ownBlock = some x → x < w.heap.size := HVA.out
      have := hlt x hx
      have := HGA.out
      have := HHr.out
      have := HH0.out
      omega
  have d0 : w2.cell? ⟨h0, 0, none⟩ = some (.slice a1 A.length c1) := k2.cell' HZ.out.1 (by simp)
  clear r1 r2 HB2 HB3 hi4 hz4 hs4 hy4 hsz
  go_wp2
  go_loopw [13] (fun iv wr => ∃ (i : Nat) (cur : List Ar), iv = .int .i64 (i : Int) ∧ i ≤ A.length ∧ Hid (Tn W0 wr gA (.slice a1 A.length c1) A cur i)) (fun iv _ => A.length - (intOf iv).toNat)
  case atStart => exact ⟨0, _, rfl, Nat.zero_le _, HT⟩
  case round =>
    clear HT d0 k2
    obtain ⟨i, cur, rfl, hi, HT⟩ := hrel
    by_cases hlt : i < A.length
    · have hlti : (i : Int) < (A.length : Int) := by omega
      obtain ⟨b, o, c, he, hb, e0, e1, e2⟩ := HT.out.arcs.arcA i hlt
      simp at he
      obtain ⟨rfl, rfl⟩ := he
      have hgA : gA < wr.heap.size := by
        rcases HT.out.row.cases encA_len with ⟨_, h⟩ | ⟨g', cap', he, _, _, h, _⟩
        · simp at h
        · simp at he
          obtain ⟨rfl, _⟩ := he
          exact h
      obtain ⟨q0, q1, q2, fz⟩ : (∃ x, wr.cell? ⟨gA, i * 3, none⟩ = some x) ∧ (∃ x, wr.cell? ⟨gA, i * 3 + 1, none⟩ = some x) ∧ (∃ x, wr.cell? ⟨gA, i * 3 + 2, none⟩ = some x) ∧ ∀ j, wr.frozen? ⟨gA, j, none⟩ = false := by
        rcases HT.out.row.cases encA_len with ⟨_, h⟩ | ⟨g', cap', he, _, _, _, h, hf⟩
        · simp at h
        · simp at he
          obtain ⟨rfl, _⟩ := he
          have hl := HT.out.len
          exact ⟨⟨_, h i (by omega) 0 (by omega)⟩, ⟨_, h i (by omega) 1 (by omega)⟩, ⟨_, h i (by omega) 2 (by omega)⟩, hf⟩
      obtain ⟨y0, q0⟩ := q0
      obtain ⟨y1, q1⟩ := q1
      obtain ⟨y2, q2⟩ := q2
      have f0 := fz (i * 3)
      have f1 := fz (i * 3 + 1)
      have f2 := fz (i * 3 + 2)
      have HJ : Hid (∀ o', Tn W0 (((((wr.setCell ⟨gA, i * 3, none⟩ (.int .i64 (A[i].t : Int))).setCell ⟨gA, i * 3 + 1, none⟩ (.int .i64 (A[i].f : Int))).setCell ⟨gA, i * 3 + 2, none⟩ (.bool A[i].g))).alloc o') gA (.slice (some ⟨b, o, none⟩) A.length c1) A (cur.set i (revA A[i])) (i + 1)) := fun o' => HT.out.next hlt o'
      generalize (A[i].f : Int) = f at e0 HJ
      generalize (A[i].t : Int) = t at e1 HJ
      generalize A[i].g = g0 at e2 HJ
      clear HT fz
      go_wp2
      go_roundw
      case rel => exact ⟨i + 1, _, by go_num, by omega, HJ.out _⟩
      case measure => simp [intOf]; omega
    · have hlti : ¬ (i : Int) < (A.length : Int) := by omega
      obtain rfl : i = A.length := by omega
      have hT := HT.out
      have hz := HZ.out
      have hcur : cur = A.map revA := by
        apply List.ext_getElem?
        intro j
        rw [List.getElem?_map]
        by_cases hj : j < A.length
        · exact hT.done j hj
        · have := hT.len
          rw [List.getElem?_eq_none (by omega), List.getElem?_eq_none (by omega)]
          rfl
      have hrow := hT.row
      rw [hcur] at hrow
      have d0 : wr.cell? ⟨h0, 0, none⟩ = some (.slice a1 A.length c1) := hT.keep.cell' hz.1 (by simp)
      have d1 : wr.cell? ⟨h0, 1, none⟩ = some (.slice (some ⟨b2, o2, none⟩) (n + 1) c2) := hT.keep.cell' hz.2.1 (by simp)
      have kw : Keep [] w wr := hz.2.2.2.1.trans' hT.keep
      have HGo : Hid (∀ o, Calls Try.prog 18 #[.int .i64 (n : Int), .slice (some ⟨gA, 0, none⟩) A.length A.length] (wr.alloc o) fun e w' => ∃ va vf, e = .returned (.agg #[va, vf]) ∧ GphR (wr.alloc o) w' va vf n (A.map revA)) := fun o => by
        refine graphOf_any n _ (A.map revA) _ ((hrow.rd encA_len).keep (Keep.alloc1 wr o) (Off.nil _)) (by simpa using hA) hn (fun a ha => ?_)
        obtain ⟨a', ha', rfl⟩ := List.mem_map.1 ha
        have := HG.out.ok.node a' ha'
        exact ⟨this.2, this.1⟩
      have hbz : Hid (∀ w', Keep [] wr w' → Bz w' hr) := fun w' k => ⟨_, _, (k.block hr (by have := HT.out.keep.size; have := HGA.out; omega) (by simp)).trans ((hT.keep.block hr (by have := HGA.out; omega) (by simp)).trans hz.2.2.1)⟩
      have KW : Hid (Keep [] w wr ∧ gA ≤ wr.heap.size) := ⟨kw, by have := hT.keep.size; omega⟩
      clear hT HT hrow hcur hz kw
      go_wp2_with (first | (go_at_call 33; refine (HNo.out _ KW.out.1).mono ?_; rintro e w5 ⟨rfl, rfl⟩) | (go_at_call 18; refine (HGo.out _).mono ?_; rintro e w8 ⟨va8, vf8, rfl, gr8⟩; obtain ⟨A8, F8, p1, p2, p3, p4, p5⟩ := gr8; obtain ⟨a8, c8, rfl, -, -⟩ := p1.arcs.form; obtain ⟨b8, o8, q8, rfl, -, -, -, -⟩ := p1.firstLen; obtain ⟨⟨x0, z0⟩, ⟨x1, z1⟩, f0, f1⟩ := (hbz.out _ ((Keep.alloc1 wr _).trans' p5)).cells; have HP : Hid (GphR _ w8 _ _ n (A.map revA)) := ⟨A8, F8, p1, p2, p3, p4, p5⟩; clear p1 p2 p3 p4 p5))
      refine bodyPost_ret (v := .agg #[.slice a8 A8.length c8, .slice (some ⟨b8, o8, none⟩) (n + 1) q8]) (by simp [results, Try.results65, go_sem, z0, z1]) rfl ?_
      obtain ⟨A9, F9, p1, p2, p3, p4, p5⟩ := HP.out
      have kR : Keep [hr] w8 ((w8.setCell ⟨hr, 0, none⟩ (.slice a8 A8.length c8)).setCell ⟨hr, 1, none⟩ (.slice (some ⟨b8, o8, none⟩) (n + 1) q8)) := (Keep.set1 w8 ⟨hr, 0, none⟩ _).trans' (Keep.set1 _ ⟨hr, 1, none⟩ _)
      have hks := KW.out.1.size
      have hkg := KW.out.2
      have g1 := HGA.out
      have g2 := HHr.out
      have g3 := HH0.out
      have hsa : ∀ o, (wr.alloc o).heap.size = wr.heap.size + 1 := fun o => by simp
      refine ⟨_, _, rfl, A9, F9, p1.keep kR (fun x hx hm => ?_) (fun x hx hm => ?_), fun x hx => ?_, fun x hx => ?_, p4, ?_⟩
      · have := (p2 x hx).1; rw [hsa] at this; simp at hm; omega
      · have := (p3 x hx).1; rw [hsa] at this; simp at hm; omega
      · have := p2 x hx; rw [hsa] at this; have := kR.size; exact ⟨by omega, by omega⟩
      · have := p3 x hx; rw [hsa] at this; have := kR.size; exact ⟨by omega, by omega⟩
      · exact ((KW.out.1.alloc _).trans' p5).more kR (fun x hx => by simp at hx; subst hx; exact .inr (by omega))
end Go.Proofs.Ytmlpkjeaieljfab

