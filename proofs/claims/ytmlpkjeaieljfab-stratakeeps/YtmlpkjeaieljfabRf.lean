/- nodesWhere; the marks of reached. -/
import Derived.Test.YtmlpkjeaieljfabSr

namespace Go.Proofs.Ytmlpkjeaieljfab
open Go.RowKit Go.PlainAid Go.Sort

/-- a list of one's own, new since w -/
structure Nw (w wr : World) (v : Value) (l : List Nat) : Prop where
  row : Rw 3 encN 1 wr v l
  new : ∀ x, v.ownBlock = some x → w.heap.size ≤ x
  keep : Keep [] w wr
theorem Nw.fresh {w wr : World} {v : Value} {l : List Nat} (h : Nw w wr v l) : Fresh w wr v := fun x hx => ⟨h.new x hx, h.row.lt x hx⟩
theorem Nw.step {w wr wr' : World} {v : Value} {l : List Nat} (h : Nw w wr v l) (k : Keep [] wr wr') : Nw w wr' v l := ⟨h.row.keep k (Off.nil _), h.new, h.keep.trans' k⟩
theorem Nw.push {w wr wr' : World} {v v' : Value} {l : List Nat} {k : Nat} {o : Obj} (h : Nw w wr v l) (hr : RowC wr' 3 1 v' (l.length + 1) (l.flatMap encN ++ [.int .i64 (k : Int)])) (hk : Keep v.ownBlock.toList (wr.alloc o) wr') (hf : v'.ownBlock = v.ownBlock ∨ Fresh (wr.alloc o) wr' v') : Nw w wr' v' (l ++ [k]) := by
  refine ⟨?_, fun x hx => ?_, (h.keep.alloc o).more hk (fun x hx => .inr (h.new x (by simpa using hx)))⟩
  · unfold Rw
    rw [List.length_append, List.flatMap_append]
    exact hr
  · rcases hf with e | e
    · rw [e] at hx; exact h.new x hx
    · have := (e x hx).1
      have := h.keep.size
      simp at *
      omega

set_option maxRecDepth 1000000 in
set_option maxHeartbeats 1000000 in
theorem nodesWhere_any (n fp : Nat) (cb : Array Value) (p : Nat → Bool) (w : World) (hn : n ≤ 100000) (enters : ∀ args w, (callFunc fp args).run Try.prog w = .ok (.enter fp args) w) (hP : ∀ k w', k < n → Keep [] w w' → Calls Try.prog fp (#[.int .i64 (k : Int)] ++ cb) w' fun e w2 => e = .returned (.bool (p k)) ∧ w2 = w') :
    Calls Try.prog 25 #[.int .i64 (n : Int), .func (.func fp) #[] cb] w fun e w' => ∃ v, e = .returned v ∧ Nw w w' v ((List.range n).filter p) := by
  have HP : Hid (∀ k w', k < n → Keep [] w w' → Calls Try.prog fp (#[.int .i64 (k : Int)] ++ cb) w' fun e w2 => e = .returned (.bool (p k)) ∧ w2 = w') := hP
  clear hP
  go_enter Try.func25, Try.ntmps25
  go_wp2
  go_loopw [5, 8] (fun lv iv wr => ∃ i : Nat, iv = .int .i64 (i : Int) ∧ i ≤ n ∧ Hid (Nw w wr lv ((List.range i).filter p))) (fun _ iv _ => n - (intOf iv).toNat)
  case atStart => exact ⟨0, rfl, Nat.zero_le _, Rw.nil 3 encN 1 w, fun x hx => by simp [Value.ownBlock] at hx, Keep.refl _ _⟩
  case round =>
    obtain ⟨i, rfl, hi, HN⟩ := hrel
    by_cases hlt : i < n
    · have hlti : (i : Int) < (n : Int) := by omega
      have HC : Hid (∀ (_ : True), Calls Try.prog fp (#[.int .i64 (i : Int)] ++ cb) wr fun e w2 => e = .returned (.bool (p i)) ∧ w2 = wr) := fun _ => HP.out i wr hlt HN.out.keep
      have HL : Hid (((List.range i).filter p).length ≤ i) := by show _ ≤ _; have := List.length_filter_le p (List.range i); simpa using this
      have hsn : Hid ((List.range (i + 1)).filter p = (List.range i).filter p ++ if p i then [i] else []) := by
        show _ = _
        rw [List.range_succ, List.filter_append]
        cases hpi : p i <;> simp [hpi]
      generalize (List.range i).filter p = l at HN HL hsn
      go_wp2_with fail
      refine (HC.out trivial).mono ?_
      rintro e w1 ⟨rfl, hw⟩
      obtain rfl := hw.symm
      cases hpi : p i with
      | true =>
        have hal : Hid ((l.length + 1) * 8 ≤ 140737488355328 ∧ l.length + 1 ≤ maxLen) := by
          have := HL.out
          refine ⟨by omega, ?_⟩
          unfold maxLen; omega
        have HR : Hid (RowC (wr.alloc (.cells #[.int .i64 (i : Int)] 3 (0, 0))) 3 1 u5 l.length (l.flatMap encN)) := RowC.keep HN.out.row (Keep.alloc1 wr _) (Off.nil _)
        have HS : Hid _ := src_nat wr i
        rw [hpi, if_pos rfl] at hsn
        clear hpi HC HP
        go_wp2_with (at_builtin; refine wp_appC infoI rfl rfl (.tmp 14) (.tmp 16) 28 28 rfl Try.underlying28 _ l.length (l.flatMap encN) rfl HR.out _ 1 _ rfl HS.out hal.out.1 hal.out.2 ?_)
        intro v9 w9 R9 K9 F9 S9 _
        have H9 : Hid (Nw w w9 v9 (l ++ [i])) := HN.out.push R9 K9 F9
        clear R9 K9 F9 HR HS HN
        rw [← hsn.out] at H9
        go_wp2
        go_roundw
        case rel => exact ⟨i + 1, by go_num, by omega, H9⟩
        case measure => simp [intOf]; omega
      | false =>
        rw [hpi] at hsn
        have H9 : Hid (Nw w wr u5 l) := HN
        have hs2 : l = (List.range (i + 1)).filter p := by rw [hsn.out]; simp
        rw [hs2] at H9
        clear hpi HC HP HN hs2
        go_wp2
        go_roundw
        case rel => exact ⟨i + 1, by go_num, by omega, H9⟩
        case measure => simp [intOf]; omega
    · have hlti : ¬ (i : Int) < (n : Int) := by omega
      obtain rfl : i = n := by omega
      clear HP
      go_wp2
      go_ret
      exact ⟨_, rfl, HN.out⟩

/-- the memory of the marks -/
structure Met (bm gm n : Nat) (w : World) (m : List Bool) : Prop where
  box : w.cell? ⟨bm, 0, none⟩ = some (.slice (some ⟨gm, 0, none⟩) n n)
  arr : Arr 4 eB w gm n m
theorem Met.uniq {bm gm n : Nat} {w : World} {m m' : List Bool} (h : Met bm gm n w m) (h' : Met bm gm n w m') : m = m' := by
  have l1 := h.arr.len
  have l2 := h'.arr.len
  apply List.ext_getElem (by omega)
  intro j h1 h2
  have e1 := h.arr.cell false j (by omega)
  have e2 := h'.arr.cell false j (by omega)
  rw [e1] at e2
  rw [List.getD_eq_getElem?_getD, List.getD_eq_getElem?_getD, List.getElem?_eq_getElem h1, List.getElem?_eq_getElem h2] at e2
  simpa [eB] using e2

set_option maxRecDepth 1000000 in
theorem met_call (bm gm n k : Nat) (m : List Bool) (w : World) (h : Met bm gm n w m) (hk : k < n) (hbg : bm ≠ gm) :
    Calls Try.prog 41 #[.int .i64 (k : Int), .pointer (some ⟨bm, 0, none⟩)] w fun e w' => e = .returned (.bool (!m.getD k false)) ∧ (Met bm gm n w' (m.set k true) ∧ ∀ x ∈ [gm], IsC w x) ∧ Keep [gm] w w' := by
  have c0 := h.box
  have c1 := h.arr.cell false k hk
  have f1 := h.arr.free k
  have hn := h.arr.facts.1
  have HE : Hid ((Met bm gm n (w.setCell ⟨gm, k, none⟩ (.bool true)) (m.set k true) ∧ ∀ x ∈ [gm], IsC w x) ∧ Keep [gm] w (w.setCell ⟨gm, k, none⟩ (.bool true))) := by
    have hk1 : Keep [gm] w (w.setCell ⟨gm, k, none⟩ (.bool true)) := Keep.set1 w ⟨gm, k, none⟩ _
    exact ⟨⟨⟨hk1.cell' h.box (by simpa using hbg), h.arr.put k true⟩, fun x hx => by simp at hx; subst hx; exact h.arr.isC⟩, hk1⟩
  have hki : (k : Int) < (n : Int) := by omega
  clear h
  simp only [eB] at c1
  generalize m.getD k false = b at *
  go_enter Try.func41, Try.ntmps41
  go_wp2
  go_ret
  exact ⟨rfl, HE.out⟩

theorem met_ok (B bw bm gm n : Nat) (h1 : bm < B) (h2 : gm < B) (h3 : bm ≠ bw) (h4 : gm ≠ bw) (h5 : bm ≠ gm) : MeetOk B bw 41 n #[.pointer (some ⟨bm, 0, none⟩)] [gm] (Met bm gm n) where
  enters := enters_of Try.func41 (by kernel_rfl) rfl
  call w m k hT hk _ := met_call bm gm n k m w hT hk h5
  keep w w' m hT k := ⟨(k.cell h1 (by simpa using h3)).trans hT.box, k.arr hT.arr h2 (by simpa using h4)⟩
  len w m hT := hT.arr.len
end Go.Proofs.Ytmlpkjeaieljfab

/- What is reached: the graph's reached. -/
namespace Go.Proofs.Ytmlpkjeaieljfab
open Go.RowKit Go.PlainAid Go.Sort

theorem infoBool : (Try.prog.info? 4).map (fun i => (i.zero, i.size, i.bytes)) = some (some (.bool false), 1, 1) := by kernel_rfl

set_option maxRecDepth 1000000 in
theorem met2_any (bm gm n k : Nat) (m : List Bool) (w : World) (h : Met bm gm n w m) (hk : k < n) :
    Calls Try.prog 42 #[.int .i64 (k : Int), .pointer (some ⟨bm, 0, none⟩)] w fun e w' => e = .returned (.bool (m.getD k false)) ∧ w' = w := by
  have c0 := h.box
  have c1 := h.arr.cell false k hk
  have hn := h.arr.facts.1
  have hki : (k : Int) < (n : Int) := by omega
  clear h
  simp only [eB] at c1
  generalize m.getD k false = b at *
  go_enter Try.func42, Try.ntmps42
  go_wp2
  go_ret
  exact ⟨rfl, rfl⟩

/-- what has been reached behind i of those from which it goes -/
structure Rq (B bs bt bg bf bw bm gm : Nat) (va vf : Value) (n : Nat) (A : List Ar) (F : List Nat) (l : List Nat) (w4 wr : World) (m : List Bool) (i : Nat) : Prop where
  fx : Fx B bs bt bg bf bw 41 #[.pointer (some ⟨bm, 0, none⟩)] [gm] va vf n A F wr
  met : Met bm gm n wr m
  wt : Wt B wr bw []
  rch : ∀ x, Mk m x ↔ ∃ k ∈ l.take i, Rch (Ec A) k x
  kp : Kp B (bw :: [gm]) w4 wr

theorem Rq.next {B bs bt bg bf bw bm gm : Nat} {va vf : Value} {n : Nat} {A : List Ar} {F : List Nat} {l : List Nat} {w4 wr wr' : World} {m m' : List Bool} {i : Nat} (h : Rq B bs bt bg bf bw bm gm va vf n A F l w4 wr m i) (hi : i < l.length) (hm : Met bm gm n wr' m') (hw : Wt B wr' bw []) (hx : ∀ x, Mk m' x ↔ Mk m x ∨ RM (Ec A) (Mk m) l[i] x) (k : Kp B (bw :: [gm]) wr wr') : Rq B bs bt bg bf bw bm gm va vf n A F l w4 wr' m' (i + 1) := by
  refine ⟨h.fx.kp k, hm, hw, fun x => ?_, h.kp.trans k⟩
  rw [hx x, List.take_succ_eq_append_getElem hi]
  have hcl : ∀ x y, Mk m x → Ec A x y → Mk m y := fun x y h1 h2 => by
    rw [h.rch] at h1 ⊢
    obtain ⟨k, hk, hr⟩ := h1
    exact ⟨k, hk, hr.tail h2⟩
  constructor
  · rintro (h1 | h1)
    · obtain ⟨k, hk, hr⟩ := (h.rch x).1 h1
      exact ⟨k, List.mem_append_left _ hk, hr⟩
    · exact ⟨l[i], List.mem_append_right _ (List.mem_singleton.2 rfl), h1.rch⟩
  · rintro ⟨k, hk, hr⟩
    rw [List.mem_append, List.mem_singleton] at hk
    rcases hk with hk | rfl
    · exact .inl ((h.rch x).2 ⟨k, hk, hr⟩)
    · exact rm_of_rch hcl hr

set_option maxRecDepth 1000000 in
set_option maxHeartbeats 4000000 in
theorem reached_own (va vf : Value) (n : Nat) (A : List Ar) (F : List Nat) (v : Value) (l : List Nat) (w : World) (hg : Gph w va vf n A F) (hva : ∀ x, va.ownBlock = some x → x < w.heap.size) (hvf : ∀ x, vf.ownBlock = some x → x < w.heap.size) (hv : ∀ x, v.ownBlock = some x → x < w.heap.size) (hl : Rd encN 1 w v l) (hlt : ∀ k ∈ l, k < n) :
    Calls Try.prog 23 #[.agg #[va, vf], v] w fun e w' => ∃ v' m, e = .returned v' ∧ Nw w w' v' ((List.range n).filter fun k => m.getD k false) ∧ ∀ x, Mk m x ↔ ∃ k ∈ l, Rch (Ec A) k x := by
  have hmf : ∀ (fn : Fn) (first cap : Array Value) (w : World), (Instr.makeFunc fn first cap).run Try.prog w = .ok (.func fn first cap) w := fun _ _ _ _ => rfl
  obtain ⟨a1, c1, rfl, -, -⟩ := hg.arcs.form
  obtain ⟨b2, o2, c2, rfl, -, -, -, -⟩ := hg.firstLen
  obtain ⟨ao, cap, rfl, hcl, hcm⟩ := hl.form
  have hn := hg.big.2
  have HG : Hid (Gph w (.slice a1 A.length c1) (.slice (some ⟨b2, o2, none⟩) (n + 1) c2) n A F) := hg
  have HV : Hid ((∀ x, (Value.slice a1 A.length c1).ownBlock = some x → x < w.heap.size) ∧ (∀ x, (Value.slice (some ⟨b2, o2, none⟩) (n + 1) c2).ownBlock = some x → x < w.heap.size) ∧ (∀ x, (Value.slice ao l.length cap).ownBlock = some x → x < w.heap.size)) := ⟨hva, hvf, hv⟩
  have HL : Hid (Rd encN 1 w (.slice ao l.length cap) l ∧ ∀ k ∈ l, k < n) := ⟨hl, hlt⟩
  have HNo : Hid (∀ o, Calls Try.prog 33 #[.agg #[.slice a1 A.length c1, .slice (some ⟨b2, o2, none⟩) (n + 1) c2]] (w.alloc o) fun e w' => e = .returned (.int .i64 (n : Int)) ∧ w' = (w.alloc o).alloc (.cells #[.slice a1 A.length c1, .slice (some ⟨b2, o2, none⟩) (n + 1) c2] 45)) := fun o => nodes_any _ _ n A F _ (hg.keep (Keep.alloc1 w o) (Off.nil _) (Off.nil _))
  obtain ⟨i4, hi4, hz4, hs4, hy4⟩ := info_parts infoBool
  have HB2 : Hid (i4.bytes * n ≤ 281474976710656) := show i4.bytes * n ≤ 281474976710656 by rw [hy4]; omega
  have HB3 : Hid (n ≤ maxLen) := show n ≤ maxLen by simp only [maxLen]; omega
  clear hg hva hvf hv hl hlt
  go_enter Try.func23, Try.ntmps23
  go_wp2_with fail
  refine (HNo.out _).mono ?_
  rintro e w1 ⟨rfl, hw1⟩
  have HW1 : Hid (w1 = (w.alloc (.cells #[.slice a1 A.length c1, .slice (some ⟨b2, o2, none⟩) (n + 1) c2] 45)).alloc (.cells #[.slice a1 A.length c1, .slice (some ⟨b2, o2, none⟩) (n + 1) c2] 45)) := hw1
  clear hw1 HNo
  go_wp2_with (at_make; refine wpList_make_full _ rfl (.tmp 10) (.tmp 10) 62 rfl 0 4 i4 (.bool false) 1 Try.underlying62 hi4 hz4 hs4 .i64 .i64 _ _ n rfl rfl rfl rfl HB2.out HB3.out (Nat.zero_le _) ?_)
  intro w2 r1 r2
  have H2 : Hid (Arr 4 eB w2 w1.heap.size n (List.replicate n false) ∧ Keep [] w1 w2 ∧ w1.heap.size < w2.heap.size) := ⟨Arr.made (e := eB) (z := false) r1, Keep.mono (Keep.grown r2) (by simp), (Arr.made (e := eB) (z := false) r1).lt⟩
  clear r1 r2 HB2 HB3 hi4 hz4 hs4 hy4
  obtain ⟨h0, HH0⟩ : ∃ h0 : Nat, Hid (h0 = w.heap.size) := ⟨_, show _ = _ from rfl⟩
  obtain ⟨gm, HGM⟩ : ∃ gm : Nat, Hid (gm = w1.heap.size) := ⟨_, show _ = _ from rfl⟩
  obtain ⟨bm, HBM⟩ : ∃ bm : Nat, Hid (bm = w2.heap.size) := ⟨_, show _ = _ from rfl⟩
  have hh0 : w1.heap.size = h0 + 2 := by rw [HW1.out, HH0.out]; simp
  have hcel : w1.cell? ⟨h0, 0, none⟩ = some (.slice a1 A.length c1) ∧ w1.cell? ⟨h0, 1, none⟩ = some (.slice (some ⟨b2, o2, none⟩) (n + 1) c2) := by
    rw [HW1.out, HH0.out]
    have hb := blk_next (o' := .cells #[.slice a1 A.length c1, .slice (some ⟨b2, o2, none⟩) (n + 1) c2] 45) (heap_alloc_new w (.cells #[.slice a1 A.length c1, .slice (some ⟨b2, o2, none⟩) (n + 1) c2] 45))
    exact ⟨by simp only [World.cell?, hb]; rfl, by simp only [World.cell?, hb]; rfl⟩
  have d0 : w2.cell? ⟨h0, 0, none⟩ = some (.slice a1 A.length c1) := H2.out.2.1.cell' hcel.1 (by simp)
  have d1 : w2.cell? ⟨h0, 1, none⟩ = some (.slice (some ⟨b2, o2, none⟩) (n + 1) c2) := H2.out.2.1.cell' hcel.2 (by simp)
  have hlt0 : h0 < w2.heap.size := by have := H2.out.2.2; omega
  rw [← HGM.out] at H2 ⊢
  rw [← HH0.out]
  have k02 : Hid (Keep [] w w2) := by
    have k1 : Keep [] w w1 := by rw [HW1.out]; exact ((Keep.refl [] w).alloc _).alloc _
    exact k1.trans' H2.out.2.1
  obtain ⟨H, HH⟩ : ∃ H : Nat, Hid (H = bm + 1) := ⟨_, show _ = _ from rfl⟩
  have HSp : Hid (∀ o, Calls Try.prog 40 #[.agg #[.slice a1 A.length c1, .slice (some ⟨b2, o2, none⟩) (n + 1) c2], .func (.func 41) #[] #[.pointer (some ⟨bm, 0, none⟩)]] (w2.alloc o) fun e w' => e = .returned (.func (.func 54) #[] #[.pointer (some ⟨H + 3, 0, none⟩), .pointer (some ⟨H + 2, 0, none⟩), .pointer (some ⟨H, 0, none⟩), .pointer (some ⟨H + 4, 0, none⟩)]) ∧ Spr (w2.alloc o) w' 41 #[.pointer (some ⟨bm, 0, none⟩)] (.slice a1 A.length c1) (.slice (some ⟨b2, o2, none⟩) (n + 1) c2)) := fun o => by
    have h := spreader_any (.slice a1 A.length c1) (.slice (some ⟨b2, o2, none⟩) (n + 1) c2) 41 #[.pointer (some ⟨bm, 0, none⟩)] (w2.alloc o) ⟨_, _, _, rfl⟩ ⟨_, _, _, rfl⟩
    have e : (w2.alloc o).heap.size = H := by rw [HH.out, HBM.out]; simp
    rwa [e] at h
  clear hcel
  go_wp2_with fail
  rw [← HBM.out]
  refine (HSp.out _).mono ?_
  rintro e w4 ⟨rfl, sp⟩
  have HQ : Hid (Rq (H + 5) (H + 3) (H + 4) H (H + 1) (H + 2) bm gm (.slice a1 A.length c1) (.slice (some ⟨b2, o2, none⟩) (n + 1) c2) n A F l w4 w4 (List.replicate n false) 0) := by
    have e : ∀ o, (w2.alloc o).heap.size = H := fun o => by rw [HH.out, HBM.out]; simp
    have hbm : bm < H := by have := HH.out; omega
    have hgm : gm < bm := by rw [HBM.out]; exact H2.out.2.2
    have hw : w.heap.size ≤ gm := by rw [HGM.out, hh0, HH0.out]; omega
    have k4 := sp.keep
    have kk : Keep [] w w4 := (k02.out.alloc _).trans' k4
    have hcs := sp.cs
    have hct := sp.ct
    have hg0 := sp.cg0
    have hg1 := sp.cg1
    have hcf := sp.cf
    have hwt := sp.wt
    have hsz := sp.size
    rw [e] at hcs hct hg0 hg1 hcf hwt hsz
    refine ⟨⟨hcs, hct, hg0, hg1, hcf, HG.out.keep kk (Off.nil _) (Off.nil _), fun x hx => ?_, by omega, by omega, by simp; omega, fun x hx => by simp at hx; omega⟩, ⟨?_, ?_⟩, hwt, fun x => ?_, Kp.refl _ _ _⟩
    · rcases hx with rfl | rfl | rfl | rfl | hx | hx
      · simp; omega
      · simp; omega
      · simp; omega
      · simp; omega
      · have := HV.out.1 x hx
        simp; omega
      · have := HV.out.2.1 x hx
        simp; omega
    · refine k4.cell' ?_ (by simp)
      have := heap_alloc_new w2 (.cells #[.slice (some ⟨gm, 0, none⟩) n n] 62)
      rw [← HBM.out] at this
      simp only [World.cell?, this]
      rfl
    · exact (H2.out.1.keep (Keep.alloc1 w2 _) (by simp)).keep k4 (by simp)
    · unfold Mk
      rw [getD_replicate]
      simp
  have HZ : Hid (Keep [] w w4 ∧ w4.cell? ⟨h0, 0, none⟩ = some (.slice a1 A.length c1) ∧ w4.cell? ⟨h0, 1, none⟩ = some (.slice (some ⟨b2, o2, none⟩) (n + 1) c2) ∧ h0 < gm ∧ w.heap.size ≤ h0 ∧ gm < bm) := by
    have hgm : gm < bm := by rw [HBM.out]; exact H2.out.2.2
    have kk : Keep [] w2 w4 := (Keep.alloc1 w2 _).trans' sp.keep
    exact ⟨(k02.out.alloc _).trans' sp.keep, kk.cell' d0 (by simp), kk.cell' d1 (by simp), by rw [HGM.out, hh0]; omega, by rw [HH0.out]; exact Nat.le_refl _, hgm⟩
  clear sp d0 d1 HSp H2 k02 hlt0 HW1 hh0
  go_wp2
  go_loopw [17] (fun iv wr => ∃ (i : Nat) (m : List Bool), iv = .int .i64 (i : Int) ∧ i ≤ l.length ∧ Hid (Rq (H + 5) (H + 3) (H + 4) H (H + 1) (H + 2) bm gm (.slice a1 A.length c1) (.slice (some ⟨b2, o2, none⟩) (n + 1) c2) n A F l w4 wr m i)) (fun iv _ => l.length - (intOf iv).toNat)
  case atStart => exact ⟨0, _, rfl, Nat.zero_le _, HQ⟩
  case round =>
    clear HQ
    obtain ⟨i, m, rfl, hi, HQ⟩ := hrel
    have hHb := HH.out
    have hz := HZ.out
    obtain ⟨z1, z2, z3, z4, z5, z6⟩ := hz
    by_cases hlt : i < l.length
    · have hlti : (i : Int) < (l.length : Int) := by omega
      have hrd : Rd encN 1 wr (.slice ao l.length cap) l := HQ.out.kp.rd (HL.out.1.keep z1 (Off.nil _)) (fun x hx => by have := HV.out.2.2 x hx; simp; omega)
      obtain ⟨b, o, c, he, hb, hc⟩ := hrd.at i hlt
      simp at he
      obtain ⟨rfl, rfl⟩ := he
      have c0 : wr.cell? ⟨b, o + i, none⟩ = some (.int .i64 ((l[i] : Nat) : Int)) := by
        have := hc 0 (by omega)
        simpa [encN, eN] using this
      have hs : l[i] < n := HL.out.2 _ (List.getElem_mem hlt)
      have HSx : Hid (∀ (_ : True), Calls Try.prog 54 #[.int .i64 ((l[i] : Nat) : Int), .pointer (some ⟨H + 3, 0, none⟩), .pointer (some ⟨H + 2, 0, none⟩), .pointer (some ⟨H, 0, none⟩), .pointer (some ⟨H + 4, 0, none⟩)] wr fun e w' => e = .returned (.tuple #[]) ∧ ∃ m', (Met bm gm n w' m' ∧ Wt (H + 5) w' (H + 2) []) ∧ (∀ x, Mk m' x ↔ Mk m x ∨ RM (Ec A) (Mk m) l[i] x) ∧ Kp (H + 5) ((H + 2) :: [gm]) wr w') := fun _ => spread_any (met_ok (H + 5) (H + 2) bm gm n (by omega) (by omega) (by omega) (by omega) (by omega)) (fun _ _ _ h1 h2 => h1.uniq h2) l[i] m wr hs HQ.out.fx HQ.out.met HQ.out.wt
      have HJ : Hid (∀ w' m', Met bm gm n w' m' → Wt (H + 5) w' (H + 2) [] → (∀ x, Mk m' x ↔ Mk m x ∨ RM (Ec A) (Mk m) l[i] x) → Kp (H + 5) ((H + 2) :: [gm]) wr w' → Rq (H + 5) (H + 3) (H + 4) H (H + 1) (H + 2) bm gm (.slice a1 A.length c1) (.slice (some ⟨b2, o2, none⟩) (n + 1) c2) n A F l w4 w' m' (i + 1)) := fun w' m' h1 h2 h3 h4 => HQ.out.next hlt h1 h2 h3 h4
      generalize l[i] = sn at c0 HSx HJ hs
      clear HQ hc hrd z1 z2 z3 hHb
      go_wp2_with fail
      refine (HSx.out trivial).mono ?_
      rintro e w9 ⟨rfl, m9, ⟨t9, wt9⟩, x9, k9⟩
      have H9 : Hid _ := HJ.out _ _ t9 wt9 x9 k9
      clear HSx HJ t9 wt9 x9 k9
      go_wp2
      go_roundw
      case rel => exact ⟨i + 1, m9, by go_num, by omega, H9⟩
      case measure => simp [intOf]; omega
    · have hlti : ¬ (i : Int) < (l.length : Int) := by omega
      have hq := HQ.out
      have e0 : wr.cell? ⟨h0, 0, none⟩ = some (.slice a1 A.length c1) := (hq.kp.cell (by omega) (by simp; omega)).trans z2
      have e1 : wr.cell? ⟨h0, 1, none⟩ = some (.slice (some ⟨b2, o2, none⟩) (n + 1) c2) := (hq.kp.cell (by omega) (by simp; omega)).trans z3
      have kw : Keep [] w wr := Kp.keep z1 hq.kp (by omega) (by simp; omega)
      have HNo : Hid (∀ (_ : True), Calls Try.prog 33 #[.agg #[.slice a1 A.length c1, .slice (some ⟨b2, o2, none⟩) (n + 1) c2]] wr fun e w' => e = .returned (.int .i64 (n : Int)) ∧ w' = wr.alloc (.cells #[.slice a1 A.length c1, .slice (some ⟨b2, o2, none⟩) (n + 1) c2] 45)) := fun _ => nodes_any _ _ n A F _ hq.fx.gph
      have HNw : Hid (∀ o, Calls Try.prog 25 #[.int .i64 (n : Int), .func (.func 42) #[] #[.pointer (some ⟨bm, 0, none⟩)]] (wr.alloc o) fun e w' => ∃ v, e = .returned v ∧ Nw (wr.alloc o) w' v ((List.range n).filter fun k => m.getD k false)) := fun o => nodesWhere_any n 42 _ (fun k => m.getD k false) _ (by omega) (enters_of Try.func42 (by kernel_rfl) rfl) (fun k w' hk kk => by
        have hme : Met bm gm n w' m := by
          have k2 : Keep [] wr w' := (Keep.alloc1 wr o).trans' kk
          exact ⟨k2.cell' hq.met.box (by simp), hq.met.arr.keep k2 (by simp)⟩
        exact met2_any bm gm n k m w' hme hk)
      have HR : Hid (∀ x, Mk m x ↔ ∃ k ∈ l, Rch (Ec A) k x) := fun x => by
        have := hq.rch x
        rwa [List.take_of_length_le (by omega)] at this
      have KW : Hid (Keep [] w wr) := kw
      clear hq HQ z1 z2 z3 kw
      go_wp2_with (first | (go_at_call 33; refine (HNo.out trivial).mono ?_; rintro e w5 ⟨rfl, rfl⟩) | (go_at_call 25; refine (HNw.out _).mono ?_; rintro e w6 ⟨v6, rfl, n6⟩))
      go_ret
      refine ⟨v6, m, rfl, ⟨n6.row, fun x hx => ?_, (KW.out.alloc _).trans' n6.keep⟩, HR.out⟩
      have h1 := n6.new x hx
      have h2 := KW.out.size
      simp at h1
      omega
end Go.Proofs.Ytmlpkjeaieljfab

