/- Levels. -/
import Derived.Test.YtmlpkjeaieljfabLo
import Derived.Test.YtmlpkjeaieljfabRt
namespace Go.Proofs.Ytmlpkjeaieljfab
open Go.RowKit Go.PlainAid Go.Sort Go.Shelf

/-- between two nodes -/
structure Lx (w5 : World) (gh n : Nat) (A : List Ar) (p : List Nat) (done : Ar → Prop) (H : List Nat) (wr : World) : Prop where
  keep : Keep [gh] w5 wr
  arr : Arr 3 eN wr gh n H
  ht : Ht A n (fun x => p.getD x 0) done H

structure Lz (w : World) (gp gh gl n : Nat) (p H l : List Nat) (i : Nat) (wr : World) : Prop where
  pp : Arr 3 eN wr gp n p
  hh : Arr 3 eN wr gh n H
  ll : Arr 3 eN wr gl n l
  dn : ∀ x, x < i → l.getD x 0 = H.getD (p.getD x 0) 0
  keep : Keep [] w wr
  ord : w.heap.size ≤ gl ∧ gp < gl ∧ gh < gl
theorem Lz.next {w : World} {gp gh gl n : Nat} {p H l : List Nat} {i : Nat} {wr : World} (h : Lz w gp gh gl n p H l i wr) (hi : i < n) {x : Nat} (hx : x = H.getD (p.getD i 0) 0) : Lz w gp gh gl n p H (l.set i x) (i + 1) (wr.setCell ⟨gl, i, none⟩ (.int .i64 (x : Int))) := by
  have o := h.ord
  have k : Keep [gl] wr (wr.setCell ⟨gl, i, none⟩ (.int .i64 (x : Int))) := Keep.set1 wr ⟨gl, i, none⟩ _
  have hl := h.ll.len
  refine ⟨h.pp.keep k (by simp; omega), h.hh.keep k (by simp; omega), h.ll.put i x, fun y hy => ?_, h.keep.more k (fun r hr => .inr (by simp at hr; omega)), o⟩
  rw [getD_set _ _ _ _ _ (by omega)]
  by_cases e : y = i
  · rw [if_pos e, e]; exact hx
  · rw [if_neg e]; exact h.dn y (by omega)

abbrev Gz (W w' : World) : Prop := (∀ b o, b < W.heap.size → w'.cell? ⟨b, o, none⟩ = W.cell? ⟨b, o, none⟩) ∧ (∀ b o, b < W.heap.size → w'.frozen? ⟨b, o, none⟩ = W.frozen? ⟨b, o, none⟩) ∧ Gw W w'
theorem gz_start {W : World} : Gz W W.drew := ⟨fun _ _ _ => rfl, fun _ _ _ => rfl, (Gw.refl _).drew⟩
theorem gz_next {W wi wj : World} (hb : Gw wi wj) (h : Gz W wi) : Gz W wj :=
  ⟨fun b o hl => (hb.keep.cell (p := ⟨b, o, none⟩) (Nat.lt_of_lt_of_le hl h.2.2.keep.size) (by simp)).trans (h.1 b o hl), fun b o hl => (hb.keep.frozen (p := ⟨b, o, none⟩) (Nat.lt_of_lt_of_le hl h.2.2.keep.size) (by simp)).trans (h.2.1 b o hl), h.2.2.trans hb⟩

set_option maxRecDepth 1000000 in
set_option maxHeartbeats 8000000 in
theorem levels_own : LevelsOk := by
  intro va vf n gp A F p w hg hva hvf hp hnum hpn hnb
  have hmf : ∀ (fn : Fn) (first cap : Array Value) (w : World), (Instr.makeFunc fn first cap).run Try.prog w = .ok (.func fn first cap) w := fun _ _ _ _ => rfl
  obtain ⟨a1, c1, rfl, -, -⟩ := hg.arcs.form
  obtain ⟨b2, o2, c2, rfl, -, -, -, -⟩ := hg.firstLen
  have hn := hg.big.2
  have hA := hg.big.1
  have HG : Hid (Gph w (.slice a1 A.length c1) (.slice (some ⟨b2, o2, none⟩) (n + 1) c2) n A F ∧ (∀ x, (Value.slice a1 A.length c1).ownBlock = some x → x < w.heap.size) ∧ (∀ x, (Value.slice (some ⟨b2, o2, none⟩) (n + 1) c2).ownBlock = some x → x < w.heap.size) ∧ Arr 3 eN w gp n p) := ⟨hg, hva, hvf, hp⟩
  have HM : Hid (Numbered (Ec A) n (fun x => p.getD x 0) ∧ (∀ x, x < n → p.getD x 0 < n) ∧ NoBad A (fun x => p.getD x 0)) := ⟨hnum, hpn, hnb⟩
  have HNo : Hid (∀ w', Keep [] w w' → Calls Try.prog 33 #[.agg #[.slice a1 A.length c1, .slice (some ⟨b2, o2, none⟩) (n + 1) c2]] w' fun e w2 => e = .returned (.int .i64 (n : Int)) ∧ w2 = w'.alloc (.cells #[.slice a1 A.length c1, .slice (some ⟨b2, o2, none⟩) (n + 1) c2] 45)) := fun w' k => nodes_any _ _ n A F _ (hg.keep k (Off.nil _) (Off.nil _))
  have HLv : Hid (∀ w' k, Keep [] w w' → k < n → Calls Try.prog 38 #[.agg #[.slice a1 A.length c1, .slice (some ⟨b2, o2, none⟩) (n + 1) c2], .int .i64 (k : Int)] w' fun e w2 => ∃ v', e = .returned v' ∧ Lv w2 (.slice a1 A.length c1) A F k v' ∧ Gw w' w2) := fun w' k kk hk => leaving_any _ _ n A F k w' (hg.keep kk (Off.nil _) (Off.nil _)) hk
  obtain ⟨i3, hi3, hz3, hs3, hy3⟩ := info_parts infoI
  have HB2 : Hid (i3.bytes * n ≤ 281474976710656) := show i3.bytes * n ≤ 281474976710656 by rw [hy3]; omega
  have HB3 : Hid (n ≤ maxLen) := show n ≤ maxLen by simp only [maxLen]; omega
  clear hg hva hvf hp hnum hpn hnb
  obtain ⟨h0, HH0⟩ : ∃ h0 : Nat, Hid (h0 = w.heap.size) := ⟨_, show _ = _ from rfl⟩
  obtain ⟨b3, HB⟩ : ∃ b3 : Nat, Hid (b3 = h0 + 1) := ⟨_, show _ = _ from rfl⟩
  go_enter Try.func21, Try.ntmps21
  go_wp2_with fail
  refine (HNo.out _ (((Keep.refl [] w).alloc _).alloc _)).mono ?_
  rintro e w1 ⟨rfl, hw1⟩
  rw [← HH0.out, ← HB.out]
  have hcel : w1.cell? ⟨h0, 0, none⟩ = some (.slice a1 A.length c1) ∧ w1.cell? ⟨h0, 1, none⟩ = some (.slice (some ⟨b2, o2, none⟩) (n + 1) c2) ∧ w1.cell? ⟨b3, 0, none⟩ = some (.slice (some ⟨gp, 0, none⟩) n n) ∧ w1.heap.size = b3 + 2 := by
    rw [hw1, HB.out, HH0.out]
    have hb := blk_next (o' := .cells #[.slice a1 A.length c1, .slice (some ⟨b2, o2, none⟩) (n + 1) c2] 45) (blk_next (o' := .cells #[.slice (some ⟨gp, 0, none⟩) n n] 28) (heap_alloc_new w (.cells #[.slice a1 A.length c1, .slice (some ⟨b2, o2, none⟩) (n + 1) c2] 45)))
    have hb2 := blk_next (o' := .cells #[.slice a1 A.length c1, .slice (some ⟨b2, o2, none⟩) (n + 1) c2] 45) (heap_alloc_new (w.alloc (.cells #[.slice a1 A.length c1, .slice (some ⟨b2, o2, none⟩) (n + 1) c2] 45)) (.cells #[.slice (some ⟨gp, 0, none⟩) n n] 28))
    rw [show (w.alloc (.cells #[.slice a1 A.length c1, .slice (some ⟨b2, o2, none⟩) (n + 1) c2] 45)).heap.size = w.heap.size + 1 by simp] at hb2
    exact ⟨by simp only [World.cell?, hb]; rfl, by simp only [World.cell?, hb]; rfl, by simp only [World.cell?, hb2]; rfl, by simp⟩
  have k1 : Keep [] w w1 := by rw [hw1]; exact (((Keep.refl [] w).alloc _).alloc _).alloc _
  have H1 : Hid (w1.cell? ⟨h0, 0, none⟩ = some (.slice a1 A.length c1) ∧ w1.cell? ⟨h0, 1, none⟩ = some (.slice (some ⟨b2, o2, none⟩) (n + 1) c2) ∧ w1.cell? ⟨b3, 0, none⟩ = some (.slice (some ⟨gp, 0, none⟩) n n) ∧ w1.heap.size = b3 + 2 ∧ Keep [] w w1) := ⟨hcel.1, hcel.2.1, hcel.2.2.1, hcel.2.2.2, k1⟩
  have HW : Hid (∀ (_ : True), Calls Try.prog 25 #[.int .i64 (n : Int), .func (.func 34) #[] #[]] w1 fun e w' => ∃ v, e = .returned v ∧ Nw w1 w' v (List.range n)) := fun _ => by
    have h := nodesWhere_any n 34 #[] (fun _ => true) w1 (by omega) (enters_of Try.func34 (by kernel_rfl) rfl) (fun k w' _ _ => all_any k w')
    rwa [show (List.range n).filter (fun _ => true) = List.range n from List.filter_eq_self.2 (by simp)] at h
  clear hw1 hcel k1
  go_wp2_with fail
  refine (HW.out trivial).mono ?_
  rintro e w2 ⟨v2, rfl, nw⟩
  have HSo : Hid (∀ (_ : True), Calls Try.prog 35 #[v2, .func (.func 36) #[] #[.pointer (some ⟨b3, 0, none⟩)]] w2 fun e w' => e = .returned (.tuple #[]) ∧ ∃ d, Rw 3 encN 1 w' v2 d ∧ (d.Perm (List.range n) ∧ d.Pairwise fun a b => p.getD a 0 ≤ p.getD b 0) ∧ Keep v2.ownBlock.toList w2 w') := fun _ => by
    have h1 := H1.out
    have hl := HG.out.2.2.2.lt
    have hb := HB.out
    have hh := HH0.out
    exact sort_both b3 gp n p v2 w2 (nw.keep.cell' h1.2.2.1 (by simp)) ((HG.out.2.2.2.keep h1.2.2.2.2 (by simp)).keep nw.keep (by simp)) nw.row hn (fun e => by have := nw.new _ e; omega) (fun e => by have := nw.new _ e; omega)
  have H2 : Hid (Nw w1 w2 v2 (List.range n)) := nw
  have hv2 : ∃ a c, v2 = .slice a n c := by
    obtain ⟨a, c, e, -, -⟩ := (nw.row.rd encN_len).form
    exact ⟨a, c, by rw [e, List.length_range]⟩
  obtain ⟨va2, vc2, rfl⟩ := hv2
  clear nw HW
  go_wp2_with fail
  refine (HSo.out trivial).mono ?_
  rintro e w3 ⟨rfl, d, q1, q2, q3⟩
  have d0 : w3.cell? ⟨h0, 0, none⟩ = some (.slice a1 A.length c1) ∧ w3.cell? ⟨h0, 1, none⟩ = some (.slice (some ⟨b2, o2, none⟩) (n + 1) c2) ∧ w3.cell? ⟨b3, 0, none⟩ = some (.slice (some ⟨gp, 0, none⟩) n n) := by
    have h1 := H1.out
    have hb := HB.out
    have hno : ∀ x, x < b3 + 2 → x ∉ (Value.slice va2 n vc2).ownBlock.toList := fun x hx hm => by
      have := H2.out.new x (by simpa using hm)
      omega
    exact ⟨q3.cell' (H2.out.keep.cell' h1.1 (by simp)) (hno _ (by simp; omega)), q3.cell' (H2.out.keep.cell' h1.2.1 (by simp)) (hno _ (by simp; omega)), q3.cell' (H2.out.keep.cell' h1.2.2.1 (by simp)) (hno _ (by simp))⟩
  obtain ⟨d0, d1, d2⟩ := d0
  have H3 : Hid (Rw 3 encN 1 w3 (.slice va2 n vc2) d ∧ (d.Perm (List.range n) ∧ d.Pairwise fun a b => p.getD a 0 ≤ p.getD b 0) ∧ Keep [] w w3) := by
    have h1 := H1.out
    refine ⟨q1, q2, (h1.2.2.2.2.trans' H2.out.keep).more q3 (fun x hx => .inr ?_)⟩
    have := H2.out.new x (by simpa using hx)
    have := h1.2.2.2.2.size
    omega
  have hl3 : h0 < w3.heap.size := World.block_lt_of_cell? _ _ d0
  have hl4 : b3 < w3.heap.size := World.block_lt_of_cell? _ _ d2
  clear q1 q2 q3 HSo
  go_wp2_with (first | (go_at_call 33; refine (HNo.out _ H3.out.2.2).mono ?_; rintro e w4 ⟨rfl, rfl⟩) | (at_make; refine wpList_make_full _ rfl (.tmp 22) (.tmp 22) 28 rfl 0 3 i3 (.int .i64 0) 1 Try.underlying28 hi3 hz3 hs3 .i64 .i64 _ _ n rfl rfl rfl rfl HB2.out HB3.out (Nat.zero_le _) ?_))
  intro w5 r1 r2
  obtain ⟨gh, HGH⟩ : ∃ gh : Nat, Hid (gh = w3.heap.size + 1) := ⟨_, show _ = _ from rfl⟩
  rw [← HGH.out] at r1 ⊢
  have H5 : Hid (Keep [] w3 w5 ∧ Lx w5 gh n A p (fun _ => False) (List.replicate n 0) w5 ∧ w.heap.size ≤ gh ∧ b3 < gh ∧ h0 < gh ∧ gp < gh ∧ (∀ x, (Value.slice va2 n vc2).ownBlock = some x → x < gh)) := by
    have hh := HGH.out
    have h1 := HH0.out
    have h2 := HB.out
    refine ⟨(Keep.alloc1 w3 _).trans' (Keep.mono (Keep.grown r2) (by simp)), ⟨Keep.refl _ _, Arr.made (e := eN) (z := 0) r1, Ht.start A n _⟩, by omega, by omega, by omega, by have := HG.out.2.2.2.lt; omega, fun x hx => by have := H3.out.1.lt x hx; omega⟩
  clear r1 r2
  go_wp2
  go_loopw [26] (fun iv wr => ∃ (i : Nat) (H : List Nat), iv = .int .i64 (i : Int) ∧ i ≤ n ∧ Hid (Lx w5 gh n A p (fun a => a.f ∈ d.take i) H wr)) (fun iv _ => n - (intOf iv).toNat)
  case atStart => exact ⟨0, _, rfl, Nat.zero_le _, H5.out.2.1.keep, H5.out.2.1.arr, H5.out.2.1.ht.mono (fun a _ h => by simp at h)⟩
  case round =>
    obtain ⟨i, H, rfl, hi, HX⟩ := hrel
    have HKw : Hid (∀ w' : World, Keep [gh] w5 w' → Keep [] w w' ∧ w'.cell? ⟨h0, 0, none⟩ = some (.slice a1 A.length c1) ∧ w'.cell? ⟨h0, 1, none⟩ = some (.slice (some ⟨b2, o2, none⟩) (n + 1) c2) ∧ w'.cell? ⟨b3, 0, none⟩ = some (.slice (some ⟨gp, 0, none⟩) n n) ∧ Arr 3 eN w' gp n p ∧ Rw 3 encN 1 w' (.slice va2 n vc2) d) := fun w' k => by
      have h5 := H5.out
      have k3 := H3.out.2.2.trans' h5.1
      exact ⟨k3.more k (fun x hx => .inr (by simp at hx; omega)), k.cell' (h5.1.cell' d0 (by simp)) (by simp; omega), k.cell' (h5.1.cell' d1 (by simp)) (by simp; omega), k.cell' (h5.1.cell' d2 (by simp)) (by simp; omega), (HG.out.2.2.2.keep k3 (by simp)).keep k (by simp; omega), (H3.out.1.keep h5.1 (Off.nil _)).keep k (fun x hx hm => by have := h5.2.2.2.2.2.2 x hx; simp at hm; omega)⟩
    have hdl : d.length = n := by rw [H3.out.2.1.1.length_eq, List.length_range]
    by_cases hlt : i < n
    · have hlti : (i : Int) < (n : Int) := by omega
      obtain ⟨k, hk⟩ : ∃ k : Nat, k = d[i]'(by omega) := ⟨_, rfl⟩
      have hkn : k < n := by
        have : k ∈ d := by rw [hk]; exact List.getElem_mem _
        have := H3.out.2.1.1.mem_iff.1 this
        simpa using this
      have hki : (k : Int) < (n : Int) := by omega
      obtain ⟨pk, hpk⟩ : ∃ pk : Nat, pk = p.getD k 0 := ⟨_, rfl⟩
      have hpkn : pk < n := by rw [hpk]; exact HM.out.2.1 k hkn
      obtain ⟨kw, x0, x1, x2, xp, xr⟩ := HKw.out wr HX.out.keep
      obtain ⟨lg, hla, cl⟩ : ∃ lg, va2 = some ⟨lg, 0, none⟩ ∧ wr.cell? ⟨lg, i, none⟩ = some (.int .i64 (k : Int)) := by
        rcases xr.cases encN_len with ⟨e1, _⟩ | ⟨g, cap, e1, _, _, _, h7, _⟩
        · rw [e1] at hdl; simp at hdl; omega
        · simp at e1
          refine ⟨g, e1.1, ?_⟩
          have := h7 i (by omega) 0 (by omega)
          rw [Nat.mul_one, Nat.add_zero] at this
          rw [this, hk]
          rfl
      have cp : wr.cell? ⟨gp, k, none⟩ = some (.int .i64 (pk : Int)) := by rw [hpk]; exact xp.cell 0 k hkn
      have HL : Hid (∀ (_ : True), Calls Try.prog 38 #[.agg #[.slice a1 A.length c1, .slice (some ⟨b2, o2, none⟩) (n + 1) c2], .int .i64 (k : Int)] wr fun e w2 => ∃ v', e = .returned v' ∧ Lv w2 (.slice a1 A.length c1) A F k v' ∧ Gw wr w2) := fun _ => HLv.out wr k kw hkn
      have HKD : Hid (∃ h : i < d.length, k = d[i]) := ⟨by omega, hk⟩
      have HPK : Hid (pk = p.getD k 0) := hpk
      subst hla
      clear xp xr kw hk hpk
      go_wp2_with fail
      refine (HL.out trivial).mono ?_
      rintro e w6 ⟨v6, rfl, lv6, g6⟩
      obtain ⟨L, HLL⟩ : ∃ L, Hid (L = outL A F k) := ⟨_, show _ = _ from rfl⟩
      have hL2 : L.length ≤ 262144 := by
        rw [HLL.out]
        have := outL_len HG.out.1.ok k hkn
        have := HG.out.1.ok.le (k + 1) hkn
        omega
      obtain ⟨a6, c6, rfl, -, hc6⟩ := lv6.rd.form
      rw [← HLL.out] at lv6 ⊢
      have HX6 : Hid (Lx w5 gh n A p (fun a => a.f ∈ d.take i ∨ a ∈ L.take 0) H w6 ∧ Rd encA 3 w6 (.slice a6 L.length c6) L ∧ ∀ x, (Value.slice a6 L.length c6).ownBlock = some x → x < gh) := by
        have h5 := H5.out
        refine ⟨⟨HX.out.keep.more g6.keep (by simp), HX.out.arr.keep g6.keep (by simp), HX.out.ht.mono (fun a _ h => by simpa using h)⟩, ?_, fun x hx => ?_⟩
        · have := lv6.rd
          rwa [← HLL.out] at this
        · have := HG.out.2.1 x (lv6.own x hx)
          omega
      clear HX lv6 g6 HL x0 x1 x2 cl cp
      go_wp2
      go_loopw [38] (fun jv wr => ∃ (j : Nat) (H : List Nat), jv = .int .i64 (j : Int) ∧ j ≤ L.length ∧ Hid (Lx w5 gh n A p (fun a => a.f ∈ d.take i ∨ a ∈ L.take j) H wr ∧ Rd encA 3 wr (.slice a6 L.length c6) L)) (fun jv _ => L.length - (intOf jv).toNat)
      case atStart => exact ⟨0, H, rfl, Nat.zero_le _, HX6.out.1, HX6.out.2.1⟩
      case round =>
        obtain ⟨j, H, rfl, hj, HY⟩ := hrel
        by_cases hjl : j < L.length
        · have hjli : (j : Int) < (L.length : Int) := by omega
          obtain ⟨b, o, c, he, hb, e0, e1, e2⟩ := HY.out.2.arcA j hjl
          simp at he
          obtain ⟨rfl, rfl⟩ := he
          have haA : L[j] ∈ A ∧ L[j].f = k := by
            have h1 : L[j] ∈ outL A F k := by rw [← HLL.out]; exact List.getElem_mem hjl
            exact (HG.out.1.ok.out k hkn L[j]).1 h1
          have htn := (HG.out.1.ok.node _ haA.1).2
          obtain ⟨kw, x0, x1, x2, xp, xr⟩ := HKw.out wr HY.out.1.keep
          obtain ⟨t, ht⟩ : ∃ t : Nat, t = L[j].t := ⟨_, rfl⟩
          rw [← ht] at e1 htn
          obtain ⟨pt, hpt⟩ : ∃ pt : Nat, pt = p.getD t 0 := ⟨_, rfl⟩
          have hptn : pt < n := by rw [hpt]; exact HM.out.2.1 t htn
          have hti : (t : Int) < (n : Int) := by omega
          have hpti : (pt : Int) < (n : Int) := by omega
          have hpki : (pk : Int) < (n : Int) := by omega
          have cpt : wr.cell? ⟨gp, t, none⟩ = some (.int .i64 (pt : Int)) := by rw [hpt]; exact xp.cell 0 t htn
          obtain ⟨u, hu⟩ : ∃ u : Nat, u = H.getD pk 0 := ⟨_, rfl⟩
          obtain ⟨v, hv⟩ : ∃ v : Nat, v = H.getD pt 0 := ⟨_, rfl⟩
          have cu : wr.cell? ⟨gh, pk, none⟩ = some (.int .i64 (u : Int)) := by rw [hu]; exact HY.out.1.arr.cell 0 pk hpkn
          have cv : wr.cell? ⟨gh, pt, none⟩ = some (.int .i64 (v : Int)) := by rw [hv]; exact HY.out.1.arr.cell 0 pt hptn
          have fu : wr.frozen? ⟨gh, pk, none⟩ = false := HY.out.1.arr.free pk
          have hgl : gh < wr.heap.size := HY.out.1.arr.lt
          have hpl : gp < wr.heap.size := xp.lt
          have hbl : b3 < wr.heap.size := World.block_lt_of_cell? _ _ x2
          have hvb : v ≤ 4096 ∧ u ≤ 4096 := by
            have h1 := HY.out.1.ht.bound HM.out.1 HM.out.2.2 t htn
            have h2 := HY.out.1.ht.bound HM.out.1 HM.out.2.2 k hkn
            simp only [← hpt, ← HPK.out, ← hu, ← hv] at h1 h2
            omega
          have HN : Hid (∀ f t g w, Calls Try.prog 39 #[.agg #[.int .i64 f, .int .i64 t, .bool g]] w fun e w' => e = .returned (.int .i64 (ng g)) ∧ Gw w w') := fun f t g w => (negWeight_any f t g w).mono fun e w' ⟨h1, h2⟩ => ⟨h1, by rw [h2]; exact (Gw.refl w).alloc _⟩
          obtain ⟨gg, hgg⟩ : ∃ gg : Bool, gg = L[j].g := ⟨_, rfl⟩
          rw [← hgg] at e2
          have HJ : Hid (∀ w', Keep [] wr w' → Lx w5 gh n A p (fun a => a.f ∈ d.take i ∨ a ∈ L.take (j + 1)) (H.set pk (max u (v + ngN gg))) (w'.setCell ⟨gh, pk, none⟩ (.int .i64 ((max u (v + ngN gg) : Nat) : Int)))) := fun w' kk => by
            obtain ⟨hki2, hke⟩ := HKD.out
            have hst := HY.out.1.ht.step HM.out.1 HM.out.2.1 HG.out.1.ok.node haA.1 (fun b hbA hb2 => by
              show p.getD b.f 0 ≤ p.getD L[j].f 0
              rw [haA.2]
              rcases hb2 with h2 | h2
              · obtain ⟨q, hq, he⟩ := List.mem_iff_getElem.1 h2
                rw [List.length_take] at hq
                rw [List.getElem_take] at he
                have := List.pairwise_iff_getElem.1 H3.out.2.1.2 q i (by omega) hki2 (by omega)
                rw [he, ← hke] at this
                exact this
              · have h3 : b ∈ outL A F k := by rw [← HLL.out]; exact List.mem_of_mem_take h2
                rw [((HG.out.1.ok.out k hkn b).1 h3).2]
                exact Nat.le_refl _)
            have e1 : p.getD L[j].f 0 = pk := by rw [haA.2, HPK.out]
            have e2 : p.getD L[j].t 0 = pt := by rw [hpt, ht]
            simp only [e1, e2] at hst
            rw [← hu, ← hv, ← hgg] at hst
            refine ⟨(HY.out.1.keep.more kk (by simp)).more (Keep.set1 w' ⟨gh, pk, none⟩ _) (by simp), (HY.out.1.arr.keep kk (by simp)).put pk (max u (v + ngN gg)), hst.mono (fun a _ h => ?_)⟩
            rw [List.take_succ_eq_append_getElem hjl] at h
            rcases h with h | h
            · exact .inl (.inl h)
            · rcases List.mem_append.1 h with h | h
              · exact .inl (.inr h)
              · exact .inr (by simpa using h)
          generalize (L[j].f : Int) = f at e0
          have HRd : Hid (∀ w', Keep [gh] wr w' → Rd encA 3 w' (.slice (some ⟨b, o, none⟩) L.length c6) L) := fun w' kk => HY.out.2.keep kk (fun x hx hm => by
            have := HX6.out.2.2 x hx
            simp at hm
            omega)
          have HZ : Hid (∀ z : Int, (z = ((max u (v + ngN gg) : Nat) : Int)) → ∀ w', Keep [] wr w' → Lx w5 gh n A p (fun a => a.f ∈ d.take i ∨ a ∈ L.take (j + 1)) (H.set pk (max u (v + ngN gg))) (w'.setCell ⟨gh, pk, none⟩ (.int .i64 z))) := fun z hz w' kk => by rw [hz]; exact HJ.out w' kk
          clear xp xr kw ht hpt hu hv hgg haA HJ
          have HN2 : Hid (∀ w, Calls Try.prog 39 #[.agg #[.int .i64 f, .int .i64 (t : Int), .bool gg]] w fun e w' => e = .returned (.int .i64 (ng gg)) ∧ w' = w.alloc (.cells #[.int .i64 f, .int .i64 (t : Int), .bool gg] 31)) := fun w => negWeight_any f (t : Int) gg w
          have HNG : Hid (ng gg = ((ngN gg : Nat) : Int) ∧ (ngN gg = 0 ∨ ngN gg = 1)) := by cases gg <;> exact ⟨rfl, by simp [ngN]⟩
          obtain ⟨q, HQ⟩ : ∃ q : Nat, Hid (q = ngN gg) := ⟨_, show _ = _ from rfl⟩
          have hq1 : q = 0 ∨ q = 1 := by rw [HQ.out]; exact HNG.out.2
          rw [HNG.out.1, ← HQ.out] at HN2
          rw [← HQ.out] at HZ
          clear HNG HQ
          have hw : IntKind.i64.wrap ((v : Int) + (q : Int)) = (v : Int) + (q : Int) := wrap_ok _ (by omega) (by omega)
          have hw8 : ∀ (f : Int) (t : Int) (g : Bool), (wr.alloc (.cells #[.int .i64 f, .int .i64 t, .bool g] 31)).cell? ⟨wr.heap.size, 0, none⟩ = some (.int .i64 f) ∧ (wr.alloc (.cells #[.int .i64 f, .int .i64 t, .bool g] 31)).cell? ⟨wr.heap.size, 1, none⟩ = some (.int .i64 t) ∧ (wr.alloc (.cells #[.int .i64 f, .int .i64 t, .bool g] 31)).cell? ⟨wr.heap.size, 2, none⟩ = some (.bool g) := fun f t g => by
            have hb := heap_alloc_new wr (.cells #[.int .i64 f, .int .i64 t, .bool g] 31)
            exact ⟨by simp only [World.cell?, hb]; rfl, by simp only [World.cell?, hb]; rfl, by simp only [World.cell?, hb]; rfl⟩
          obtain ⟨z0, z1, z2⟩ := hw8 f (t : Int) gg
          clear hw8
          have HK8 : Hid (Keep [] wr (wr.alloc (.cells #[.int .i64 f, .int .i64 (t : Int), .bool gg] 31))) := Keep.alloc1 wr _
          have HS8 : Hid (∀ w', Keep [] (wr.alloc (.cells #[.int .i64 f, .int .i64 (t : Int), .bool gg] 31)) w' → (fun w' : World => w'.cell? ⟨b3, 0, none⟩ = some (.slice (some ⟨gp, 0, none⟩) n n) ∧ w'.cell? ⟨gp, t, none⟩ = some (.int .i64 (pt : Int)) ∧ w'.cell? ⟨gh, pk, none⟩ = some (.int .i64 (u : Int)) ∧ w'.cell? ⟨gh, pt, none⟩ = some (.int .i64 (v : Int)) ∧ w'.cell? ⟨wr.heap.size, 0, none⟩ = some (.int .i64 f) ∧ w'.cell? ⟨wr.heap.size, 1, none⟩ = some (.int .i64 (t : Int)) ∧ w'.cell? ⟨wr.heap.size, 2, none⟩ = some (.bool gg) ∧ w'.frozen? ⟨gh, pk, none⟩ = false ∧ Hid (Keep [] wr w')) w') := fun w' k => by
            have k2 := HK8.out.trans' k
            exact ⟨k2.cell' x2 (by simp), k2.cell' cpt (by simp), k2.cell' cu (by simp), k2.cell' cv (by simp), k.cell' z0 (by simp), k.cell' z1 (by simp), k.cell' z2 (by simp), (k2.frozen (p := ⟨gh, pk, none⟩) hgl (by simp)).trans fu, k2⟩
          go_wp2
          clear HK8 z0 z1 z2 x0 x1 x2 cpt cu cv fu e0 e1 e2 hb
          generalize wr.alloc (.cells #[.int .i64 f, .int .i64 (t : Int), .bool gg] 31) = w8 at HS8 ⊢
          obtain ⟨bz, HBZ⟩ : ∃ bz : Nat, Hid (bz = wr.heap.size) := ⟨_, show _ = _ from rfl⟩
          rw [← HBZ.out] at HS8 ⊢
          by_cases hmx : (u : Int) ≤ (v : Int) + (q : Int)
          · refine wp_region_tail 19 (S := fun w' : World => w'.cell? ⟨b3, 0, none⟩ = some (.slice (some ⟨gp, 0, none⟩) n n) ∧ w'.cell? ⟨gp, t, none⟩ = some (.int .i64 (pt : Int)) ∧ w'.cell? ⟨gh, pk, none⟩ = some (.int .i64 (u : Int)) ∧ w'.cell? ⟨gh, pt, none⟩ = some (.int .i64 (v : Int)) ∧ w'.cell? ⟨bz, 0, none⟩ = some (.int .i64 f) ∧ w'.cell? ⟨bz, 1, none⟩ = some (.int .i64 (t : Int)) ∧ w'.cell? ⟨bz, 2, none⟩ = some (.bool gg) ∧ w'.frozen? ⟨gh, pk, none⟩ = false ∧ Hid (Keep [] wr w')) (by kernel_rfl) (HS8.out _ ((Keep.refl [] w8).drew)) (fun hHeld => ?_)
            try dsimp only at hHeld
            refine AnyT.take (i := 0) (oi := { dst := some 42, op := Go.Op.move (Go.Operand.tmp 6), type := 28, pos := "parts.go:121", after := #[], guard := none }) (v := ?_) rfl (by kernel_rfl) (by kernel_rfl) (by kernel_rfl) (by kernel_rfl) (fun _ _ _ h => h) (Or.inl ⟨by rfl, ?_⟩) (by assumption) ?_
            rotate_left
            · intro w7 hSw
              try dsimp only at hSw
              first | (go_simp; done) | (go_simp; with_reducible rfl)
            try simp only [Act.put, List.setIfInBounds_toArray, List.set_cons_zero, List.set_cons_succ]
            refine AnyT.take (i := 1) (oi := { dst := some 43, op := Go.Op.move (Go.Operand.tmp 9), type := 3, pos := "parts.go:121", after := #[], guard := none }) (v := ?_) rfl (by kernel_rfl) (by kernel_rfl) (by kernel_rfl) (by kernel_rfl) (fun _ _ _ h => h) (Or.inl ⟨by rfl, ?_⟩) (by assumption) ?_
            rotate_left
            · intro w7 hSw
              try dsimp only at hSw
              first | (go_simp; done) | (go_simp; with_reducible rfl)
            try simp only [Act.put, List.setIfInBounds_toArray, List.set_cons_zero, List.set_cons_succ]
            refine AnyT.take (i := 2) (oi := { dst := some 44, op := Go.Op.move (Go.Operand.tmp 6), type := 28, pos := "parts.go:121", after := #[], guard := none }) (v := ?_) rfl (by kernel_rfl) (by kernel_rfl) (by kernel_rfl) (by kernel_rfl) (fun _ _ _ h => h) (Or.inl ⟨by rfl, ?_⟩) (by assumption) ?_
            rotate_left
            · intro w7 hSw
              try dsimp only at hSw
              first | (go_simp; done) | (go_simp; with_reducible rfl)
            try simp only [Act.put, List.setIfInBounds_toArray, List.set_cons_zero, List.set_cons_succ]
            refine AnyT.take (i := 3) (oi := { dst := some 45, op := Go.Op.move (Go.Operand.tmp 9), type := 3, pos := "parts.go:121", after := #[], guard := none }) (v := ?_) rfl (by kernel_rfl) (by kernel_rfl) (by kernel_rfl) (by kernel_rfl) (fun _ _ _ h => h) (Or.inl ⟨by rfl, ?_⟩) (by assumption) ?_
            rotate_left
            · intro w7 hSw
              try dsimp only at hSw
              first | (go_simp; done) | (go_simp; with_reducible rfl)
            try simp only [Act.put, List.setIfInBounds_toArray, List.set_cons_zero, List.set_cons_succ]
            refine AnyT.take (i := 4) (oi := { dst := some 46, op := Go.Op.indexAddr 28 (Go.Operand.tmp 44) (Go.Operand.tmp 45), type := 0, pos := "parts.go:121", after := #[{ on := 2, ground := Go.Ground.data }, { on := 3, ground := Go.Ground.data }], guard := none }) (v := ?_) rfl (by kernel_rfl) (by kernel_rfl) (by kernel_rfl) (by kernel_rfl) (fun _ _ _ h => h) (Or.inl ⟨by rfl, ?_⟩) (by assumption) ?_
            rotate_left
            · intro w7 hSw
              try dsimp only at hSw
              first | (go_simp; done) | (go_simp; with_reducible rfl)
            try simp only [Act.put, List.setIfInBounds_toArray, List.set_cons_zero, List.set_cons_succ]
            refine AnyT.take (i := 5) (oi := { dst := some 47, op := Go.Op.load 3 (Go.Operand.tmp 46), type := 3, pos := "parts.go:121", after := #[{ on := 4, ground := Go.Ground.data }], guard := none }) (v := ?_) rfl (by kernel_rfl) (by kernel_rfl) (by kernel_rfl) (by kernel_rfl) (fun _ _ _ h => h) (Or.inl ⟨by rfl, ?_⟩) (by assumption) ?_
            rotate_left
            · intro w7 hSw
              try dsimp only at hSw
              first | (go_simp; done) | (go_simp; with_reducible rfl)
            try simp only [Act.put, List.setIfInBounds_toArray, List.set_cons_zero, List.set_cons_succ]
            refine AnyT.take (i := 6) (oi := { dst := some 48, op := Go.Op.move (Go.Operand.tmp 6), type := 28, pos := "parts.go:121", after := #[], guard := none }) (v := ?_) rfl (by kernel_rfl) (by kernel_rfl) (by kernel_rfl) (by kernel_rfl) (fun _ _ _ h => h) (Or.inl ⟨by rfl, ?_⟩) (by assumption) ?_
            rotate_left
            · intro w7 hSw
              try dsimp only at hSw
              first | (go_simp; done) | (go_simp; with_reducible rfl)
            try simp only [Act.put, List.setIfInBounds_toArray, List.set_cons_zero, List.set_cons_succ]
            refine AnyT.take (i := 7) (oi := { dst := some 49, op := Go.Op.load 28 (Go.Operand.tmp 3), type := 28, pos := "parts.go:121", after := #[], guard := none }) (v := ?_) rfl (by kernel_rfl) (by kernel_rfl) (by kernel_rfl) (by kernel_rfl) (fun _ _ _ h => h) (Or.inl ⟨by rfl, ?_⟩) (by assumption) ?_
            rotate_left
            · intro w7 hSw
              try dsimp only at hSw
              first | (go_simp; done) | (go_simp; with_reducible rfl)
            try simp only [Act.put, List.setIfInBounds_toArray, List.set_cons_zero, List.set_cons_succ]
            refine AnyT.take (i := 8) (oi := { dst := some 50, op := Go.Op.fieldAddr 31 (Go.Operand.tmp 11) 1, type := 0, pos := "parts.go:121", after := #[], guard := none }) (v := ?_) rfl (by kernel_rfl) (by kernel_rfl) (by kernel_rfl) (by kernel_rfl) (fun _ _ _ h => h) (Or.inl ⟨by rfl, ?_⟩) (by assumption) ?_
            rotate_left
            · intro w7 hSw
              try dsimp only at hSw
              first | (go_simp; done) | (go_simp; with_reducible rfl)
            try simp only [Act.put, List.setIfInBounds_toArray, List.set_cons_zero, List.set_cons_succ]
            refine AnyT.take (i := 9) (oi := { dst := some 51, op := Go.Op.load 3 (Go.Operand.tmp 50), type := 3, pos := "parts.go:121", after := #[{ on := 8, ground := Go.Ground.data }], guard := none }) (v := ?_) rfl (by kernel_rfl) (by kernel_rfl) (by kernel_rfl) (by kernel_rfl) (fun _ _ _ h => h) (Or.inl ⟨by rfl, ?_⟩) (by assumption) ?_
            rotate_left
            · intro w7 hSw
              try dsimp only at hSw
              first | (go_simp; done) | (go_simp; with_reducible rfl)
            try simp only [Act.put, List.setIfInBounds_toArray, List.set_cons_zero, List.set_cons_succ]
            refine AnyT.take (i := 10) (oi := { dst := some 52, op := Go.Op.indexAddr 28 (Go.Operand.tmp 49) (Go.Operand.tmp 51), type := 0, pos := "parts.go:121", after := #[{ on := 7, ground := Go.Ground.data }, { on := 9, ground := Go.Ground.data }], guard := none }) (v := ?_) rfl (by kernel_rfl) (by kernel_rfl) (by kernel_rfl) (by kernel_rfl) (fun _ _ _ h => h) (Or.inl ⟨by rfl, ?_⟩) (by assumption) ?_
            rotate_left
            · intro w7 hSw
              try dsimp only at hSw
              first | (go_simp; done) | (go_simp; with_reducible rfl)
            try simp only [Act.put, List.setIfInBounds_toArray, List.set_cons_zero, List.set_cons_succ]
            refine AnyT.take (i := 11) (oi := { dst := some 53, op := Go.Op.load 3 (Go.Operand.tmp 52), type := 3, pos := "parts.go:121", after := #[{ on := 10, ground := Go.Ground.data }], guard := none }) (v := ?_) rfl (by kernel_rfl) (by kernel_rfl) (by kernel_rfl) (by kernel_rfl) (fun _ _ _ h => h) (Or.inl ⟨by rfl, ?_⟩) (by assumption) ?_
            rotate_left
            · intro w7 hSw
              try dsimp only at hSw
              first | (go_simp; done) | (go_simp; with_reducible rfl)
            try simp only [Act.put, List.setIfInBounds_toArray, List.set_cons_zero, List.set_cons_succ]
            refine AnyT.take (i := 12) (oi := { dst := some 54, op := Go.Op.indexAddr 28 (Go.Operand.tmp 48) (Go.Operand.tmp 53), type := 0, pos := "parts.go:121", after := #[{ on := 6, ground := Go.Ground.data }, { on := 11, ground := Go.Ground.data }], guard := none }) (v := ?_) rfl (by kernel_rfl) (by kernel_rfl) (by kernel_rfl) (by kernel_rfl) (fun _ _ _ h => h) (Or.inl ⟨by rfl, ?_⟩) (by assumption) ?_
            rotate_left
            · intro w7 hSw
              try dsimp only at hSw
              first | (go_simp; done) | (go_simp; with_reducible rfl)
            try simp only [Act.put, List.setIfInBounds_toArray, List.set_cons_zero, List.set_cons_succ]
            refine AnyT.take (i := 13) (oi := { dst := some 55, op := Go.Op.load 3 (Go.Operand.tmp 54), type := 3, pos := "parts.go:121", after := #[{ on := 12, ground := Go.Ground.data }], guard := none }) (v := ?_) rfl (by kernel_rfl) (by kernel_rfl) (by kernel_rfl) (by kernel_rfl) (fun _ _ _ h => h) (Or.inl ⟨by rfl, ?_⟩) (by assumption) ?_
            rotate_left
            · intro w7 hSw
              try dsimp only at hSw
              first | (go_simp; done) | (go_simp; with_reducible rfl)
            try simp only [Act.put, List.setIfInBounds_toArray, List.set_cons_zero, List.set_cons_succ]
            refine AnyT.take (i := 14) (oi := { dst := some 56, op := Go.Op.load 31 (Go.Operand.tmp 11), type := 31, pos := "parts.go:121", after := #[], guard := none }) (v := ?_) rfl (by kernel_rfl) (by kernel_rfl) (by kernel_rfl) (by kernel_rfl) (fun _ _ _ h => h) (Or.inl ⟨by rfl, ?_⟩) (by assumption) ?_
            rotate_left
            · intro w7 hSw
              try dsimp only at hSw
              first | (go_simp; done) | (go_simp; with_reducible rfl)
            try simp only [Act.put, List.setIfInBounds_toArray, List.set_cons_zero, List.set_cons_succ]
            refine AnyT.one (i := 15) (o := { dst := some 57, op := Go.Op.call { callee := Go.Callee.value (Go.Operand.func 39), args := #[Go.Operand.tmp 56], argTypes := #[31] }, type := 3, pos := "parts.go:121", after := #[{ on := 14, ground := Go.Ground.data }], guard := none }) (by kernel_rfl) rfl (fun K hK => ?_)
            go_simp
            (go_at_call 39; refine (HN2.out _).mono ?_; rintro e w1 ⟨rfl, hw1⟩; have k1 : Hid (Keep [] w8 w1) := (by rw [hw1]; exact ((Keep.refl [] w8).drew).alloc _); clear hw1)
            go_wp2_with fail
            refine hK.out _ _ (fun _ => HS8.out _ k1.out) (fun hHeld2 => ?_)
            have hHeld3 := hHeld2 (by decide)
            try dsimp only at hHeld3
            clear hK hHeld hHeld2
            have hHeld := hHeld3
            clear hHeld3
            try simp only [Act.put, List.setIfInBounds_toArray, List.set_cons_zero, List.set_cons_succ]
            refine AnyT.take (i := 16) (oi := { dst := some 58, op := Go.Op.binOp Go.BinOp.add 3 (Go.Operand.tmp 55) (Go.Operand.tmp 57) 3, type := 3, pos := "parts.go:121", after := #[{ on := 13, ground := Go.Ground.data }, { on := 15, ground := Go.Ground.data }], guard := none }) (v := ?_) rfl (by kernel_rfl) (by kernel_rfl) (by kernel_rfl) (by kernel_rfl) (fun _ _ _ h => h) (Or.inl ⟨by rfl, ?_⟩) (by assumption) ?_
            rotate_left
            · intro w7 hSw
              try dsimp only at hSw
              first | (go_simp; done) | (go_simp; with_reducible rfl)
            try simp only [Act.put, List.setIfInBounds_toArray, List.set_cons_zero, List.set_cons_succ]
            refine AnyT.take (i := 17) (oi := { dst := some 59, op := Go.Op.call { callee := Go.Callee.builtin Go.Builtin.max, args := #[Go.Operand.tmp 47, Go.Operand.tmp 58], argTypes := #[3, 3] }, type := 3, pos := "parts.go:121", after := #[{ on := 5, ground := Go.Ground.data }, { on := 16, ground := Go.Ground.data }], guard := none }) (v := ?_) rfl (by kernel_rfl) (by kernel_rfl) (by kernel_rfl) (by kernel_rfl) (fun _ _ _ h => h) (Or.inl ⟨by rfl, ?_⟩) (by assumption) ?_
            rotate_left
            · intro w7 hSw
              try dsimp only at hSw
              first | (go_simp; done) | (go_simp; with_reducible rfl)
            try simp only [Act.put, List.setIfInBounds_toArray, List.set_cons_zero, List.set_cons_succ]
            refine AnyT.take (i := 18) (oi := { dst := some 60, op := Go.Op.indexAddr 28 (Go.Operand.tmp 42) (Go.Operand.tmp 43), type := 0, pos := "parts.go:121", after := #[{ on := 0, ground := Go.Ground.data }, { on := 1, ground := Go.Ground.data }, { on := 0, ground := Go.Ground.phase }, { on := 1, ground := Go.Ground.phase }, { on := 2, ground := Go.Ground.phase }, { on := 3, ground := Go.Ground.phase }, { on := 4, ground := Go.Ground.phase }, { on := 5, ground := Go.Ground.phase }, { on := 6, ground := Go.Ground.phase }, { on := 7, ground := Go.Ground.phase }, { on := 8, ground := Go.Ground.phase }, { on := 9, ground := Go.Ground.phase }, { on := 10, ground := Go.Ground.phase }, { on := 11, ground := Go.Ground.phase }, { on := 12, ground := Go.Ground.phase }, { on := 13, ground := Go.Ground.phase }, { on := 14, ground := Go.Ground.phase }, { on := 15, ground := Go.Ground.phase }, { on := 16, ground := Go.Ground.phase }, { on := 17, ground := Go.Ground.phase }], guard := none }) (v := ?_) rfl (by kernel_rfl) (by kernel_rfl) (by kernel_rfl) (by kernel_rfl) (fun _ _ _ h => h) (Or.inl ⟨by rfl, ?_⟩) (by assumption) ?_
            rotate_left
            · intro w7 hSw
              try dsimp only at hSw
              first | (go_simp; done) | (go_simp; with_reducible rfl)
            try simp only [Act.put, List.setIfInBounds_toArray, List.set_cons_zero, List.set_cons_succ]
            obtain ⟨s1, s2, s3, s4, s5, s6, s7, s8, s9⟩ := hHeld
            have hHeld := True.intro
            refine AnyT.one (i := 19) (o := { dst := none, op := Go.Op.store 3 (Go.Operand.tmp 60) (Go.Operand.tmp 59), type := 0, pos := "parts.go:121", after := #[{ on := 18, ground := Go.Ground.data }, { on := 17, ground := Go.Ground.data }, { on := 15, ground := Go.Ground.chain }, { on := 0, ground := Go.Ground.phase }, { on := 1, ground := Go.Ground.phase }, { on := 2, ground := Go.Ground.phase }, { on := 3, ground := Go.Ground.phase }, { on := 4, ground := Go.Ground.phase }, { on := 5, ground := Go.Ground.phase }, { on := 6, ground := Go.Ground.phase }, { on := 7, ground := Go.Ground.phase }, { on := 8, ground := Go.Ground.phase }, { on := 9, ground := Go.Ground.phase }, { on := 10, ground := Go.Ground.phase }, { on := 11, ground := Go.Ground.phase }, { on := 12, ground := Go.Ground.phase }, { on := 13, ground := Go.Ground.phase }, { on := 14, ground := Go.Ground.phase }, { on := 15, ground := Go.Ground.phase }, { on := 16, ground := Go.Ground.phase }, { on := 17, ground := Go.Ground.phase }], guard := none }) (by kernel_rfl) rfl (fun K hK => ?_)
            go_simp
            refine hK.out _ _ (fun h => absurd rfl h) (fun _ => ?_)
            clear hK hHeld
            try simp only [Act.put, List.setIfInBounds_toArray, List.set_cons_zero, List.set_cons_succ]
            refine AnyT.done (by kernel_rfl) ?_ _
            clear s1 s2 s3 s4 s5 s6 s7 s8 HS8
            go_wp2
            go_roundw
            case rel =>
              refine ⟨j + 1, H.set pk (max u (v + q)), by go_num, by omega, ?_⟩
              exact ⟨HZ.out _ (by omega) _ s9.out, HRd.out _ ((Keep.mono s9.out (by simp)).more (Keep.set1 _ ⟨gh, pk, none⟩ _) (by simp))⟩
            case measure => simp [intOf]; omega
          · have hmx2 : (v : Int) + (q : Int) < (u : Int) := by omega
            refine wp_region_tail 19 (S := fun w' : World => w'.cell? ⟨b3, 0, none⟩ = some (.slice (some ⟨gp, 0, none⟩) n n) ∧ w'.cell? ⟨gp, t, none⟩ = some (.int .i64 (pt : Int)) ∧ w'.cell? ⟨gh, pk, none⟩ = some (.int .i64 (u : Int)) ∧ w'.cell? ⟨gh, pt, none⟩ = some (.int .i64 (v : Int)) ∧ w'.cell? ⟨bz, 0, none⟩ = some (.int .i64 f) ∧ w'.cell? ⟨bz, 1, none⟩ = some (.int .i64 (t : Int)) ∧ w'.cell? ⟨bz, 2, none⟩ = some (.bool gg) ∧ w'.frozen? ⟨gh, pk, none⟩ = false ∧ Hid (Keep [] wr w')) (by kernel_rfl) (HS8.out _ ((Keep.refl [] w8).drew)) (fun hHeld => ?_)
            try dsimp only at hHeld
            refine AnyT.take (i := 0) (oi := { dst := some 42, op := Go.Op.move (Go.Operand.tmp 6), type := 28, pos := "parts.go:121", after := #[], guard := none }) (v := ?_) rfl (by kernel_rfl) (by kernel_rfl) (by kernel_rfl) (by kernel_rfl) (fun _ _ _ h => h) (Or.inl ⟨by rfl, ?_⟩) (by assumption) ?_
            rotate_left
            · intro w7 hSw
              try dsimp only at hSw
              first | (go_simp; done) | (go_simp; with_reducible rfl)
            try simp only [Act.put, List.setIfInBounds_toArray, List.set_cons_zero, List.set_cons_succ]
            refine AnyT.take (i := 1) (oi := { dst := some 43, op := Go.Op.move (Go.Operand.tmp 9), type := 3, pos := "parts.go:121", after := #[], guard := none }) (v := ?_) rfl (by kernel_rfl) (by kernel_rfl) (by kernel_rfl) (by kernel_rfl) (fun _ _ _ h => h) (Or.inl ⟨by rfl, ?_⟩) (by assumption) ?_
            rotate_left
            · intro w7 hSw
              try dsimp only at hSw
              first | (go_simp; done) | (go_simp; with_reducible rfl)
            try simp only [Act.put, List.setIfInBounds_toArray, List.set_cons_zero, List.set_cons_succ]
            refine AnyT.take (i := 2) (oi := { dst := some 44, op := Go.Op.move (Go.Operand.tmp 6), type := 28, pos := "parts.go:121", after := #[], guard := none }) (v := ?_) rfl (by kernel_rfl) (by kernel_rfl) (by kernel_rfl) (by kernel_rfl) (fun _ _ _ h => h) (Or.inl ⟨by rfl, ?_⟩) (by assumption) ?_
            rotate_left
            · intro w7 hSw
              try dsimp only at hSw
              first | (go_simp; done) | (go_simp; with_reducible rfl)
            try simp only [Act.put, List.setIfInBounds_toArray, List.set_cons_zero, List.set_cons_succ]
            refine AnyT.take (i := 3) (oi := { dst := some 45, op := Go.Op.move (Go.Operand.tmp 9), type := 3, pos := "parts.go:121", after := #[], guard := none }) (v := ?_) rfl (by kernel_rfl) (by kernel_rfl) (by kernel_rfl) (by kernel_rfl) (fun _ _ _ h => h) (Or.inl ⟨by rfl, ?_⟩) (by assumption) ?_
            rotate_left
            · intro w7 hSw
              try dsimp only at hSw
              first | (go_simp; done) | (go_simp; with_reducible rfl)
            try simp only [Act.put, List.setIfInBounds_toArray, List.set_cons_zero, List.set_cons_succ]
            refine AnyT.take (i := 4) (oi := { dst := some 46, op := Go.Op.indexAddr 28 (Go.Operand.tmp 44) (Go.Operand.tmp 45), type := 0, pos := "parts.go:121", after := #[{ on := 2, ground := Go.Ground.data }, { on := 3, ground := Go.Ground.data }], guard := none }) (v := ?_) rfl (by kernel_rfl) (by kernel_rfl) (by kernel_rfl) (by kernel_rfl) (fun _ _ _ h => h) (Or.inl ⟨by rfl, ?_⟩) (by assumption) ?_
            rotate_left
            · intro w7 hSw
              try dsimp only at hSw
              first | (go_simp; done) | (go_simp; with_reducible rfl)
            try simp only [Act.put, List.setIfInBounds_toArray, List.set_cons_zero, List.set_cons_succ]
            refine AnyT.take (i := 5) (oi := { dst := some 47, op := Go.Op.load 3 (Go.Operand.tmp 46), type := 3, pos := "parts.go:121", after := #[{ on := 4, ground := Go.Ground.data }], guard := none }) (v := ?_) rfl (by kernel_rfl) (by kernel_rfl) (by kernel_rfl) (by kernel_rfl) (fun _ _ _ h => h) (Or.inl ⟨by rfl, ?_⟩) (by assumption) ?_
            rotate_left
            · intro w7 hSw
              try dsimp only at hSw
              first | (go_simp; done) | (go_simp; with_reducible rfl)
            try simp only [Act.put, List.setIfInBounds_toArray, List.set_cons_zero, List.set_cons_succ]
            refine AnyT.take (i := 6) (oi := { dst := some 48, op := Go.Op.move (Go.Operand.tmp 6), type := 28, pos := "parts.go:121", after := #[], guard := none }) (v := ?_) rfl (by kernel_rfl) (by kernel_rfl) (by kernel_rfl) (by kernel_rfl) (fun _ _ _ h => h) (Or.inl ⟨by rfl, ?_⟩) (by assumption) ?_
            rotate_left
            · intro w7 hSw
              try dsimp only at hSw
              first | (go_simp; done) | (go_simp; with_reducible rfl)
            try simp only [Act.put, List.setIfInBounds_toArray, List.set_cons_zero, List.set_cons_succ]
            refine AnyT.take (i := 7) (oi := { dst := some 49, op := Go.Op.load 28 (Go.Operand.tmp 3), type := 28, pos := "parts.go:121", after := #[], guard := none }) (v := ?_) rfl (by kernel_rfl) (by kernel_rfl) (by kernel_rfl) (by kernel_rfl) (fun _ _ _ h => h) (Or.inl ⟨by rfl, ?_⟩) (by assumption) ?_
            rotate_left
            · intro w7 hSw
              try dsimp only at hSw
              first | (go_simp; done) | (go_simp; with_reducible rfl)
            try simp only [Act.put, List.setIfInBounds_toArray, List.set_cons_zero, List.set_cons_succ]
            refine AnyT.take (i := 8) (oi := { dst := some 50, op := Go.Op.fieldAddr 31 (Go.Operand.tmp 11) 1, type := 0, pos := "parts.go:121", after := #[], guard := none }) (v := ?_) rfl (by kernel_rfl) (by kernel_rfl) (by kernel_rfl) (by kernel_rfl) (fun _ _ _ h => h) (Or.inl ⟨by rfl, ?_⟩) (by assumption) ?_
            rotate_left
            · intro w7 hSw
              try dsimp only at hSw
              first | (go_simp; done) | (go_simp; with_reducible rfl)
            try simp only [Act.put, List.setIfInBounds_toArray, List.set_cons_zero, List.set_cons_succ]
            refine AnyT.take (i := 9) (oi := { dst := some 51, op := Go.Op.load 3 (Go.Operand.tmp 50), type := 3, pos := "parts.go:121", after := #[{ on := 8, ground := Go.Ground.data }], guard := none }) (v := ?_) rfl (by kernel_rfl) (by kernel_rfl) (by kernel_rfl) (by kernel_rfl) (fun _ _ _ h => h) (Or.inl ⟨by rfl, ?_⟩) (by assumption) ?_
            rotate_left
            · intro w7 hSw
              try dsimp only at hSw
              first | (go_simp; done) | (go_simp; with_reducible rfl)
            try simp only [Act.put, List.setIfInBounds_toArray, List.set_cons_zero, List.set_cons_succ]
            refine AnyT.take (i := 10) (oi := { dst := some 52, op := Go.Op.indexAddr 28 (Go.Operand.tmp 49) (Go.Operand.tmp 51), type := 0, pos := "parts.go:121", after := #[{ on := 7, ground := Go.Ground.data }, { on := 9, ground := Go.Ground.data }], guard := none }) (v := ?_) rfl (by kernel_rfl) (by kernel_rfl) (by kernel_rfl) (by kernel_rfl) (fun _ _ _ h => h) (Or.inl ⟨by rfl, ?_⟩) (by assumption) ?_
            rotate_left
            · intro w7 hSw
              try dsimp only at hSw
              first | (go_simp; done) | (go_simp; with_reducible rfl)
            try simp only [Act.put, List.setIfInBounds_toArray, List.set_cons_zero, List.set_cons_succ]
            refine AnyT.take (i := 11) (oi := { dst := some 53, op := Go.Op.load 3 (Go.Operand.tmp 52), type := 3, pos := "parts.go:121", after := #[{ on := 10, ground := Go.Ground.data }], guard := none }) (v := ?_) rfl (by kernel_rfl) (by kernel_rfl) (by kernel_rfl) (by kernel_rfl) (fun _ _ _ h => h) (Or.inl ⟨by rfl, ?_⟩) (by assumption) ?_
            rotate_left
            · intro w7 hSw
              try dsimp only at hSw
              first | (go_simp; done) | (go_simp; with_reducible rfl)
            try simp only [Act.put, List.setIfInBounds_toArray, List.set_cons_zero, List.set_cons_succ]
            refine AnyT.take (i := 12) (oi := { dst := some 54, op := Go.Op.indexAddr 28 (Go.Operand.tmp 48) (Go.Operand.tmp 53), type := 0, pos := "parts.go:121", after := #[{ on := 6, ground := Go.Ground.data }, { on := 11, ground := Go.Ground.data }], guard := none }) (v := ?_) rfl (by kernel_rfl) (by kernel_rfl) (by kernel_rfl) (by kernel_rfl) (fun _ _ _ h => h) (Or.inl ⟨by rfl, ?_⟩) (by assumption) ?_
            rotate_left
            · intro w7 hSw
              try dsimp only at hSw
              first | (go_simp; done) | (go_simp; with_reducible rfl)
            try simp only [Act.put, List.setIfInBounds_toArray, List.set_cons_zero, List.set_cons_succ]
            refine AnyT.take (i := 13) (oi := { dst := some 55, op := Go.Op.load 3 (Go.Operand.tmp 54), type := 3, pos := "parts.go:121", after := #[{ on := 12, ground := Go.Ground.data }], guard := none }) (v := ?_) rfl (by kernel_rfl) (by kernel_rfl) (by kernel_rfl) (by kernel_rfl) (fun _ _ _ h => h) (Or.inl ⟨by rfl, ?_⟩) (by assumption) ?_
            rotate_left
            · intro w7 hSw
              try dsimp only at hSw
              first | (go_simp; done) | (go_simp; with_reducible rfl)
            try simp only [Act.put, List.setIfInBounds_toArray, List.set_cons_zero, List.set_cons_succ]
            refine AnyT.take (i := 14) (oi := { dst := some 56, op := Go.Op.load 31 (Go.Operand.tmp 11), type := 31, pos := "parts.go:121", after := #[], guard := none }) (v := ?_) rfl (by kernel_rfl) (by kernel_rfl) (by kernel_rfl) (by kernel_rfl) (fun _ _ _ h => h) (Or.inl ⟨by rfl, ?_⟩) (by assumption) ?_
            rotate_left
            · intro w7 hSw
              try dsimp only at hSw
              first | (go_simp; done) | (go_simp; with_reducible rfl)
            try simp only [Act.put, List.setIfInBounds_toArray, List.set_cons_zero, List.set_cons_succ]
            refine AnyT.one (i := 15) (o := { dst := some 57, op := Go.Op.call { callee := Go.Callee.value (Go.Operand.func 39), args := #[Go.Operand.tmp 56], argTypes := #[31] }, type := 3, pos := "parts.go:121", after := #[{ on := 14, ground := Go.Ground.data }], guard := none }) (by kernel_rfl) rfl (fun K hK => ?_)
            go_simp
            (go_at_call 39; refine (HN2.out _).mono ?_; rintro e w1 ⟨rfl, hw1⟩; have k1 : Hid (Keep [] w8 w1) := (by rw [hw1]; exact ((Keep.refl [] w8).drew).alloc _); clear hw1)
            go_wp2_with fail
            refine hK.out _ _ (fun _ => HS8.out _ k1.out) (fun hHeld2 => ?_)
            have hHeld3 := hHeld2 (by decide)
            try dsimp only at hHeld3
            clear hK hHeld hHeld2
            have hHeld := hHeld3
            clear hHeld3
            try simp only [Act.put, List.setIfInBounds_toArray, List.set_cons_zero, List.set_cons_succ]
            refine AnyT.take (i := 16) (oi := { dst := some 58, op := Go.Op.binOp Go.BinOp.add 3 (Go.Operand.tmp 55) (Go.Operand.tmp 57) 3, type := 3, pos := "parts.go:121", after := #[{ on := 13, ground := Go.Ground.data }, { on := 15, ground := Go.Ground.data }], guard := none }) (v := ?_) rfl (by kernel_rfl) (by kernel_rfl) (by kernel_rfl) (by kernel_rfl) (fun _ _ _ h => h) (Or.inl ⟨by rfl, ?_⟩) (by assumption) ?_
            rotate_left
            · intro w7 hSw
              try dsimp only at hSw
              first | (go_simp; done) | (go_simp; with_reducible rfl)
            try simp only [Act.put, List.setIfInBounds_toArray, List.set_cons_zero, List.set_cons_succ]
            refine AnyT.take (i := 17) (oi := { dst := some 59, op := Go.Op.call { callee := Go.Callee.builtin Go.Builtin.max, args := #[Go.Operand.tmp 47, Go.Operand.tmp 58], argTypes := #[3, 3] }, type := 3, pos := "parts.go:121", after := #[{ on := 5, ground := Go.Ground.data }, { on := 16, ground := Go.Ground.data }], guard := none }) (v := ?_) rfl (by kernel_rfl) (by kernel_rfl) (by kernel_rfl) (by kernel_rfl) (fun _ _ _ h => h) (Or.inl ⟨by rfl, ?_⟩) (by assumption) ?_
            rotate_left
            · intro w7 hSw
              try dsimp only at hSw
              first | (go_simp; done) | (go_simp; with_reducible rfl)
            try simp only [Act.put, List.setIfInBounds_toArray, List.set_cons_zero, List.set_cons_succ]
            refine AnyT.take (i := 18) (oi := { dst := some 60, op := Go.Op.indexAddr 28 (Go.Operand.tmp 42) (Go.Operand.tmp 43), type := 0, pos := "parts.go:121", after := #[{ on := 0, ground := Go.Ground.data }, { on := 1, ground := Go.Ground.data }, { on := 0, ground := Go.Ground.phase }, { on := 1, ground := Go.Ground.phase }, { on := 2, ground := Go.Ground.phase }, { on := 3, ground := Go.Ground.phase }, { on := 4, ground := Go.Ground.phase }, { on := 5, ground := Go.Ground.phase }, { on := 6, ground := Go.Ground.phase }, { on := 7, ground := Go.Ground.phase }, { on := 8, ground := Go.Ground.phase }, { on := 9, ground := Go.Ground.phase }, { on := 10, ground := Go.Ground.phase }, { on := 11, ground := Go.Ground.phase }, { on := 12, ground := Go.Ground.phase }, { on := 13, ground := Go.Ground.phase }, { on := 14, ground := Go.Ground.phase }, { on := 15, ground := Go.Ground.phase }, { on := 16, ground := Go.Ground.phase }, { on := 17, ground := Go.Ground.phase }], guard := none }) (v := ?_) rfl (by kernel_rfl) (by kernel_rfl) (by kernel_rfl) (by kernel_rfl) (fun _ _ _ h => h) (Or.inl ⟨by rfl, ?_⟩) (by assumption) ?_
            rotate_left
            · intro w7 hSw
              try dsimp only at hSw
              first | (go_simp; done) | (go_simp; with_reducible rfl)
            try simp only [Act.put, List.setIfInBounds_toArray, List.set_cons_zero, List.set_cons_succ]
            obtain ⟨s1, s2, s3, s4, s5, s6, s7, s8, s9⟩ := hHeld
            have hHeld := True.intro
            refine AnyT.one (i := 19) (o := { dst := none, op := Go.Op.store 3 (Go.Operand.tmp 60) (Go.Operand.tmp 59), type := 0, pos := "parts.go:121", after := #[{ on := 18, ground := Go.Ground.data }, { on := 17, ground := Go.Ground.data }, { on := 15, ground := Go.Ground.chain }, { on := 0, ground := Go.Ground.phase }, { on := 1, ground := Go.Ground.phase }, { on := 2, ground := Go.Ground.phase }, { on := 3, ground := Go.Ground.phase }, { on := 4, ground := Go.Ground.phase }, { on := 5, ground := Go.Ground.phase }, { on := 6, ground := Go.Ground.phase }, { on := 7, ground := Go.Ground.phase }, { on := 8, ground := Go.Ground.phase }, { on := 9, ground := Go.Ground.phase }, { on := 10, ground := Go.Ground.phase }, { on := 11, ground := Go.Ground.phase }, { on := 12, ground := Go.Ground.phase }, { on := 13, ground := Go.Ground.phase }, { on := 14, ground := Go.Ground.phase }, { on := 15, ground := Go.Ground.phase }, { on := 16, ground := Go.Ground.phase }, { on := 17, ground := Go.Ground.phase }], guard := none }) (by kernel_rfl) rfl (fun K hK => ?_)
            go_simp
            refine hK.out _ _ (fun h => absurd rfl h) (fun _ => ?_)
            clear hK hHeld
            try simp only [Act.put, List.setIfInBounds_toArray, List.set_cons_zero, List.set_cons_succ]
            refine AnyT.done (by kernel_rfl) ?_ _
            clear s1 s2 s3 s4 s5 s6 s7 s8 HS8
            go_wp2
            go_roundw
            case rel =>
              refine ⟨j + 1, H.set pk (max u (v + q)), by go_num, by omega, ?_⟩
              exact ⟨HZ.out _ (by omega) _ s9.out, HRd.out _ ((Keep.mono s9.out (by simp)).more (Keep.set1 _ ⟨gh, pk, none⟩ _) (by simp))⟩
            case measure => simp [intOf]; omega
        · have hjli : ¬ (j : Int) < (L.length : Int) := by omega
          have HE : Hid (Lx w5 gh n A p (fun a => a.f ∈ d.take (i + 1)) H wr) := by
            refine ⟨HY.out.1.keep, HY.out.1.arr, HY.out.1.ht.mono (fun a ha h => ?_)⟩
            obtain ⟨hki2, hke⟩ := HKD.out
            rw [List.take_succ_eq_append_getElem hki2] at h
            rcases List.mem_append.1 h with h | h
            · exact .inl h
            · refine .inr ?_
              rw [List.take_of_length_le (by omega), HLL.out]
              exact (HG.out.1.ok.out k hkn a).2 ⟨ha, by rw [hke]; simpa using h⟩
          clear HY HX6
          go_wp2
          go_roundw
          case rel => exact ⟨i + 1, H, by go_num, by omega, HE⟩
          case measure => simp [intOf]; omega
    · have hlti : ¬ (i : Int) < (n : Int) := by omega
      obtain ⟨kw, x0, x1, x2, xp, xr⟩ := HKw.out wr HX.out.keep
      have HF : Hid (Least A n (fun x => H.getD (p.getD x 0) 0)) := by
        refine Ht.done (HX.out.ht.mono (fun a ha _ => ?_)) HM.out.1 HM.out.2.2
        rw [List.take_of_length_le (by omega)]
        exact H3.out.2.1.1.mem_iff.2 (List.mem_range.2 (HG.out.1.ok.node a ha).1)
      have HA : Hid (Arr 3 eN wr gp n p ∧ Arr 3 eN wr gh n H ∧ Keep [] w wr) := ⟨xp, HX.out.arr, kw⟩
      have hlx : b3 < wr.heap.size := World.block_lt_of_cell? _ _ x2
      clear xp xr HX HLv d0 d1 d2
      go_wp2_with (first | (go_at_call 33; refine (HNo.out _ kw).mono ?_; rintro e w4 ⟨rfl, rfl⟩) | (at_make; refine wpList_make_full _ rfl (.tmp 64) (.tmp 64) 28 rfl 0 3 i3 (.int .i64 0) 1 Try.underlying28 hi3 hz3 hs3 .i64 .i64 _ _ n rfl rfl rfl rfl HB2.out HB3.out (Nat.zero_le _) ?_))
      intro w9 r1 r2
      obtain ⟨gl, HGL⟩ : ∃ gl : Nat, Hid (gl = wr.heap.size + 1) := ⟨_, show _ = _ from rfl⟩
      rw [← HGL.out] at r1 ⊢
      have k9 : Keep [] wr w9 := (Keep.alloc1 wr _).trans' (Keep.mono (Keep.grown r2) (by simp))
      have y2 := k9.cell' x2 (by simp)
      have HZ : Hid (Lz w gp gh gl n p H (List.replicate n 0) 0 w9) := by
        have h1 := HA.out.1.lt
        have h2 := HA.out.2.1.lt
        have h3 := HGL.out
        have h4 := kw.size
        exact ⟨HA.out.1.keep k9 (by simp), HA.out.2.1.keep k9 (by simp), Arr.made (e := eN) (z := 0) r1, fun x hx => by omega, kw.trans' k9, by omega⟩
      clear r1 r2 k9 kw x0 x1 x2 HA HNo
      go_wp2
      go_loopw [68] (fun iv wr => ∃ (i : Nat) (l : List Nat), iv = .int .i64 (i : Int) ∧ i ≤ n ∧ Hid (Lz w gp gh gl n p H l i wr)) (fun iv _ => n - (intOf iv).toNat)
      case atStart => exact ⟨0, _, rfl, Nat.zero_le _, HZ⟩
      case round =>
        clear HZ y2 hi hlt hlti
        obtain ⟨i, l, rfl, hi, HZ⟩ := hrel
        by_cases hlt : i < n
        · have hlti : (i : Int) < (n : Int) := by omega
          obtain ⟨r, hr⟩ : ∃ r : Nat, r = p.getD i 0 := ⟨_, rfl⟩
          obtain ⟨x, hx⟩ : ∃ x : Nat, x = H.getD r 0 := ⟨_, rfl⟩
          have hrn : r < n := by rw [hr]; exact HM.out.2.1 i hlt
          have hri : (r : Int) < (n : Int) := by omega
          have e0 : wr.cell? ⟨gp, i, none⟩ = some (.int .i64 (r : Int)) := by rw [hr]; exact HZ.out.pp.cell 0 i hlt
          have e1 : wr.cell? ⟨gh, r, none⟩ = some (.int .i64 (x : Int)) := by rw [hx]; exact HZ.out.hh.cell 0 r hrn
          have e2 : wr.cell? ⟨gl, i, none⟩ = some (.int .i64 (l.getD i 0 : Int)) := HZ.out.ll.cell 0 i hlt
          have f2 := HZ.out.ll.free i
          have HJ : Hid (Lz w gp gh gl n p H (l.set i x) (i + 1) (wr.setCell ⟨gl, i, none⟩ (.int .i64 (x : Int)))) := HZ.out.next hlt (by rw [hx, hr])
          clear HZ hr hx
          go_wp2
          go_roundw
          case rel => exact ⟨i + 1, _, by go_num, by omega, HJ⟩
          case measure => simp [intOf]; omega
        · have hlti : ¬ (i : Int) < (n : Int) := by omega
          have HE : Hid (LeR w wr (.slice (some ⟨gl, 0, none⟩) n n) n A) := by
            have hz := HZ.out
            refine ⟨gl, l, rfl, by have := hz.ord; omega, hz.ll, ?_, hz.keep⟩
            have hd : ∀ x, x < n → l.getD x 0 = H.getD (p.getD x 0) 0 := fun x hx => hz.dn x (by omega)
            refine ⟨fun a ha => ?_, fun t ht x hx => ?_⟩
            · have hnd := HG.out.1.ok.node a ha
              show l.getD a.t 0 + _ ≤ l.getD a.f 0
              rw [hd _ hnd.1, hd _ hnd.2]
              exact HF.out.sol a ha
            · rw [hd x hx]
              exact HF.out.least t ht x hx
          clear HZ
          go_wp2
          go_ret
          exact ⟨_, rfl, HE.out⟩
end Go.Proofs.Ytmlpkjeaieljfab

