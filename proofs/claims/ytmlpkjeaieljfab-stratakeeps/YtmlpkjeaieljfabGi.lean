/- The library's sort of arcs and of numbers: a sorted list of the same. -/
import Derived.Test.YtmlpkjeaieljfabShelf
import Derived.Test.YtmlpkjeaieljfabGg

namespace Go.Proofs.Ytmlpkjeaieljfab
open Go.RowKit Go.PlainAid Go.Sort Go.Shelf

theorem putCells_take (F c : Array Value) (h : F.size ≤ c.size) : (putCells id 0 F c).toList.take F.size = F.toList := by
  apply List.ext_getElem?
  intro i
  by_cases hi : i < F.size
  · rw [List.getElem?_take_of_lt hi, Array.getElem?_toList, Array.getElem?_toList]
    unfold putCells
    rw [Array.getElem?_mapIdx, Array.getElem?_eq_getElem (by omega)]
    simp [hi]
  · rw [List.getElem?_eq_none (by rw [List.length_take]; omega), List.getElem?_eq_none (by simpa using hi)]

/-- a row that was written anew, and blocks that were laid -/
theorem row_put {w : World} {E : TypeId} {s g n cap m : Nat} {xs : List Value} (h : RowC w E s (.slice (some ⟨g, 0, none⟩) n cap) n xs) (F : Array Value) (hF : F.size = n * s) (os : Array Obj) :
    RowC (grow (putRow id (Sort.ahead w m) g 0 F) os) E s (.slice (some ⟨g, 0, none⟩) n cap) n F.toList ∧ Keep [g] w (grow (putRow id (Sort.ahead w m) g 0 F) os) := by
  rcases h.2 with ⟨h1, _⟩ | ⟨g', cap', cur, he, hb, hg, hnc, hcm, hcs, htake⟩
  · simp at h1
  simp at he
  obtain ⟨rfl, rfl⟩ := he
  have hgl : g < w.heap.size := (Array.getElem?_eq_some_iff.1 hg).1
  have hheap : ∀ k, k < w.heap.size → (grow (putRow id (Sort.ahead w m) g 0 F) os).heap[k]? = if g = k then w.heap[k]?.map (onCells (putCells id 0 F)) else w.heap[k]? := fun k hk => by
    show ((w.heap.modify g (onCells (putCells id 0 F))) ++ os)[k]? = _
    rw [Array.getElem?_append_left (by simpa using hk), Array.getElem?_modify]
  have hns : n * s ≤ cap * s := Nat.mul_le_mul_right _ hnc
  refine ⟨⟨by simp [hF], .inr ⟨g, cap, putCells id 0 F cur, rfl, hb, ?_, hnc, hcm, ?_, ?_⟩⟩, ⟨rfl, rfl, rfl, ?_, fun k hk hn => ?_⟩⟩
  · rw [hheap g hgl, if_pos rfl, hg]; rfl
  · simp [putCells, hcs]
  · rw [← hF]
    exact putCells_take F cur (by omega)
  · show w.heap.size ≤ ((w.heap.modify g (onCells (putCells id 0 F))) ++ os).size
    simp
  · rw [hheap k hk, if_neg (fun e => hn (by simp [e]))]

theorem flatK_list {α : Type} [Inhabited α] {enc : α → List Value} {k : Nat} (hk : ∀ x, (enc x).length = k) (hk0 : 0 < k) (d : Array α) : (flatK enc k d).toList = d.toList.flatMap enc := by
  apply List.ext_getElem?
  intro t
  by_cases ht : t < d.size * k
  · have hd : t / k < d.toList.length := by rw [Array.length_toList]; exact Nat.div_lt_of_lt_mul (by rw [Nat.mul_comm]; exact ht)
    have hm : t % k < k := Nat.mod_lt _ hk0
    have he : t / k * k + t % k = t := by rw [Nat.mul_comm]; exact Nat.div_add_mod t k
    have h3 := flat_get hk d.toList (t / k) (t % k) hd hm
    rw [he] at h3
    have hl : t % k < (enc d.toList[t / k]).length := by rw [hk]; exact hm
    rw [h3, Array.getElem?_toList, Array.getElem?_eq_getElem (by simpa using ht), List.getElem?_eq_getElem hl]
    congr 1
    have h5 := get_flatK enc k d t ht
    rw [getElem!_pos _ t (by simpa using ht)] at h5
    rw [h5, getElem!_pos d (t / k) (by simpa using hd)]
    exact getElem!_pos (enc d[t / k]) (t % k) (by rw [hk]; exact hm)
  · rw [List.getElem?_eq_none (by simpa using ht), List.getElem?_eq_none (by rw [flat_len hk, Array.length_toList]; omega)]

theorem holds_row {α : Type} [Inhabited α] {E : TypeId} {enc : α → List Value} {k : Nat} (hk : ∀ x, (enc x).length = k) (hk0 : 0 < k) {w : World} {g cap : Nat} {l : List α} (h : Rw E enc k w (.slice (some ⟨g, 0, none⟩) l.length cap) l) : HoldsK enc k w g 0 l.toArray := by
  intro j hj
  rw [size_flatK] at hj
  rcases RowC.cases h with ⟨_, _, h3⟩ | ⟨g', cap', he, _, _, _, h5, h6⟩
  · simp at h3
  simp at he
  obtain ⟨rfl, _⟩ := he
  refine ⟨?_, h6 _⟩
  have hl : (flatK enc k l.toArray).toList = l.flatMap enc := flatK_list hk hk0 l.toArray
  rw [Nat.zero_add, h5 j (by simpa using hj), ← hl, Array.getElem?_toList, Array.getElem?_eq_getElem (by simpa using hj)]
  simp only [id]
  rw [getElem!_pos _ j (by simpa using hj)]

theorem cmp3 (a b : Int) : (a < b ∧ Lib.compareInt a b = -1) ∨ (a = b ∧ Lib.compareInt a b = 0) ∨ (b < a ∧ Lib.compareInt a b = 1) := by
  unfold Lib.compareInt
  rcases Int.lt_trichotomy a b with h | h | h
  · exact .inl ⟨h, if_pos h⟩
  · exact .inr (.inl ⟨h, by rw [if_neg (by omega), if_neg (by omega)]⟩)
  · exact .inr (.inr ⟨h, by rw [if_neg (by omega), if_pos h]⟩)
theorem ltA (x y : Ar) : ltOf cmpA x y = true ↔ (x.f < y.f ∨ (x.f = y.f ∧ (x.t < y.t ∨ (x.t = y.t ∧ ng x.g < ng y.g)))) := by
  unfold ltOf cmpA
  rw [decide_eq_true_iff]
  rcases cmp3 x.f y.f with ⟨h1, e1⟩ | ⟨h1, e1⟩ | ⟨h1, e1⟩
  · rw [e1, show orI (-1) _ _ = -1 from rfl]; omega
  · rw [e1, show ∀ b c, orI 0 b c = if b ≠ 0 then b else c from fun _ _ => rfl]
    rcases cmp3 x.t y.t with ⟨h2, e2⟩ | ⟨h2, e2⟩ | ⟨h2, e2⟩
    · rw [e2, if_pos (by decide)]; omega
    · rw [e2, if_neg (by decide)]
      rcases cmp3 (ng x.g) (ng y.g) with ⟨h3, e3⟩ | ⟨h3, e3⟩ | ⟨h3, e3⟩ <;> rw [e3] <;> omega
    · rw [e2, if_pos (by decide)]; omega
  · rw [e1, show orI 1 _ _ = 1 from rfl]; omega
theorem ltAf (x y : Ar) : ltOf cmpA x y = false ↔ ¬ (x.f < y.f ∨ (x.f = y.f ∧ (x.t < y.t ∨ (x.t = y.t ∧ ng x.g < ng y.g)))) := by
  rw [← ltA]; simp

theorem swoA : SWO (ltOf cmpA) where
  irrefl x := by rw [ltAf]; omega
  trans x y z h1 h2 := by rw [ltA] at *; omega
  ntrans x y z h1 h2 := by rw [ltAf] at *; omega

theorem cmpLaysA (g size : Nat) (w : World) : CmpLays Try.prog 29 #[] encA 3 cmpA g 0 size w :=
  fun _ _ _ _ x y => (compareArcs_any x y _).mono fun _ _ ⟨h1, h2⟩ => ⟨h1, h2⟩

theorem sortArcs_any : SortOk := by
  intro g cap l w h hl
  have eg : ∀ args w, (callFunc 29 args).run Try.prog w = .ok (.enter 29 args) w := enters_of Try.func29 (by kernel_rfl) rfl
  have hgl : g < w.heap.size := h.lt g rfl
  have hcon := AnyQ.slices_SortFunc Try.sortArc 3 (fun w => by kernel_rfl) (fun w => by kernel_rfl) encA encA_len encA_one cmpA swoA 29 #[] g 0 cap l.toArray w eg (cmpLaysA g _ w) (holds_row encA_len (by omega) h) hgl (by simp; omega)
  refine hcon.mono ?_
  rintro e w' ⟨rfl, d', n, os, ⟨hp1, _, hp3⟩, hs, rfl⟩
  have hd : d'.size = l.length := by simpa using hp1
  have hF : (flatK encA 3 d').size = l.length * 3 := by rw [size_flatK, hd]
  obtain ⟨r1, r2⟩ := row_put (m := n) h (flatK encA 3 d') hF os
  rw [flatK_list encA_len (by omega)] at r1
  have hall : ∀ (x : Array Ar) (L : Nat), x.size = L → x.extract 0 L = x := fun x L hL => by subst hL; simp
  refine ⟨rfl, d'.toList, ⟨?_, by simpa using hd⟩, ⟨?_, ?_⟩, r2⟩
  · show RowC _ 31 3 _ d'.toList.length _
    rw [show d'.toList.length = l.length by simpa using hd]
    exact r1
  · rw [hall d' _ (by simpa using hd), hall l.toArray _ (by simp)] at hp3
    simpa using hp3
  · rw [List.pairwise_iff_getElem]
    intro i j hi hj hij
    have := hs i j (Nat.zero_le _) hij (by simpa [hd] using hj)
    rw [getElem!_pos d' j (by simpa using hj), getElem!_pos d' i (by simpa using hi), ltAf] at this
    simp only [Array.getElem_toList]
    omega

theorem sortNone_any : SortNone := fun w => AnyF.slices_SortFunc_none Try.sortArc none 0 _ w

theorem graphOf_any (n : Nat) (v : Value) (l : List Ar) (w : World) (h : Rd encA 3 w v l) (hl : l.length ≤ 262144) (hn : n ≤ 4096) (hnode : ∀ a ∈ l, a.f < n ∧ a.t < n) :
    Calls Try.prog 18 #[.int .i64 (n : Int), v] w fun e w' => ∃ va vf, e = .returned (.agg #[va, vf]) ∧ GphR w w' va vf n l := graphOf_own sortArcs_any sortNone_any n v l w h hl hn hnode
end Go.Proofs.Ytmlpkjeaieljfab

/- The graph's own calls: nodes, leaving. -/
namespace Go.Proofs.Ytmlpkjeaieljfab
open Go.RowKit Go.PlainAid Go.Sort

theorem Gph.firstLen {w : World} {va vf : Value} {n : Nat} {A : List Ar} {F : List Nat} (h : Gph w va vf n A F) : ∃ b o cap, vf = .slice (some ⟨b, o, none⟩) (n + 1) cap ∧ n + 1 ≤ cap ∧ cap ≤ 9223372036854775807 ∧ b < w.heap.size ∧ ∀ k, k ≤ n → w.cell? ⟨b, o + k, none⟩ = some (.int .i64 ((F.getD k 0 : Nat) : Int)) := by
  obtain ⟨ao, cap, rfl, h1, h2, h3, h4⟩ := h.first.ex
  have hl := h.ok.len
  obtain ⟨b, o, rfl, hb, hc⟩ := h4 (by intro e; rw [e] at hl; simp at hl)
  refine ⟨b, o, cap, by rw [hl], by omega, by simp only [maxLen] at h2; omega, hb, fun k hk => ?_⟩
  have := hc k (by omega) 0 (by omega)
  rw [List.getD_eq_getElem?_getD, List.getElem?_eq_getElem (by omega)]
  simpa [encN, eN] using this

theorem nodes_any (va vf : Value) (n : Nat) (A : List Ar) (F : List Nat) (w : World) (h : Gph w va vf n A F) : Calls Try.prog 33 #[.agg #[va, vf]] w fun e w' => e = .returned (.int .i64 (n : Int)) ∧ w' = w.alloc (.cells #[va, vf] 45) := by
  obtain ⟨ao, cap, rfl, -, -⟩ := h.arcs.form
  obtain ⟨b, o, c, rfl, h1, h2, -, -⟩ := h.firstLen
  have hn := h.big.2
  clear h
  go_enter Try.func33, Try.ntmps33
  go_wp2
  go_ret
  exact ⟨by congr 2, rfl⟩

/-- the arcs of a node, as a slice -/
structure Lv (w : World) (va : Value) (A : List Ar) (F : List Nat) (k : Nat) (v : Value) : Prop where
  rd : Rd encA 3 w v (outL A F k)
  own : ∀ x, v.ownBlock = some x → va.ownBlock = some x

theorem outL_len {n : Nat} {A : List Ar} {F : List Nat} (h : GrOk n A F) (k : Nat) (hk : k < n) : (outL A F k).length = F.getD (k + 1) 0 - F.getD k 0 := by
  have := h.le (k + 1) hk
  unfold outL
  rw [List.length_drop, List.length_take]
  omega

theorem Lv.of {w : World} {b o L cap p q : Nat} {A : List Ar} {F : List Nat} {k n : Nat} (h : Rd encA 3 w (.slice (some ⟨b, o, none⟩) A.length cap) A) (hok : GrOk n A F) (hk : k < n) (hp : F.getD k 0 = p) (hq : F.getD (k + 1) 0 = q) (hL : q - p = L) : Lv w (.slice (some ⟨b, o, none⟩) A.length cap) A F k (.slice (some ⟨b, o + p * 3, none⟩) L (cap - p)) := by
  have hl := outL_len hok k hk
  have h1 := hok.mono k hk
  have h2 := hok.le (k + 1) hk
  rw [hp, hq] at hl
  rw [hp, hq] at h1
  rw [hq] at h2
  refine ⟨?_, fun x hx => by simpa [Value.ownBlock] using hx⟩
  obtain ⟨ao, cap', he, g1, g2, g3, g4⟩ := h.ex
  simp at he
  obtain ⟨rfl, rfl⟩ := he
  refine ⟨some ⟨b, o + p * 3, none⟩, cap - p, by rw [hl, hL], by omega, by simp only [maxLen] at g2 ⊢; omega, (by intro h; cases h), fun hne => ?_⟩
  have hlp : 0 < (outL A F k).length := List.length_pos_iff.2 hne
  obtain ⟨b', o', he, hb, hc⟩ := g4 (by intro e; rw [e] at h2; simp at h2; omega)
  simp at he
  obtain ⟨rfl, rfl⟩ := he
  refine ⟨b, o + p * 3, rfl, hb, fun j hj i hi => ?_⟩
  have := hc (p + j) (by omega) i hi
  rw [Nat.add_mul, ← Nat.add_assoc] at this
  rw [this]
  congr 2
  have e : (outL A F k)[j]? = A[p + j]? := by
    unfold outL
    rw [hp, hq, List.getElem?_drop, List.getElem?_take_of_lt (by omega)]
  rw [List.getElem?_eq_getElem hj, List.getElem?_eq_getElem (by omega)] at e
  exact (Option.some.inj e).symm

theorem Lv.none {w : World} {va : Value} {A : List Ar} {F : List Nat} {k n : Nat} {ao : Option Addr} {cap : Nat} (hok : GrOk n A F) (hk : k < n) (he : F.getD k 0 = F.getD (k + 1) 0) (hc : cap ≤ maxLen) (h0 : ao = none → cap = 0) (hb : ∀ x, (Value.slice ao 0 cap).ownBlock = some x → va.ownBlock = some x) : Lv w va A F k (.slice ao 0 cap) := by
  have hl := outL_len hok k hk
  have h0' : outL A F k = [] := List.eq_nil_of_length_eq_zero (by omega)
  refine ⟨?_, hb⟩
  rw [h0']
  exact ⟨ao, cap, rfl, by simp, hc, h0, fun h => absurd rfl h⟩

set_option maxRecDepth 1000000 in
set_option maxHeartbeats 1000000 in
theorem leaving_any (va vf : Value) (n : Nat) (A : List Ar) (F : List Nat) (k : Nat) (w : World) (h : Gph w va vf n A F) (hk : k < n) : Calls Try.prog 38 #[.agg #[va, vf], .int .i64 (k : Int)] w fun e w' => ∃ v', e = .returned v' ∧ Lv w' va A F k v' ∧ Gw w w' := by
  obtain ⟨ao, cap, rfl, g1, g2, g3, g4⟩ := h.arcs.ex
  obtain ⟨b, o, c, rfl, h1, h2, hb, hc⟩ := h.firstLen
  have hn := h.big.2
  have hA := h.big.1
  have hok := h.ok
  have hm := hok.mono k hk
  have hle := hok.le (k + 1) hk
  have HLn : Hid (∀ w' ao' cap', F.getD k 0 = F.getD (k + 1) 0 → cap' ≤ maxLen → (ao' = none → cap' = 0) → (∀ x, (Value.slice ao' 0 cap').ownBlock = some x → (Value.slice ao A.length cap).ownBlock = some x) → Lv w' (.slice ao A.length cap) A F k (.slice ao' 0 cap')) := fun w' ao' cap' h1 h2 h3 h4 => Lv.none hok hk h1 h2 h3 h4
  have HRd : Hid (Rd encA 3 w (.slice ao A.length cap) A) := h.arcs
  have HOk : Hid (GrOk n A F) := hok
  have ck := hc k (by omega)
  have ck1 := hc (k + 1) (by omega)
  obtain ⟨p, hp⟩ : ∃ p, p = F.getD k 0 := ⟨_, rfl⟩
  obtain ⟨q, hq⟩ : ∃ q, q = F.getD (k + 1) 0 := ⟨_, rfl⟩
  rw [← hp] at ck hm
  rw [← hq] at ck1 hm hle
  have HP : Hid (p = F.getD k 0 ∧ q = F.getD (k + 1) 0) := ⟨hp, hq⟩
  simp only [maxLen] at g2
  have hki : (k : Int) < ((n : Int) + 1) := by omega
  have hki2 : (k : Int) + 1 < ((n : Int) + 1) := by omega
  obtain ⟨k1, HK1⟩ : ∃ k1 : Nat, Hid (k1 = k + 1) := ⟨_, show _ = _ from rfl⟩
  have hk1 : (k : Int) + 1 = (k1 : Int) := by have := HK1.out; omega
  have hk2 : IntKind.i64.wrap ((k : Int) + 1) = (k1 : Int) := by rw [wrap_ok _ (by omega) (by omega)]; exact hk1
  have hk3 : (k1 : Int) < ((n : Int) + 1) := by have := HK1.out; omega
  rw [← HK1.out] at ck1
  obtain ⟨n1, HN1⟩ : ∃ n1 : Nat, Hid (n1 = n + 1) := ⟨_, show _ = _ from rfl⟩
  have hpq : (p : Int) ≤ (q : Int) := by omega
  have hqc : (q : Int) ≤ (cap : Int) := by omega
  clear h hp hq hc hok
  by_cases hpc : cap = p
  · have hpqe : q = p := by omega
    subst hpqe
    subst hpc
    clear hm hle g1
    go_enter Try.func38, Try.ntmps38
    go_wp2
    go_quiet (fail)
    go_wp2
    go_ret
    refine ⟨_, rfl, HLn.out _ ao 0 (HP.out.1.symm.trans HP.out.2) (by simp [maxLen]) (fun _ => rfl) (fun x hx => ?_), (((Gw.refl w).alloc _).drewN _)⟩
    cases ao with
    | none => simp [Value.ownBlock] at hx
    | some a => simpa [Value.ownBlock] using hx
  · clear hm g4
    go_enter Try.func38, Try.ntmps38
    go_wp2
    go_quiet (fail)
    go_wp2
    go_ret
    refine ⟨_, rfl, ?_, (((Gw.refl w).alloc _).drewN _)⟩
    show Lv _ _ A F k (.slice (ao.map fun x => x.add (p * 3)) (q - p) (cap - p))
    cases ao with
    | none => exact absurd (g3 rfl) (by omega)
    | some a =>
      by_cases hA0 : A = []
      · subst hA0
        have hq0 : q = 0 := by simpa using hle
        have hp0 : p = 0 := by omega
        subst hq0 hp0
        refine HLn.out _ _ _ (HP.out.1.symm.trans HP.out.2) (by simp only [maxLen]; omega) (by intro h; cases h) (fun x hx => ?_)
        simp [Value.ownBlock, Addr.add] at hx ⊢
        exact hx
      · obtain ⟨ao', cap', he, _, _, _, hx⟩ := HRd.out.ex
        simp at he
        obtain ⟨rfl, rfl⟩ := he
        obtain ⟨b', o', he, -, -⟩ := hx hA0
        cases he
        have := Lv.of (HRd.out.keep (((Gw.refl w).alloc (.cells #[.slice (some ⟨b', o', none⟩) A.length cap, .slice (some ⟨b, o, none⟩) (n + 1) c] 45)).drewN nq).keep (Off.nil _)) HOk.out hk HP.out.1.symm HP.out.2.symm rfl
        show Lv _ _ A F k (.slice (some ((⟨b', o', none⟩ : Addr).add (p * 3))) (q - p) (cap - p))
        rw [Addr.add_lit]
        exact this
end Go.Proofs.Ytmlpkjeaieljfab

