/- One of each part: heads. -/
import Derived.Test.YtmlpkjeaieljfabHd
namespace Go.Proofs.Ytmlpkjeaieljfab
open Go.RowKit Go.PlainAid Go.Sort Go.Shelf
attribute [local go_sem] Oper.semAt_some

theorem Fx.grow {B bs bt bg bf bw fm : Nat} {cb : Array Value} {G R : List Nat} {va vf : Value} {n : Nat} {A : List Ar} {F : List Nat} {w w' : World} (h : Fx B bs bt bg bf bw fm cb G va vf n A F w) (k : Keep R w w') (hR : ∀ r ∈ R, B ≤ r) : Fx B bs bt bg bf bw fm cb G va vf n A F w' where
  cs := k.cell' h.cs (fun hm => by have h1 := hR _ hm; have h2 := (h.lt bs (by simp)).1; simp at h1; omega)
  ct := k.cell' h.ct (fun hm => by have h1 := hR _ hm; have h2 := (h.lt bt (by simp)).1; simp at h1; omega)
  cg0 := k.cell' h.cg0 (fun hm => by have h1 := hR _ hm; have h2 := (h.lt bg (by simp)).1; simp at h1; omega)
  cg1 := k.cell' h.cg1 (fun hm => by have h1 := hR _ hm; have h2 := (h.lt bg (by simp)).1; simp at h1; omega)
  cf := k.cell' h.cf (fun hm => by have h1 := hR _ hm; have h2 := (h.lt bf (by simp)).1; simp at h1; omega)
  gph := h.gph.keep k (fun x hx hm => by have := hR _ hm; have := (h.lt x (by simp [hx])).1; omega) (fun x hx hm => by have := hR _ hm; have := (h.lt x (by simp [hx])).1; omega)
  lt := h.lt
  bwB := h.bwB
  size := Nat.le_trans h.size k.size
  bwG := h.bwG
  ltG := h.ltG
theorem Wt.grow {B : Nat} {w w' : World} {bw : Nat} {W R : List Nat} (h : Wt B w bw W) (k : Keep R w w') (hN : ∀ r ∈ R, ¬ IsC w r) : Wt B w' bw W := by
  obtain ⟨v, h1, h2, h3⟩ := h.ex
  exact ⟨v, h1.keep k (fun hm => hN _ hm h1.isC), h2.keep k (fun x hx hm => hN _ hm (RowC.isC h2 x (by simp [hx]))), h3⟩
theorem Hh.grow {bh gh bc n : Nat} {cur : Int} {w w' : World} {h : List Int} {B : Nat} {R : List Nat} (hh : Hh bh gh bc n cur w h) (k : Keep R w w') (hR : ∀ r ∈ R, B ≤ r) (h1 : bh < B) (h2 : gh < B) (h3 : bc < B) : Hh bh gh bc n cur w' h :=
  ⟨k.cell' hh.box (fun hm => by have := hR _ hm; simp at this; omega), hh.arr.keep k (fun hm => by have := hR _ hm; omega), hh.bxc.keep k (fun hm => by have := hR _ hm; omega)⟩
theorem notC_of {W : World} {r : Nat} {o : Obj} (h : W.heap[r]? = some o) (ho : o.isCells = false) : ¬ IsC W r := by
  rintro ⟨c, t, f, h2⟩
  rw [h] at h2
  cases h2
  cases ho

/-- between two rounds of heads -/
structure Hq (B H bh gh bc bsp n : Nat) (A A2 : List Ar) (F2 D : List Nat) (va2 vf2 : Value) (w9 : World) (ok : Prop) (c : Nat) (W : World) : Prop where
  ex : ∃ (h : List Int) (cur : Int), Hh bh gh bc n cur W h ∧ (ok → HInv (Ec A) n (· ∈ D.drop (D.length - c)) h)
  fx : Fx B (H + 3) (H + 4) H (H + 1) (H + 2) 66 #[.pointer (some ⟨bh, 0, none⟩), .pointer (some ⟨bc, 0, none⟩)] [gh, bc] va2 vf2 n A2 F2 W
  wt : Wt B W (H + 2) []
  csp : W.cell? ⟨bsp, 0, none⟩ = some (.func (.func 54) #[] #[.pointer (some ⟨H + 3, 0, none⟩), .pointer (some ⟨H + 2, 0, none⟩), .pointer (some ⟨H, 0, none⟩), .pointer (some ⟨H + 4, 0, none⟩)])
  blk : ∀ k, k < B → k ∉ [H + 2, gh, bc] → W.heap[k]? = w9.heap[k]?
  oth : W.os = w9.os ∧ W.tape = w9.tape ∧ W.output = w9.output ∧ B ≤ W.heap.size
  bds : bh < B ∧ gh < B ∧ bc < B ∧ bsp < B

theorem Hq.grow {B H bh gh bc bsp n : Nat} {A A2 : List Ar} {F2 D : List Nat} {va2 vf2 : Value} {w9 : World} {ok : Prop} {c : Nat} {W W' : World} {row : Option Nat} (h : Hq B H bh gh bc bsp n A A2 F2 D va2 vf2 w9 ok c W) (hg : W.grownBy W' row) (hr : ∀ r, row = some r → B ≤ r ∧ ∃ o : Obj, W.heap[r]? = some o ∧ o.isCells = false) : Hq B H bh gh bc bsp n A A2 F2 D va2 vf2 w9 ok c W' := by
  have k := Keep.grown hg
  have hR : ∀ r ∈ row.toList, B ≤ r := fun r hm => (hr r (by simpa using hm)).1
  have hN : ∀ r ∈ row.toList, ¬ IsC W r := fun r hm => by
    obtain ⟨_, o, h1, h2⟩ := hr r (by simpa using hm)
    exact notC_of h1 h2
  obtain ⟨hl, cur, hh, hi⟩ := h.ex
  have hb := h.bds
  refine ⟨⟨hl, cur, hh.grow k hR hb.1 hb.2.1 hb.2.2.1, hi⟩, h.fx.grow k hR, h.wt.grow k hN, k.cell' h.csp (fun hm => by have := hR _ hm; simp at this; omega), fun i hi1 hi2 => ?_, ⟨k.os.trans h.oth.1, k.tape.trans h.oth.2.1, k.output.trans h.oth.2.2.1, Nat.le_trans h.oth.2.2.2 k.size⟩, hb⟩
  exact (k.block i (Nat.lt_of_lt_of_le hi1 h.oth.2.2.2) (fun hm => by have := hR _ hm; omega)).trans (h.blk i hi1 hi2)

theorem drop_next (D : List Nat) (c : Nat) (hc : c < D.length) (y : Nat) : y ∈ D.drop (D.length - (c + 1)) ↔ y ∈ D.drop (D.length - c) ∨ y = D.getD (D.length - 1 - c) 0 := by
  have h1 : D.length - (c + 1) < D.length := by omega
  rw [List.drop_eq_getElem_cons h1, show D.length - (c + 1) + 1 = D.length - c by omega, List.mem_cons, List.getD_eq_getElem?_getD, List.getElem?_eq_getElem (by omega)]
  simp only [Option.getD_some, show D.length - 1 - c = D.length - (c + 1) by omega]
  exact or_comm

theorem RM.congr {E E' : Nat → Nat → Prop} {M M' : Nat → Prop} (hE : ∀ a b, E a b ↔ E' a b) (hM : ∀ a, M a ↔ M' a) (s x : Nat) : RM E M s x ↔ RM E' M' s x := by
  have e1 : E = E' := funext fun a => funext fun b => propext (hE a b)
  have e2 : M = M' := funext fun a => propext (hM a)
  rw [e1, e2]

theorem Hq.next {B H bh gh bc bsp n : Nat} {A A2 : List Ar} {F2 D : List Nat} {va2 vf2 : Value} {w9 : World} {hDn : ∀ k ∈ D, k < n} {pre : List (Pl n)} {x : Pl n} {W W' : World} (h : Hq B H bh gh bc bsp n A A2 F2 D va2 vf2 w9 (pre <+: backL n D hDn) pre.length W) (hAr : ∀ a b, Ec A2 a b ↔ Ec A b a) (hnode : ∀ a ∈ A, a.f < n ∧ a.t < n) (hall : ∀ y, y ∈ D ↔ y < n) (hdf : Df (Ec A) D []) (hpl : pre.length < D.length)
    {hl : List Int} (hi : pre <+: backL n D hDn → HInv (Ec A) n (· ∈ D.drop (D.length - pre.length)) hl) {m : List Bool} (hT : TH bh gh bc n (x.1.2 : Int) hl W' m) (hw : Wt B W' (H + 2) []) (hm : ∀ y, Mk m y ↔ Mk (markH hl) y ∨ RM (Ec A2) (Mk (markH hl)) x.1.2 y) (kp : Kp B ((H + 2) :: [gh, bc]) (W.setCell ⟨bc, 0, none⟩ (.int .i64 (x.1.2 : Int))) W') (hbc : IsC W bc) (hbsp : bsp ∉ [H + 2, gh, bc]) :
    Hq B H bh gh bc bsp n A A2 F2 D va2 vf2 w9 (pre ++ [x] <+: backL n D hDn) (pre ++ [x]).length W' ∧ Kp B ((H + 2) :: [gh, bc]) W W' := by
  have k1 : Kp B ((H + 2) :: [gh, bc]) W (W.setCell ⟨bc, 0, none⟩ (.int .i64 (x.1.2 : Int))) := Kp.of (Keep.set1 W ⟨bc, 0, none⟩ _) h.oth.2.2.2 (fun y hy => .inl (by simp at hy; simp [hy])) (fun y hy => by simp at hy; subst hy; exact hbc)
  have kk := k1.trans kp
  have hb := h.bds
  refine ⟨⟨⟨mixH hl (x.1.2 : Int) m, (x.1.2 : Int), hT.mem, fun hpre => ?_⟩, h.fx.kp kk, hw, (kk.cell hb.2.2.2 hbsp).trans h.csp, fun i h1 h2 => (kk.block i h1 h2).trans (h.blk i h1 h2), ⟨kk.os.trans h.oth.1, kk.tape.trans h.oth.2.1, kk.output.trans h.oth.2.2.1, Nat.le_trans h.oth.2.2.2 kk.size⟩, hb⟩, kk⟩
  have hpre0 : pre <+: backL n D hDn := (List.prefix_append pre [x]).trans hpre
  have hinv := hi hpre0
  have hll := hT.len0
  have hbl := backL_len n D hDn
  have hxk : x.1 = (D.length - 1 - pre.length, D.getD (D.length - 1 - pre.length) 0) := by
    obtain ⟨t, ht⟩ := hpre
    have hj : pre.length < (backL n D hDn).length := by omega
    have e : (backL n D hDn)[pre.length] = x := by
      have : (backL n D hDn)[pre.length]? = some x := by rw [← ht]; simp
      rw [List.getElem?_eq_getElem hj] at this
      exact Option.some.inj this
    rw [← e]
    exact backL_get n D hDn pre.length hj
  have hk2 : x.1.2 = D.getD (D.length - 1 - pre.length) 0 := by rw [hxk]
  have hE : ∀ a b, Ec A a b → a < n ∧ b < n := by
    rintro a b ⟨y, hy, rfl, rfl⟩
    exact hnode y hy
  have hpos : D.length - 1 - pre.length < D.length := by omega
  have hsplit : D = D.take (D.length - 1 - pre.length) ++ x.1.2 :: D.drop (D.length - pre.length) := by
    conv => lhs; rw [← List.take_append_drop (D.length - 1 - pre.length) D]
    rw [List.drop_eq_getElem_cons hpos, show D.length - 1 - pre.length + 1 = D.length - pre.length by omega, hk2, List.getD_eq_getElem?_getD, List.getElem?_eq_getElem hpos]
    rfl
  have hMk : ∀ z, Mk (markH hl) z ↔ (z < n ∧ hl.getD z 0 ≠ -1) := fun z => by
    unfold Mk
    by_cases hz : z < n
    · rw [markH_get hl z (by omega)]
      simp [hz]
    · rw [List.getD_eq_getElem?_getD, List.getElem?_eq_none (by simp [markH]; omega)]
      simp [hz]
  have hnx := HInv.next hE hinv hll (k := x.1.2) x.2 (pre := D.take (D.length - 1 - pre.length)) (post := D.drop (D.length - pre.length)) (fun y hy => by rw [← hsplit]; exact (hall y).2 hy) (hdf.kos _ _ _ hsplit) (fun y hy => hy) (fun y hy => (hall y).1 (List.mem_of_mem_drop hy)) (m := m) (fun y hy => by
    rw [hm y, hMk y, RM.congr hAr hMk]
    simp [hy])
  have hset : (fun y => y ∈ D.drop (D.length - pre.length) ∨ y = x.1.2) = fun y => y ∈ D.drop (D.length - (pre ++ [x]).length) := by
    funext y
    rw [List.length_append, List.length_singleton, hk2]
    exact propext (drop_next D pre.length hpl y).symm
  rw [hset] at hnx
  exact hnx

/-- heads: the same for all of a part -/
def HdR (w w' : World) (v : Value) (n : Nat) (A : List Ar) : Prop := ∃ g h, v = .slice (some ⟨g, 0, none⟩) n n ∧ w.heap.size ≤ g ∧ Arr 3 eI w' g n h ∧ (∀ x, x < n → ∃ r : Nat, r < n ∧ h.getD x 0 = (r : Int)) ∧ (∀ x y, x < n → y < n → (h.getD x 0 = h.getD y 0 ↔ Mut (Ec A) x y)) ∧ Keep [] w w'

set_option maxRecDepth 1000000 in
set_option maxHeartbeats 8000000 in
theorem heads_own (va vf : Value) (n : Nat) (A : List Ar) (F : List Nat) (w : World) (hg : Gph w va vf n A F) (hva : ∀ x, va.ownBlock = some x → x < w.heap.size) (hvf : ∀ x, vf.ownBlock = some x → x < w.heap.size) :
    Calls Try.prog 46 #[.agg #[va, vf]] w fun e w' => ∃ v, e = .returned v ∧ HdR w w' v n A := by
  have hmf : ∀ (fn : Fn) (first cap : Array Value) (w : World), (Instr.makeFunc fn first cap).run Try.prog w = .ok (.func fn first cap) w := fun _ _ _ _ => rfl
  have hsf := store_func
  simp only [Go.stored] at hsf
  obtain ⟨a1, c1, rfl, -, -⟩ := hg.arcs.form
  obtain ⟨b2, o2, c2, rfl, -, -, -, -⟩ := hg.firstLen
  have hn := hg.big.2
  have HG : Hid (Gph w (.slice a1 A.length c1) (.slice (some ⟨b2, o2, none⟩) (n + 1) c2) n A F) := hg
  have HV : Hid ((∀ x, (Value.slice a1 A.length c1).ownBlock = some x → x < w.heap.size) ∧ (∀ x, (Value.slice (some ⟨b2, o2, none⟩) (n + 1) c2).ownBlock = some x → x < w.heap.size)) := ⟨hva, hvf⟩
  have HNo : Hid (∀ w', Keep [] w w' → Calls Try.prog 33 #[.agg #[.slice a1 A.length c1, .slice (some ⟨b2, o2, none⟩) (n + 1) c2]] w' fun e w2 => e = .returned (.int .i64 (n : Int)) ∧ w2 = w'.alloc (.cells #[.slice a1 A.length c1, .slice (some ⟨b2, o2, none⟩) (n + 1) c2] 45)) := fun w' k => nodes_any _ _ n A F _ (hg.keep k (Off.nil _) (Off.nil _))
  have HTu : Hid (∀ w', Keep [] w w' → Calls Try.prog 65 #[.agg #[.slice a1 A.length c1, .slice (some ⟨b2, o2, none⟩) (n + 1) c2]] w' fun e w2 => ∃ va2 vf2, e = .returned (.agg #[va2, vf2]) ∧ GphR w' w2 va2 vf2 n (A.map revA)) := fun w' k => turned_own _ _ n A F _ (hg.keep k (Off.nil _) (Off.nil _)) (fun x hx => Nat.lt_of_lt_of_le (hva x hx) k.size)
  have HEn : Hid (∀ w', Keep [] w w' → Calls Try.prog 67 #[.agg #[.slice a1 A.length c1, .slice (some ⟨b2, o2, none⟩) (n + 1) c2]] w' fun e w2 => ∃ v, e = .returned v ∧ EndR w' w2 v n A) := fun w' k => ends_own _ _ n A F _ (hg.keep k (Off.nil _) (Off.nil _)) (fun x hx => Nat.lt_of_lt_of_le (hva x hx) k.size) (fun x hx => Nat.lt_of_lt_of_le (hvf x hx) k.size)
  clear hg hva hvf
  refine (callsIn_wide (n := 6)).1 ?_
  refine callsIn_of_wp_marks Try.func46 rfl trivial ?_ rfl
  simp only [Try.ntmps46, List.size_toArray, List.length_cons, List.length_nil, Nat.reduceAdd, Nat.reduceSub, Array.replicate_succ, Array.replicate_zero, List.push_toArray, List.append_toArray, List.nil_append, List.cons_append]
  gi_wp2_with fail
  obtain ⟨h0, HH0⟩ : ∃ h0 : Nat, Hid (h0 = w.heap.size) := ⟨_, show _ = _ from rfl⟩
  refine ⟨trivial, (callsIn_wide.2 (HNo.out _ (((Keep.refl [] w).alloc _).alloc _))).mono ?_⟩
  rintro e w2 ⟨rfl, hw2⟩
  have hs2 : w2.heap.size = h0 + 3 := by rw [hw2, HH0.out]; simp
  have hcel : w2.cell? ⟨h0, 0, none⟩ = some (.slice a1 A.length c1) ∧ w2.cell? ⟨h0, 1, none⟩ = some (.slice (some ⟨b2, o2, none⟩) (n + 1) c2) ∧ w2.cell? ⟨h0 + 1, 0, none⟩ = some (.int .i64 (-1)) := by
    rw [hw2, HH0.out]
    have hb := blk_next (o' := .cells #[.slice a1 A.length c1, .slice (some ⟨b2, o2, none⟩) (n + 1) c2] 45) (blk_next (o' := .cells #[.int .i64 (-1)] 3) (heap_alloc_new w (.cells #[.slice a1 A.length c1, .slice (some ⟨b2, o2, none⟩) (n + 1) c2] 45)))
    have hb2 := blk_next (o' := .cells #[.slice a1 A.length c1, .slice (some ⟨b2, o2, none⟩) (n + 1) c2] 45) (heap_alloc_new (w.alloc (.cells #[.slice a1 A.length c1, .slice (some ⟨b2, o2, none⟩) (n + 1) c2] 45)) (.cells #[.int .i64 (-1)] 3))
    rw [show (w.alloc (.cells #[.slice a1 A.length c1, .slice (some ⟨b2, o2, none⟩) (n + 1) c2] 45)).heap.size = w.heap.size + 1 by simp] at hb2
    exact ⟨by simp only [World.cell?, hb]; rfl, by simp only [World.cell?, hb]; rfl, by simp only [World.cell?, hb2]; rfl⟩
  have k2 : Keep [] w w2 := by rw [hw2]; exact (((Keep.refl [] w).alloc _).alloc _).alloc _
  clear hw2 HNo
  obtain ⟨b1, HB1⟩ : ∃ b1 : Nat, Hid (b1 = h0 + 1) := ⟨_, show _ = _ from rfl⟩
  rw [← HB1.out] at hcel
  have HRp : Hid (∀ (_ : True), Calls Try.prog 47 #[.slice (some ⟨b1, 0, none⟩) 1 1, .int .i64 (n : Int)] w2 fun e w' => e = .returned (.slice (some ⟨w2.heap.size, 0, none⟩) n n) ∧ Arr 3 eI w' w2.heap.size n (List.replicate n (-1)) ∧ Keep [] w2 w') := fun _ => repeat_any b1 n (-1) w2 hcel.2.2 hn
  rw [← HH0.out, ← HB1.out]
  gi_wp2_with fail
  refine ⟨trivial, (callsIn_wide.2 (HRp.out trivial)).mono ?_⟩
  rintro e w3 ⟨rfl, ar3, k3⟩
  obtain ⟨gh, HGH⟩ : ∃ gh : Nat, Hid (gh = w2.heap.size) := ⟨_, show _ = _ from rfl⟩
  rw [← HGH.out] at ar3 ⊢
  have d0 : w3.cell? ⟨h0, 0, none⟩ = some (.slice a1 A.length c1) := k3.cell' hcel.1 (by simp)
  have d1 : w3.cell? ⟨h0, 1, none⟩ = some (.slice (some ⟨b2, o2, none⟩) (n + 1) c2) := k3.cell' hcel.2.1 (by simp)
  have hl3 : h0 < w3.heap.size := by have := k3.size; omega
  have H3 : Hid (Keep [] w w3 ∧ Arr 3 eI w3 gh n (List.replicate n (-1)) ∧ h0 + 3 = gh ∧ gh < w3.heap.size ∧ w.heap.size = h0) := ⟨k2.trans' k3, ar3, by rw [HGH.out, hs2], ar3.lt, HH0.out.symm⟩
  obtain ⟨bh, HBH⟩ : ∃ bh : Nat, Hid (bh = w3.heap.size) := ⟨_, show _ = _ from rfl⟩
  obtain ⟨bc, HBC⟩ : ∃ bc : Nat, Hid (bc = bh + 1) := ⟨_, show _ = _ from rfl⟩
  clear hcel k2 k3 ar3 hs2 HRp
  gi_wp2_with fail
  obtain ⟨W4, HW4⟩ : ∃ W4 : World, Hid (W4 = (w3.alloc (.cells #[.slice (some ⟨gh, 0, none⟩) n n] 28)).alloc (.cells #[.int .i64 (-1)] 3)) := ⟨_, show _ = _ from rfl⟩
  have k34 : Keep [] w3 W4 := by rw [HW4.out]; exact ((Keep.refl [] w3).alloc _).alloc _
  have H4 : Hid (W4.cell? ⟨bh, 0, none⟩ = some (.slice (some ⟨gh, 0, none⟩) n n) ∧ Bx W4 bc 3 (.int .i64 (-1)) ∧ W4.heap.size = bc + 1) := by
    have hb := blk_next (o' := .cells #[.int .i64 (-1)] 3) (heap_alloc_new w3 (.cells #[.slice (some ⟨gh, 0, none⟩) n n] 28))
    have hb2 := heap_alloc_new (w3.alloc (.cells #[.slice (some ⟨gh, 0, none⟩) n n] 28)) (.cells #[.int .i64 (-1)] 3)
    rw [show (w3.alloc (.cells #[.slice (some ⟨gh, 0, none⟩) n n] 28)).heap.size = w3.heap.size + 1 by simp] at hb2
    refine ⟨?_, ?_, ?_⟩
    · rw [HW4.out, HBH.out]; simp only [World.cell?, hb]; rfl
    · rw [HW4.out, HBC.out, HBH.out]; exact hb2
    · rw [HW4.out, HBC.out, HBH.out]; simp
  have f0 : W4.cell? ⟨h0, 0, none⟩ = some (.slice a1 A.length c1) := k34.cell' d0 (by simp)
  have f1 : W4.cell? ⟨h0, 1, none⟩ = some (.slice (some ⟨b2, o2, none⟩) (n + 1) c2) := k34.cell' d1 (by simp)
  rw [← HW4.out, ← HBH.out, ← HBC.out]
  refine ⟨trivial, (callsIn_wide.2 (HTu.out _ (H3.out.1.trans' k34))).mono ?_⟩
  rintro e w5 ⟨va2, vf2, rfl, gr⟩
  obtain ⟨A2, F2, p1, p2, p3, p4, p5⟩ := gr
  obtain ⟨a3, c3, rfl, -, -⟩ := p1.arcs.form
  obtain ⟨b4, o4, c4, rfl, -, -, -, -⟩ := p1.firstLen
  obtain ⟨H, HH⟩ : ∃ H : Nat, Hid (H = w5.heap.size) := ⟨_, show _ = _ from rfl⟩
  have HSp : Hid (∀ (_ : True), Calls Try.prog 40 #[.agg #[.slice a3 A2.length c3, .slice (some ⟨b4, o4, none⟩) (n + 1) c4], .func (.func 66) #[] #[.pointer (some ⟨bh, 0, none⟩), .pointer (some ⟨bc, 0, none⟩)]] w5 fun e w' => e = .returned (.func (.func 54) #[] #[.pointer (some ⟨H + 3, 0, none⟩), .pointer (some ⟨H + 2, 0, none⟩), .pointer (some ⟨H, 0, none⟩), .pointer (some ⟨H + 4, 0, none⟩)]) ∧ Spr w5 w' 66 #[.pointer (some ⟨bh, 0, none⟩), .pointer (some ⟨bc, 0, none⟩)] (.slice a3 A2.length c3) (.slice (some ⟨b4, o4, none⟩) (n + 1) c4)) := fun _ => by
    have h := spreader_any (.slice a3 A2.length c3) (.slice (some ⟨b4, o4, none⟩) (n + 1) c4) 66 #[.pointer (some ⟨bh, 0, none⟩), .pointer (some ⟨bc, 0, none⟩)] w5 ⟨_, _, _, rfl⟩ ⟨_, _, _, rfl⟩
    rwa [← HH.out] at h
  have H5 : Hid (Gph w5 (.slice a3 A2.length c3) (.slice (some ⟨b4, o4, none⟩) (n + 1) c4) n A2 F2 ∧ Fresh W4 w5 (.slice a3 A2.length c3) ∧ Fresh W4 w5 (.slice (some ⟨b4, o4, none⟩) (n + 1) c4) ∧ (∀ a, a ∈ A2 ↔ a ∈ A.map revA) ∧ Keep [] W4 w5) := ⟨p1, p2, p3, p4, p5⟩
  have g0 : w5.cell? ⟨h0, 0, none⟩ = some (.slice a1 A.length c1) := p5.cell' f0 (by simp)
  have g1 : w5.cell? ⟨h0, 1, none⟩ = some (.slice (some ⟨b2, o2, none⟩) (n + 1) c2) := p5.cell' f1 (by simp)
  clear p1 p2 p3 p4 p5 HTu d0 d1
  gi_wp2_with fail
  refine ⟨trivial, (callsIn_wide.2 (HSp.out trivial)).mono ?_⟩
  rintro e w6 ⟨rfl, sp⟩
  have j0 : w6.cell? ⟨h0, 0, none⟩ = some (.slice a1 A.length c1) := sp.keep.cell' g0 (by simp)
  have j1 : w6.cell? ⟨h0, 1, none⟩ = some (.slice (some ⟨b2, o2, none⟩) (n + 1) c2) := sp.keep.cell' g1 (by simp)
  have hl6 : h0 < w6.heap.size := by have := sp.keep.size; have := H5.out.2.2.2.2.size; have := k34.size; omega
  have H6 : Hid (Spr w5 w6 66 #[.pointer (some ⟨bh, 0, none⟩), .pointer (some ⟨bc, 0, none⟩)] (.slice a3 A2.length c3) (.slice (some ⟨b4, o4, none⟩) (n + 1) c4)) := sp
  have KK6 : Hid (Keep [] w w6 ∧ Keep [] W4 w6 ∧ Keep [] w3 w6) := ⟨((H3.out.1.trans' k34).trans' H5.out.2.2.2.2).trans' sp.keep, H5.out.2.2.2.2.trans' sp.keep, (k34.trans' H5.out.2.2.2.2).trans' sp.keep⟩
  obtain ⟨bsp, HBS⟩ : ∃ bsp : Nat, Hid (bsp = w6.heap.size) := ⟨_, show _ = _ from rfl⟩
  clear sp g0 g1 HSp
  gi_wp2_with fail
  rw [← HBS.out]
  refine ⟨trivial, (callsIn_wide.2 (HEn.out _ (KK6.out.1.alloc _))).mono ?_⟩
  rintro e w8 ⟨v8, rfl, er⟩
  obtain ⟨D, nw, df, hall⟩ := er
  obtain ⟨a8, c8, rfl, -, -⟩ := (nw.row.rd encN_len).form
  have HBk : Hid (∀ (_ : True), Calls Try.prog 49 #[.slice a8 D.length c8] w8 fun e w' => e = .returned (.func (.func 74) #[] #[.pointer (some ⟨w8.heap.size, 0, none⟩)]) ∧ w' = w8.alloc (.cells #[.slice a8 D.length c8] 28)) := fun _ => backward_any a8 D.length c8 w8
  obtain ⟨bb, HBB⟩ : ∃ bb : Nat, Hid (bb = w8.heap.size) := ⟨_, show _ = _ from rfl⟩
  have H8 : Hid (Nw (w6.alloc (.cells #[.func (.func 54) #[] #[.pointer (some ⟨H + 3, 0, none⟩), .pointer (some ⟨H + 2, 0, none⟩), .pointer (some ⟨H, 0, none⟩), .pointer (some ⟨H + 4, 0, none⟩)]] 63)) w8 (.slice a8 D.length c8) D ∧ Df (Ec A) D [] ∧ ∀ x, x ∈ D ↔ x < n) := ⟨nw, df, hall⟩
  clear nw df hall HEn j0 j1
  gi_wp2_with fail
  refine ⟨trivial, (callsIn_wide.2 (HBk.out trivial)).mono ?_⟩
  rintro e w9 ⟨rfl, hw9⟩
  rw [← HBB.out]
  have HW9 : Hid (w9 = w8.alloc (.cells #[.slice a8 D.length c8] 28)) := hw9
  clear hw9 HBk
  have hDn : ∀ k ∈ D, k < n := fun k hk => (H8.out.2.2 k).1 hk
  obtain ⟨B, HB⟩ : ∃ B : Nat, Hid (B = w9.heap.size) := ⟨_, show _ = _ from rfl⟩
  have HQ0 : Hid (Hq B H bh gh bc bsp n A A2 F2 D (.slice a3 A2.length c3) (.slice (some ⟨b4, o4, none⟩) (n + 1) c4) w9 ([] <+: backL n D hDn) 0 w9 ∧ Bk bb (.slice a8 D.length c8) D w9 ∧ (w.heap.size ≤ h0 ∧ h0 < gh ∧ gh < bh ∧ bh < bc ∧ bc < H ∧ H + 4 < bsp ∧ bsp < bb ∧ bb < B) ∧ Keep [] w w9 ∧ (∀ x, (Value.slice a8 D.length c8).ownBlock = some x → bsp < x ∧ x < B)) := by
    have h3 := H3.out
    have h4 := H4.out
    have h5 := H5.out
    have h6 := H6.out
    have h8 := H8.out
    have kk := KK6.out
    have e5 : w5.heap.size = H := HH.out.symm
    have e6 : w6.heap.size = bsp := HBS.out.symm
    have e8 : w8.heap.size = bb := HBB.out.symm
    have e9 : w9.heap.size = bb + 1 := by rw [HW9.out, ← e8]; simp
    have eB := HB.out
    have s4 := h4.2.2
    have s6 := h6.size
    have s5 := h5.2.2.2.2.size
    have k68 : Keep [] w6 w8 := (Keep.alloc1 w6 _).trans' h8.1.keep
    have s8 := h8.1.keep.size
    simp at s8
    have k89 : Keep [] w8 w9 := by rw [HW9.out]; exact Keep.alloc1 w8 _
    have k69 : Keep [] w6 w9 := k68.trans' k89
    have g3 := h3.2.2.2.1
    have eb := HBH.out
    have ec := HBC.out
    have hcs := k69.cell' h6.cs (by simp)
    have hct := k69.cell' h6.ct (by simp)
    have hg0 := k69.cell' h6.cg0 (by simp)
    have hg1 := k69.cell' h6.cg1 (by simp)
    have hcf := k69.cell' h6.cf (by simp)
    have hbx := h6.bx.keep k69 (by simp)
    rw [e5] at hcs hct hg0 hg1 hcf hbx
    have hsp : w9.cell? ⟨bsp, 0, none⟩ = some (.func (.func 54) #[] #[.pointer (some ⟨H + 3, 0, none⟩), .pointer (some ⟨H + 2, 0, none⟩), .pointer (some ⟨H, 0, none⟩), .pointer (some ⟨H + 4, 0, none⟩)]) := by
      refine (h8.1.keep.trans' k89).cell' ?_ (by simp)
      have := heap_alloc_new w6 (.cells #[.func (.func 54) #[] #[.pointer (some ⟨H + 3, 0, none⟩), .pointer (some ⟨H + 2, 0, none⟩), .pointer (some ⟨H, 0, none⟩), .pointer (some ⟨H + 4, 0, none⟩)]] 63)
      rw [e6] at this
      simp only [World.cell?, this]
      rfl
    have hbb : w9.cell? ⟨bb, 0, none⟩ = some (.slice a8 D.length c8) := by
      have := heap_alloc_new w8 (.cells #[.slice a8 D.length c8] 28)
      rw [e8, ← HW9.out] at this
      simp only [World.cell?, this]
      rfl
    refine ⟨⟨⟨List.replicate n (-1), -1, ⟨(kk.2.1.trans' k69).cell' h4.1 (by simp), h3.2.1.keep (kk.2.2.trans' k69) (by simp), h4.2.1.keep (kk.2.1.trans' k69) (by simp)⟩, fun _ => ⟨fun x hx => .inl ?_, fun x y hx hy hne => absurd ?_ hne, fun x hx => by simp at hx⟩⟩, ⟨hcs, hct, hg0, hg1, hcf, (h5.1.keep h6.keep (Off.nil _) (Off.nil _)).keep k69 (Off.nil _) (Off.nil _), fun x hx => ?_, by omega, by omega, by simp; omega, fun x hx => by simp at hx; omega⟩, ⟨_, hbx, Rw.nil 3 encN 1 _, fun x hx => by simp [Value.ownBlock] at hx⟩, hsp, fun _ _ _ => rfl, ⟨rfl, rfl, rfl, by omega⟩, by omega⟩, ⟨hbb, (h8.1.row.rd encN_len).keep k89 (Off.nil _)⟩, by omega, kk.1.trans' k69, fun x hx => ?_⟩
    · rw [List.getD_eq_getElem?_getD, List.getElem?_replicate, if_pos hx]; rfl
    · rw [List.getD_eq_getElem?_getD, List.getElem?_replicate, if_pos hx]; rfl
    · rcases hx with rfl | rfl | rfl | rfl | hx | hx
      · simp; omega
      · simp; omega
      · simp; omega
      · simp; omega
      · have := h5.2.1 x hx
        simp; omega
      · have := h5.2.2.1 x hx
        simp; omega
    · have h1 := h8.1.new x hx
      have h2 := h8.1.row.lt x hx
      simp at h1
      omega
  have hDl : D.length ≤ 100000 := by
    have := nodup_len (n := n) (l := D) (by simpa using H8.out.2.1.nodup) hDn
    omega
  have HAr : Hid (∀ a b, Ec A2 a b ↔ Ec A b a) := fun a b => by
    constructor
    · rintro ⟨x, hx, h1, h2⟩
      obtain ⟨y, hy, rfl⟩ := List.mem_map.1 ((H5.out.2.2.2.1 x).1 hx)
      exact ⟨y, hy, h2, h1⟩
    · rintro ⟨y, hy, h1, h2⟩
      exact ⟨revA y, (H5.out.2.2.2.1 _).2 (List.mem_map.2 ⟨y, hy, rfl⟩), h2, h1⟩
  gi_wp2
  refine wpIn_rangeFunc_ownG (w := w9) rfl (by omega) (gf := 74) (lb := #[.pointer (some ⟨bb, 0, none⟩)]) rfl trivial (enters_of Try.func74 (by kernel_rfl) rfl)
    (back_stops n 5 (by omega) bb a8 c8 D hDn w9 HQ0.out.2.1 hDl) (fun h k => ⟨h.1.trans k.1, Nat.le_trans h.2 k.2⟩) ?kb (Below.refl _ _) (fun _ => rfl)
    (fun pre W => Hq B H bh gh bc bsp n A A2 F2 D (.slice a3 A2.length c3) (.slice (some ⟨b4, o4, none⟩) (n + 1) c4) w9 (pre <+: backL n D hDn) pre.length W) (fun _ _ _ => False)
    (fun s A B row hs hg hr => hs.grow hg (fun r e => by rw [HB.out]; exact hr r e)) (fun _ _ _ _ _ hs _ _ => hs) HQ0.out.1
    (fun x => { tmps := #[.agg #[.slice a1 A.length c1, .slice (some ⟨b2, o2, none⟩) (n + 1) c2], .pointer (some ⟨h0, 0, none⟩), .slice none 0 0, .pointer (some ⟨bh, 0, none⟩), .pointer (some ⟨bc, 0, none⟩), .pointer (some ⟨bsp, 0, none⟩), undef, .int .i64 (x.1.2 : Int), .slice (some ⟨b1, 0, none⟩) 1 1, .agg #[.slice a1 A.length c1, .slice (some ⟨b2, o2, none⟩) (n + 1) c2], .int .i64 (n : Int), .slice (some ⟨gh, 0, none⟩) n n, .agg #[.slice a1 A.length c1, .slice (some ⟨b2, o2, none⟩) (n + 1) c2], .agg #[.slice a3 A2.length c3, .slice (some ⟨b4, o4, none⟩) (n + 1) c4], .func (.func 66) #[] #[.pointer (some ⟨bh, 0, none⟩), .pointer (some ⟨bc, 0, none⟩)], (.func (.func 54) #[] #[.pointer (some ⟨H + 3, 0, none⟩), .pointer (some ⟨H + 2, 0, none⟩), .pointer (some ⟨H, 0, none⟩), .pointer (some ⟨H + 4, 0, none⟩)]), .agg #[.slice a1 A.length c1, .slice (some ⟨b2, o2, none⟩) (n + 1) c2], .slice a8 D.length c8, .func (.func 74) #[] #[.pointer (some ⟨bb, 0, none⟩)], .int .i64 (x.1.1 : Int), .int .i64 (x.1.2 : Int), undef, undef, undef, undef, undef], defers := [] }) ?assign ?body ?done ?stop
  case kb =>
    intro W l o o' hl ho _ _
    have hz := HQ0.out.2.2
    rw [← HB.out] at hl
    refine ⟨fun k hk => World.putObj_heap_other (fun e => ?_), by simp⟩
    rcases hk with rfl | hk
    · omega
    · have := hz.2.2 k hk
      omega
  case assign =>
    intro l x W K hK
    simp only [encs2]
    gi_wp2
    exact hK
  case stop =>
    rintro D c pre W _ _ h _
    exact h.elim
  case body =>
    rintro l pre x W hI hpl
    obtain ⟨hl, cur, hh, hi⟩ := hI.ex
    obtain ⟨z1, z2, z3, z4, z5, z6, z7, z8⟩ := HQ0.out.2.2.1
    have hN : Hid (Kp B ((H + 2) :: [gh, bc]) W (W.setCell ⟨bc, 0, none⟩ (.int .i64 (x.1.2 : Int)))) := Kp.of (Keep.set1 W ⟨bc, 0, none⟩ _) hI.oth.2.2.2 (fun y hy => .inl (by simp at hy; simp [hy])) (fun y hy => by simp at hy; subst hy; exact hh.bxc.isC)
    have c0 := hh.bxc.cell
    have f0 := hh.bxc.free
    have c1 : (W.setCell ⟨bc, 0, none⟩ (.int .i64 (x.1.2 : Int))).cell? ⟨bsp, 0, none⟩ = some (.func (.func 54) #[] #[.pointer (some ⟨H + 3, 0, none⟩), .pointer (some ⟨H + 2, 0, none⟩), .pointer (some ⟨H, 0, none⟩), .pointer (some ⟨H + 4, 0, none⟩)]) := (hN.out.cell (by omega) (by simp; omega)).trans hI.csp
    have HSx : Hid (∀ (_ : True), Calls Try.prog 54 #[.int .i64 (x.1.2 : Int), .pointer (some ⟨H + 3, 0, none⟩), .pointer (some ⟨H + 2, 0, none⟩), .pointer (some ⟨H, 0, none⟩), .pointer (some ⟨H + 4, 0, none⟩)] (W.setCell ⟨bc, 0, none⟩ (.int .i64 (x.1.2 : Int))) fun e w' => e = .returned (.tuple #[]) ∧ ∃ m', (TH bh gh bc n (x.1.2 : Int) hl w' m' ∧ Wt B w' (H + 2) []) ∧ (∀ y, Mk m' y ↔ Mk (markH hl) y ∨ RM (Ec A2) (Mk (markH hl)) x.1.2 y) ∧ Kp B ((H + 2) :: [gh, bc]) (W.setCell ⟨bc, 0, none⟩ (.int .i64 (x.1.2 : Int))) w') := fun _ => by
      have ks : Keep [bc] W (W.setCell ⟨bc, 0, none⟩ (.int .i64 (x.1.2 : Int))) := Keep.set1 W ⟨bc, 0, none⟩ _
      have hh1 : Hh bh gh bc n (x.1.2 : Int) (W.setCell ⟨bc, 0, none⟩ (.int .i64 (x.1.2 : Int))) hl := ⟨ks.cell' hh.box (by simp; omega), hh.arr.keep ks (by simp; omega), hh.bxc.set _⟩
      have hw1 : Wt B (W.setCell ⟨bc, 0, none⟩ (.int .i64 (x.1.2 : Int))) (H + 2) [] := by
        obtain ⟨v, g1, g2, g3⟩ := hI.wt.ex
        exact ⟨v, g1.keep ks (by simp; omega), g2.keep ks (fun y hy hm => by have := g3 y hy; simp at hm; omega), g3⟩
      exact spread_any (head_ok B (H + 2) bh gh bc n (x.1.2 : Int) hl (by omega) (by omega) (by omega) (by omega) (by omega) (by omega) (by omega) (by omega) (by omega)) (fun _ _ _ h1 h2 => h1.uniq (by omega) h2) x.1.2 (markH hl) _ x.2 (hI.fx.kp hN.out) (TH.start hh1) hw1
    have HJ : Hid (∀ w' m', TH bh gh bc n (x.1.2 : Int) hl w' m' → Wt B w' (H + 2) [] → (∀ y, Mk m' y ↔ Mk (markH hl) y ∨ RM (Ec A2) (Mk (markH hl)) x.1.2 y) → Kp B ((H + 2) :: [gh, bc]) (W.setCell ⟨bc, 0, none⟩ (.int .i64 (x.1.2 : Int))) w' → Hq B H bh gh bc bsp n A A2 F2 D (.slice a3 A2.length c3) (.slice (some ⟨b4, o4, none⟩) (n + 1) c4) w9 (pre ++ [x] <+: backL n D hDn) (pre ++ [x]).length w' ∧ Kp B ((H + 2) :: [gh, bc]) W w') := fun w' m' h1 h2 h3 h4 => hI.next HAr.out HG.out.ok.node H8.out.2.2 H8.out.2.1 hpl hi h1 h2 h3 h4 hh.bxc.isC (by simp; omega)
    clear hI hh hi
    gi_wp2_with fail
    refine ⟨trivial, (CallsIn.inRound l (callsIn_wide.2 (HSx.out trivial))).mono ?_⟩
    rintro e w10 ⟨rfl, m10, ⟨t10, wt10⟩, x10, k10⟩
    have hJ := HJ.out _ _ t10 wt10 x10 k10
    have HJJ : Hid (type_of% hJ) := hJ
    clear hJ t10 wt10 x10 k10 HSx HJ c0 f0 c1
    gi_wp2
    have kk := HJJ.out.2
    refine ⟨⟨kk.size, fun k o _ h1 h2 => kk.oth k o h1 h2⟩, ⟨fun i hi => ?_, kk.size⟩, HJJ.out.1⟩
    rcases hi with rfl | hi
    · exact kk.block _ (by omega) (by simp; omega)
    · have := HQ0.out.2.2.2.2 i hi
      exact kk.block _ (by omega) (by simp; omega)
  case done =>
    rintro Dd xs W hBd rfl hI hK
    obtain ⟨hl, cur, hh, hi⟩ := hI.ex
    have c0 := hh.box
    have HE : Hid (∀ W', W.grownBy W' (some Dd) → HdR w W' (.slice (some ⟨gh, 0, none⟩) n n) n A) := fun W' hg => by
      obtain ⟨z1, z2, z3, z4, z5, z6, z7, z8⟩ := HQ0.out.2.2.1
      have k := Keep.grown hg
      have hR : ∀ r ∈ (some Dd).toList, B ≤ r := fun r hm => by simp at hm; subst hm; rw [HB.out]; exact hBd
      have hinv := hi (List.prefix_refl _)
      rw [backL_len, Nat.sub_self, List.drop_zero] at hinv
      have kw : Keep [] w W := by
        have k9 := HQ0.out.2.2.2.1
        have ho := hI.oth
        refine ⟨ho.1.trans k9.os, ho.2.1.trans k9.tape, ho.2.2.1.trans k9.output, by omega, fun i h1 h2 => (hI.blk i (by omega) (by simp; omega)).trans (k9.block i h1 h2)⟩
      have hroot : ∀ x, x < n → ∃ r : Nat, r < n ∧ hl.getD x 0 = (r : Int) ∧ Mut (Ec A) r x := fun x hx => by
        rcases hinv.root x hx with h1 | h1
        · exact absurd h1 (hinv.done x ((H8.out.2.2 x).2 hx))
        · exact h1
      refine ⟨gh, hl, rfl, by omega, (hh.grow k hR hI.bds.1 hI.bds.2.1 hI.bds.2.2.1).arr, fun x hx => ?_, fun x y hx hy => ⟨fun e => ?_, fun hm => ?_⟩, kw.more k (fun r hr => .inr (by have := hR r hr; omega))⟩
      · obtain ⟨r, h1, h2, _⟩ := hroot x hx
        exact ⟨r, h1, h2⟩
      · obtain ⟨r, _, h2, h3⟩ := hroot x hx
        obtain ⟨r', _, h2', h3'⟩ := hroot y hy
        have : r = r' := by omega
        subst this
        exact h3.symm.trans h3'
      · exact (hinv.shut x y hx hy (hinv.done x ((H8.out.2.2 x).2 hx)) hm).symm
    clear hI hh hi
    gi_wp2
    refine ⟨by simp, .inl ⟨_, _, rfl, run_takeDeferred hK, ?_⟩⟩
    exact ⟨_, results_tmp rfl _ _ _, _, rfl, HE.out _ (grownBy_putObj' W Dd _)⟩
end Go.Proofs.Ytmlpkjeaieljfab

