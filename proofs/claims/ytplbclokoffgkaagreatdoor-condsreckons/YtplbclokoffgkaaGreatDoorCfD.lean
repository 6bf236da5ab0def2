/- Conditions: settle, of worths. -/
import Derived.Test.YtplbclokoffgkaaGreatDoorCfB
import Derived.OwnWalk
namespace Go.Proofs.YtplbclokoffgkaaGreatDoor
open Go.RowKit Go.PlainAid Go.Shelf
attribute [local go_sem] Oper.semAt_some
theorem infoW : (Tryz.prog.info? 60).map (fun i => (i.zero, i.size, i.bytes)) = some (some .nilIface, 1, 16) := by kernel_rfl
theorem Wo.cells_enc (x : Wo) : x.enc.cells = #[x.enc] := by cases x <;> rfl
theorem step_storeW {ops : Array Oper} {o : Oper} {a : Act} {w : World} {K : Act → World → Prop} {Q : Exit → Act → World → Prop} {X : Prop} (hg : o.guard = none) (hd : o.dst = none) (p x : Operand) (ho : o.op = .store 60 p x) (b j : Nat) (v : Wo) (u : Value)
    (hp : a.eval p = .pointer (some ⟨b, j, none⟩)) (hx : a.eval x = v.enc) (hc : w.cell? ⟨b, j, none⟩ = some u) (hf : w.frozen? ⟨b, j, none⟩ = false) (h : K a (w.setCell ⟨b, j, none⟩ v.enc)) :
    if Region.wanted o (yielded ops a.tmps) = true then Oper.wp Tryz.prog o a w K Q else X := by
  have hw : Region.wanted o (yielded ops a.tmps) = true := by simp [Region.wanted, hg]
  rw [if_pos hw]
  cases v <;> (simp only [Wo.enc] at hx h; unfold Oper.wp execOp; simp only [ho, hp, hx]; go_simp; simpa [hd, Act.put] using h)
theorem step_buildW {ops : Array Oper} {o : Oper} {a : Act} {w : World} {K : Act → World → Prop} {Q : Exit → Act → World → Prop} {X : Prop} (hg : o.guard = none) (x : Operand) (ho : o.op = .buildSlice 61 1 #[(0, x)]) (v : Wo)
    (hx : a.eval x = v.enc) (h : K (a.put o.dst (.slice (some ⟨w.heap.size, 0, none⟩) 1 1)) (w.alloc (.cells #[v.enc] 60))) :
    if Region.wanted o (yielded ops a.tmps) = true then Oper.wp Tryz.prog o a w K Q else X := by
  have hw : Region.wanted o (yielded ops a.tmps) = true := by simp [Region.wanted, hg]
  rw [if_pos hw]
  cases v <;> (simp only [Wo.enc] at hx h; unfold Oper.wp execOp; simp only [ho]; simp [hx]; go_simp; exact h)
/-- where settle stands when j have come: its own memory lies at H, H + 1, G, G + 1 -/
structure Stwo (w : World) (H G n : Nat) (cl : Value) (vals : List Wo) (R : List Nat) (P : Nat → World → Prop) (j : Nat) (s : List Wo) (W : World) : Prop where
  one : W.heap[H]? = some (.cells #[cl] 80 (0, 0))
  all : RowC W 60 1 (.slice (some ⟨H + 1, 0, none⟩) n n) n ((allF Wo.no vals n j).map Wo.enc)
  ab : W.heap[G]? = some (.cells #[.slice (some ⟨H + 1, 0, none⟩) n n] 61 (0, 0))
  fr : ∃ ao cap, W.heap[G + 1]? = some (.cells #[.slice ao s.length cap] 61 (0, 0)) ∧ RowC W 60 1 (.slice ao s.length cap) s.length (s.reverse.map Wo.enc) ∧ ∀ k, (Value.slice ao s.length cap).ownBlock = some k → G + 5 ≤ k
  P : P j W
  kp : Keep R w W
theorem Stwo.keep {w : World} {H G n : Nat} {cl : Value} {vals : List Wo} {R : List Nat} {P : Nat → World → Prop} {j : Nat} {s : List Wo} {W W' : World} {D : List Nat} (h : Stwo w H G n cl vals R P j s W) (hH : w.heap.size ≤ H ∧ H + 2 ≤ G)
    (hPk : ∀ j W W' G, P j W → Keep G W W' → (∀ g ∈ G, w.heap.size ≤ g) → P j W') (k : Keep D W W') (hG : ∀ g ∈ D, G + 2 ≤ g ∧ g < G + 5) : Stwo w H G n cl vals R P j s W' := by
  have blk : ∀ i o, i < G + 2 → W.heap[i]? = some o → W'.heap[i]? = some o := fun i o hi ho => (k.block _ (Array.getElem?_eq_some_iff.1 ho).1 (fun hm => by have := (hG _ hm).1; omega)).trans ho
  obtain ⟨ao, cap, h1, h2, h3⟩ := h.fr
  refine ⟨blk _ _ (by omega) h.one, h.all.keep k (fun x hx hm => ?_), blk _ _ (by omega) h.ab, ⟨ao, cap, blk _ _ (by omega) h1, h2.keep k (fun x hx hm => ?_), h3⟩, hPk j W W' D h.P k (fun g hg => by have := (hG g hg).1; omega), h.kp.more k (fun x hx => .inr (by have := (hG x hx).1; omega))⟩
  · simp [Value.ownBlock] at hx
    have := (hG x hm).1
    omega
  · have := h3 x hx
    have := (hG x hm).2
    omega
theorem one_cell_wo {W : World} {b : Nat} {u : Value} {t : TypeId} (h : W.heap[b]? = some (.cells #[u] t (0, 0))) : W.cell? ⟨b, 0, none⟩ = some u ∧ W.frozen? ⟨b, 0, none⟩ = false := by
  constructor
  · unfold World.cell?; rw [h]; rfl
  · unfold World.frozen?; rw [h]; rfl
theorem two_cell_wo {W : World} {b : Nat} {u v : Value} {t : TypeId} (h : W.heap[b]? = some (.cells #[u, v] t (0, 0))) : W.cell? ⟨b, 0, none⟩ = some u ∧ W.cell? ⟨b, 1, none⟩ = some v ∧ W.frozen? ⟨b, 0, none⟩ = false ∧ W.frozen? ⟨b, 1, none⟩ = false := by
  refine ⟨?_, ?_, ?_, ?_⟩
  · unfold World.cell?; rw [h]; rfl
  · unfold World.cell?; rw [h]; rfl
  · unfold World.frozen?; rw [h]; rfl
  · unfold World.frozen?; rw [h]; rfl

theorem src_wo (w : World) (v : Wo) : Src Tryz.prog 1 61 (.slice (some ⟨w.heap.size, 0, none⟩) 1 1) 1 [(v).enc] (w.alloc (.cells #[(v).enc] 60)) := by
  have hb : (w.alloc (.cells #[(v).enc] 60)).heap[w.heap.size]? = some (.cells #[(v).enc] 60 (0, 0)) := heap_alloc_new' w _
  refine Src.ofSlice _ Tryz.underlying61 ⟨w.heap.size, 0, none⟩ 1 1 [(v).enc] rfl (fun j u hu => ?_) (fun u hu => ?_)
  · have hj : j < 1 := by
      have := (List.getElem?_eq_some_iff.1 hu).1
      simpa using this
    match j, hj with
    | 0, _ => simp at hu; subst hu; exact (one_cell_wo hb).1
  · simp at hu
    subst hu
    exact v.one
theorem rev_top_wo (s : List Wo) (q t : Nat) (h : s.length = q + t + 1) : (s.reverse.map Wo.enc)[t]? = some (s.getD q Wo.no).enc := by
  have hq : q < s.length := by omega
  rw [List.getElem?_map, List.getElem?_reverse (by omega), show s.length - 1 - t = q by omega, List.getElem?_eq_getElem hq, List.getD_eq_getElem?_getD, List.getElem?_eq_getElem hq]
  rfl
theorem rev_drop_wo (s : List Wo) (q m : Nat) (h : s.length = q + m) : (s.reverse.map Wo.enc).take (m * 1) = (s.drop q).reverse.map Wo.enc := by
  rw [Nat.mul_one, ← List.map_take, List.take_reverse, show s.length - m = q by omega]

set_option maxRecDepth 1000000 in
set_option maxHeartbeats 6400000 in
theorem settle_wo (xs : List Pt) (vals : List Wo) (ao : Option Addr) (cap : Nat) (C B : Nat) (R : List Nat) (P : Nat → World → Prop) (w : World)
    (hx : Pp w (.slice ao xs.length cap) xs) (hn : xs.length ≤ 100) (hvl : vals.length = xs.length)
    (hst : ∀ j i, i + j + 1 = xs.length → (hi : i < xs.length) → mdN xs[i].kind ≤ (stkF Wo.no (xs.map Pt.kind) vals j).length) (hsl : ∀ j, j ≤ xs.length → (stkF Wo.no (xs.map Pt.kind) vals j).length ≤ 100)
    (hP0 : P 0 w) (hPk : ∀ j W W' G, P j W → Keep G W W' → (∀ g ∈ G, w.heap.size ≤ g) → P j W') (hR : ∀ r ∈ R, r < w.heap.size) (hRv : ∀ b, (Value.slice ao xs.length cap).ownBlock = some b → b ∉ R ∧ b < w.heap.size)
    (hC : ∀ j i W, i + j + 1 = xs.length → (hi : i < xs.length) → P j W → Calls Tryz.prog 23 #[.int .i64 (i : Int), .agg #[(popK Wo.no (mdN xs[i].kind) (stkF Wo.no (xs.map Pt.kind) vals j) 0).enc, (popK Wo.no (mdN xs[i].kind) (stkF Wo.no (xs.map Pt.kind) vals j) 1).enc], .pointer (some ⟨C, 0, none⟩), .pointer (some ⟨B, 0, none⟩)] W fun e W' => e = .returned (vals.getD i Wo.no).enc ∧ P (j + 1) W' ∧ Keep R W W') :
    Calls Tryz.prog 22 #[.slice ao xs.length cap, (.func (.func 23) #[] #[.pointer (some ⟨C, 0, none⟩), .pointer (some ⟨B, 0, none⟩)])] w fun e w' => ∃ g c, e = .returned (.slice (some ⟨g, 0, none⟩) xs.length c) ∧ w.heap.size ≤ g ∧ (∀ i, i < xs.length → w'.cell? ⟨g, i, none⟩ = some (vals.getD i Wo.no).enc) ∧ P xs.length w' ∧ Keep R w w' := by
  obtain ⟨iE, hiE, hzE, hsE, hyE⟩ := info_parts infoW
  have HX : Hid (Pp w (.slice ao xs.length cap) xs) := hx
  have HST : Hid ((∀ j i, i + j + 1 = xs.length → (hi : i < xs.length) → mdN xs[i].kind ≤ (stkF Wo.no (xs.map Pt.kind) vals j).length) ∧ ∀ j, j ≤ xs.length → (stkF Wo.no (xs.map Pt.kind) vals j).length ≤ 100) := ⟨hst, hsl⟩
  have HP : Hid (P 0 w ∧ (∀ j W W' G, P j W → Keep G W W' → (∀ g ∈ G, w.heap.size ≤ g) → P j W') ∧ (∀ r ∈ R, r < w.heap.size) ∧ (∀ b, (Value.slice ao xs.length cap).ownBlock = some b → b ∉ R ∧ b < w.heap.size)) := ⟨hP0, hPk, hR, hRv⟩
  have HC : Hid (∀ j i W, i + j + 1 = xs.length → (hi : i < xs.length) → P j W → Calls Tryz.prog 23 #[.int .i64 (i : Int), .agg #[(popK Wo.no (mdN xs[i].kind) (stkF Wo.no (xs.map Pt.kind) vals j) 0).enc, (popK Wo.no (mdN xs[i].kind) (stkF Wo.no (xs.map Pt.kind) vals j) 1).enc], .pointer (some ⟨C, 0, none⟩), .pointer (some ⟨B, 0, none⟩)] W fun e W' => e = .returned (vals.getD i Wo.no).enc ∧ P (j + 1) W' ∧ Keep R W W') := hC
  have HVL : Hid (vals.length = xs.length ∧ xs.length ≤ 100) := ⟨hvl, hn⟩
  clear hx hst hsl hP0 hPk hR hRv hC hvl hn
  have HB2 : Hid (iE.bytes * xs.length ≤ 281474976710656) := show iE.bytes * xs.length ≤ 281474976710656 by rw [hyE]; have := HVL.out.2; omega
  have HB3 : Hid (xs.length ≤ maxLen) := show xs.length ≤ maxLen by simp only [maxLen]; have := HVL.out.2; omega
  obtain ⟨H, HH⟩ : ∃ H : Nat, Hid (H = w.heap.size) := ⟨_, show _ = _ from rfl⟩
  refine (callsIn_wide (n := 6)).1 ?_
  refine callsIn_of_wp_marks Tryz.func22 rfl trivial ?_ rfl
  simp only [Tryz.ntmps22, List.size_toArray, List.length_cons, List.length_nil, Nat.reduceAdd, Nat.reduceSub, Array.replicate_succ, Array.replicate_zero, List.push_toArray, List.append_toArray, List.nil_append, List.cons_append]
  refine wpIn_wide.2 ?_
  go_wp2_with (at_make; refine wpList_make_full _ rfl (.tmp 13) (.tmp 13) 61 rfl 0 60 iE .nilIface 1 Tryz.underlying61 hiE hzE hsE .i64 .i64 _ _ xs.length rfl rfl rfl rfl HB2.out HB3.out (Nat.zero_le _) ?_)
  intro w1 r1 r2
  have k1 : Keep [] (w.alloc (.cells #[(.func (.func 23) #[] #[.pointer (some ⟨C, 0, none⟩), .pointer (some ⟨B, 0, none⟩)])] 80)) w1 := Keep.mono (Keep.grown r2) (by simp)
  have b1 : w1.heap[H]? = some (.cells #[(.func (.func 23) #[] #[.pointer (some ⟨C, 0, none⟩), .pointer (some ⟨B, 0, none⟩)])] 80 (0, 0)) := by
    rw [HH.out]
    exact (k1.block _ (by simp) (by simp)).trans (heap_alloc_new' _ _)
  rw [toList_madeCells_one] at r1
  have r1' : RowC w1 60 1 (.slice (some ⟨H + 1, 0, none⟩) xs.length xs.length) xs.length ((allF Wo.no vals xs.length 0).map Wo.enc) := by
    rw [allF_zero _ _ _ HVL.out.1, List.map_replicate, HH.out]
    exact r1
  rw [← HH.out]
  have K1 : Keep [] w w1 := (Keep.alloc1 _ _).trans' k1
  have hz1 : H + 2 ≤ w1.heap.size := r1'.lt (H + 1) rfl
  have HW1 : Hid (w1.heap[H]? = some (.cells #[(.func (.func 23) #[] #[.pointer (some ⟨C, 0, none⟩), .pointer (some ⟨B, 0, none⟩)])] 80 (0, 0)) ∧ RowC w1 60 1 (.slice (some ⟨H + 1, 0, none⟩) xs.length xs.length) xs.length ((allF Wo.no vals xs.length 0).map Wo.enc) ∧ Keep [] w w1 ∧ H + 2 ≤ w1.heap.size) := ⟨b1, r1', K1, hz1⟩
  clear r1 r2 k1 b1 r1' K1 hz1 hiE hzE hsE hyE HB2 HB3
  obtain ⟨G, HG⟩ : ∃ G : Nat, Hid (G = w1.heap.size) := ⟨_, show _ = _ from rfl⟩
  go_wp2_with fail
  refine (backward_any ao xs.length cap _).mono ?_
  rintro e w3 ⟨rfl, hw3⟩
  simp only [World.size_alloc, Nat.add_assoc, Nat.reduceAdd]
  rw [← HG.out]
  have H3 : Hid (w3.heap.size = G + 3 ∧ Stwo w H G xs.length (.func (.func 23) #[] #[.pointer (some ⟨C, 0, none⟩), .pointer (some ⟨B, 0, none⟩)]) vals R P 0 (stkF Wo.no (xs.map Pt.kind) vals 0) w3 ∧ Bk (G + 2) (.slice ao xs.length cap) xs w3) := by
    have g := HG.out
    obtain ⟨p1, p2, p3, p4⟩ := HW1.out
    have ka : Keep [] w1 (w1.alloc (.cells #[.slice (some ⟨H + 1, 0, none⟩) xs.length xs.length] 61)) := Keep.alloc1 _ _
    have kb : Keep [] w1 w3 := by rw [hw3]; exact (ka.alloc _).alloc _
    have za : w3.heap.size = G + 3 := by rw [hw3]; simp [g]
    refine ⟨za, ⟨(kb.block _ (by omega) (by simp)).trans p1, p2.keep kb (Off.nil _), ?_, ⟨none, 0, ?_, World.ownsRow_nil _ _ _ _, fun k hk => by simp [Value.ownBlock] at hk⟩, HP.out.2.1 0 w w3 [] HP.out.1 (p3.trans' kb) (by simp), (p3.trans' kb).mono (by simp)⟩, ⟨?_, HX.out.keep0 (p3.trans' kb)⟩⟩
    · rw [hw3, g]
      exact (Below.heap_alloc _ _ _ (by simp only [World.size_alloc]; omega)).trans ((Below.heap_alloc _ _ _ (by simp)).trans (heap_alloc_new' _ _))
    · rw [hw3]
      refine (Below.heap_alloc _ _ _ (by simp only [World.size_alloc]; omega)).trans ?_
      have := heap_alloc_new' (w1.alloc (.cells #[.slice (some ⟨H + 1, 0, none⟩) xs.length xs.length] 61)) (.cells #[.slice none 0 0] 61)
      rw [World.size_alloc, ← g] at this
      exact this
    · have := heap_alloc_new' ((w1.alloc (.cells #[.slice (some ⟨H + 1, 0, none⟩) xs.length xs.length] 61)).alloc (.cells #[.slice none 0 0] 61)) (.cells #[.slice ao xs.length cap] 23)
      rw [World.size_alloc, World.size_alloc, ← g, ← hw3] at this
      exact (one_cell_wo (b := G + 2) this).1
  have HHG : Hid (w.heap.size ≤ H ∧ H + 2 ≤ G) := ⟨by rw [HH.out]; exact Nat.le_refl _, by rw [HG.out]; exact HW1.out.2.2.2⟩
  clear hw3 HW1 HG
  go_wp2_with fail
  obtain ⟨hz3, hS3, hB3⟩ := H3.out
  have HZ3 : Hid (w3.heap.size = G + 3) := hz3
  have hvb : ∀ b, (Value.slice ao xs.length cap).ownBlock = some b → b < w3.heap.size := fun b hb => Nat.lt_of_lt_of_le (HP.out.2.2.2 b hb).2 hS3.kp.size
  refine range_back (bb := G + 2) (ao := ao) (cap := cap) (xs := xs) (w := w3) rfl rfl hB3 (by have := HVL.out.2; omega) hvb ([w3.heap.size + 1, w3.heap.size, G + 2] ++ (Value.slice ao xs.length cap).ownBlock.toList) rfl
    (fun j W => Stwo w H G xs.length (.func (.func 23) #[] #[.pointer (some ⟨C, 0, none⟩), .pointer (some ⟨B, 0, none⟩)]) vals R P j (stkF Wo.no (xs.map Pt.kind) vals j) W ∧ G + 5 ≤ W.heap.size)
    (fun j W o h _ => ⟨h.1.keep HHG.out HP.out.2.1 (Keep.grown (grownBy_putObj' W (w3.heap.size + 1) o)) (fun g hg => by simp at hg; omega), by simpa [World.putObj] using h.2⟩)
    (fun o o' => ⟨hS3.keep HHG.out HP.out.2.1 ((Keep.alloc1 w3 o).alloc o') (by simp), by simp [hz3]⟩)
    (fun i x W0 => { tmps := #[.slice ao xs.length cap, (.func (.func 23) #[] #[.pointer (some ⟨C, 0, none⟩), .pointer (some ⟨B, 0, none⟩)]), undef, .pointer (some ⟨H, 0, none⟩), .slice none 0 0, .pointer (some ⟨G, 0, none⟩), .pointer (some ⟨G + 1, 0, none⟩), .int .i64 (i : Int), .pointer (some ⟨W0.heap.size, 0, none⟩), undef, undef, undef, .slice ao xs.length cap, .int .i64 (xs.length : Int), .slice (some ⟨H + 1, 0, none⟩) xs.length xs.length, .slice ao xs.length cap, .func (.func 60) #[] #[.pointer (some ⟨G + 2, 0, none⟩)], .int .i64 (i : Int), x.val, undef, undef, undef, undef, undef, undef, undef, undef, undef, undef, undef, undef, undef, undef, undef, undef, undef, undef, undef, undef, undef, undef, undef, undef, undef, undef, undef, undef, undef, undef, undef, undef, undef, undef], defers := [] }) (fun x W => W.alloc (.cells x.cells 36)) (fun x W => Keep.alloc1 _ _) (fun j x W h => ⟨h.1.keep HHG.out HP.out.2.1 (Keep.alloc1 _ _) (by simp), by simp; have := h.2; omega⟩) ?assign ?body ?done
  case assign =>
    intro l i x W K hK
    have hsf := store_f32
    simp only [Go.stored] at hsf
    gi_wp2
    exact hK
  case done =>
    rintro W ⟨hS, _⟩ hD
    clear H3 hS3 hB3 hvb HX HST HC hz3
    have HS : Hid (Stwo w H G xs.length (.func (.func 23) #[] #[.pointer (some ⟨C, 0, none⟩), .pointer (some ⟨B, 0, none⟩)]) vals R P xs.length (stkF Wo.no (xs.map Pt.kind) vals xs.length) W) := hS
    have HD : Hid (W.heap[w3.heap.size]? = some (.deferred (some []))) := hD
    obtain ⟨c0, -⟩ := one_cell_wo hS.ab
    clear hS hD
    go_wp2
    have hD := HD.out
    have hz := HZ3.out
    have p1 : Keep [w3.heap.size] W (W.putObj w3.heap.size (.deferred none)) := Keep.grown (grownBy_putObj' _ _ _)
    have hS := HS.out.keep HHG.out HP.out.2.1 p1 (by simp; omega)
    refine ⟨by simp, .inl ⟨_, _, rfl, run_takeDeferred hD, ?_⟩⟩
    refine ⟨_, by simp [results, Tryz.results22, go_sem], H + 1, xs.length, rfl, by have := HHG.out; omega, fun i hi => ?_, hS.P, hS.kp⟩
    have hr := hS.all
    rw [allF_all] at hr
    rcases hr.cases with ⟨h0, _⟩ | ⟨g, c, he, _, _, _, hc, _⟩
    · omega
    · simp at he
      obtain ⟨rfl, rfl⟩ := he
      rw [hc i (by omega), List.getElem?_map, List.getD_eq_getElem?_getD, List.getElem?_eq_getElem (by rw [HVL.out.1]; exact hi)]
      rfl
  case body =>
    intro j i W W0 hij hi hI hk0 hs0
    clear H3 hS3 hB3 hvb HX
    obtain ⟨hS, hGW⟩ := hI
    obtain ⟨s, HSs⟩ : ∃ s, Hid (s = stkF Wo.no (xs.map Pt.kind) vals j) := ⟨_, show _ = _ from rfl⟩
    rw [← HSs.out] at hS
    have hm := HST.out.1 j i hij hi
    have hs100 := HST.out.2 j (by omega)
    have hCj := fun W => HC.out j i W hij hi
    rw [← HSs.out] at hm hs100
    simp only [← HSs.out] at hCj
    have HNx : Hid (stkF Wo.no (xs.map Pt.kind) vals (j + 1) = vals.getD i Wo.no :: s.drop (mdN xs[i].kind)) := by
      show stkF Wo.no (xs.map Pt.kind) vals (j + 1) = _
      have e1 : (xs.map Pt.kind).length - 1 - j = i := by rw [List.length_map]; omega
      have e2 : (xs.map Pt.kind).getD i 0 = xs[i].kind := by rw [List.getD_eq_getElem?_getD, List.getElem?_map, List.getElem?_eq_getElem hi]; rfl
      rw [HSs.out]
      show vals.getD ((xs.map Pt.kind).length - 1 - j) Wo.no :: (stkF Wo.no (xs.map Pt.kind) vals j).drop (mdN ((xs.map Pt.kind).getD ((xs.map Pt.kind).length - 1 - j) 0)) = _
      rw [e1, e2]
    obtain ⟨v, HV⟩ : ∃ v : Wo, Hid (v = vals.getD i Wo.no) := ⟨_, show _ = _ from rfl⟩
    rw [← HV.out] at HNx
    simp only [← HV.out] at hCj
    have cx : W.cell? ⟨W0.heap.size, 0, none⟩ = some (.int .i64 xs[i].kind) := by
      refine hk0.cell' ?_ (by simp; omega)
      have := heap_alloc_new' W0 (.cells xs[i].cells 36)
      unfold World.cell?
      rw [this]
      rfl
    have HMd : Hid (∀ w9, Calls Tryz.prog 38 #[.int .i64 xs[i].kind] w9 fun e w' => e = .returned (.int .i64 (mdN xs[i].kind : Int)) ∧ w' = w9) := fun w9 => by
      have := made_any xs[i].kind w9
      rwa [mdN_eq] at this
    have hm2 := mdN_le xs[i].kind
    have HZs : Hid (W0.heap.size < W.heap.size ∧ G + 5 ≤ W0.heap.size) := ⟨by have := hk0.size; simp at this; omega, by omega⟩
    clear hk0
    generalize mdN xs[i].kind = m at *
    generalize xs[i] = x at *
    generalize W0.heap.size = Bx at *
    obtain ⟨a0, c0, f1, f2, f3⟩ := hS.fr
    have HS : Hid (Stwo w H G xs.length (.func (.func 23) #[] #[.pointer (some ⟨C, 0, none⟩), .pointer (some ⟨B, 0, none⟩)]) vals R P j s W) := hS
    have HF : Hid (W.heap[G + 1]? = some (.cells #[.slice a0 s.length c0] 61 (0, 0)) ∧ RowC W 60 1 (.slice a0 s.length c0) s.length (s.reverse.map Wo.enc) ∧ ∀ k, (Value.slice a0 s.length c0).ownBlock = some k → G + 5 ≤ k) := ⟨f1, f2, f3⟩
    have HCj : Hid (∀ W, P j W → Calls Tryz.prog 23 #[.int .i64 (i : Int), .agg #[(popK Wo.no m s 0).enc, (popK Wo.no m s 1).enc], .pointer (some ⟨C, 0, none⟩), .pointer (some ⟨B, 0, none⟩)] W fun e W' => e = .returned (v).enc ∧ P (j + 1) W' ∧ Keep R W W') := hCj
    have HIJ : Hid (i + j + 1 = xs.length ∧ m ≤ s.length ∧ s.length ≤ 100 ∧ G + 5 ≤ W.heap.size) := ⟨hij, hm, hs100, hGW⟩
    obtain ⟨Bo, HBo⟩ : ∃ Bo : Nat, Hid (Bo = W.heap.size) := ⟨_, show _ = _ from rfl⟩
    clear f1 f2 f3 hS hCj hij hm hs100 hGW hs0 HC HST HSs
    have cx2 := (Keep.alloc1 W (.cells #[.nilIface, .nilIface] 75)).cell' cx (by simp)
    gi_wp2_with fail
    refine ⟨trivial, (CallsIn.inRound _ (callsIn_wide.2 (HMd.out _))).mono ?_⟩
    rintro e w9 ⟨rfl, hw9⟩
    obtain rfl := hw9.symm
    clear hw9 cx cx2
    have HL0 : Hid (Keep [G + 1] W (W.alloc (.cells #[.nilIface, .nilIface] 75)) ∧ (W.alloc (.cells #[.nilIface, .nilIface] 75)).heap[Bo]? = some (.cells #[(popK Wo.no 0 s 0).enc, (popK Wo.no 0 s 1).enc] 75 (0, 0)) ∧ (W.alloc (.cells #[.nilIface, .nilIface] 75)).heap[G + 1]? = some (.cells #[.slice a0 (s.length - 0) c0] 61 (0, 0))) := by
      refine ⟨(Keep.alloc1 _ _).mono (by simp), ?_, ?_⟩
      · rw [HBo.out]
        exact heap_alloc_new' _ _
      · exact ((Keep.alloc1 W _).block _ (by have := HIJ.out; omega) (by simp)).trans HF.out.1
    rw [← HBo.out]
    gi_wp2
    gi_loopw [22] (fun iv wr => ∃ q : Nat, iv = .int .i64 (q : Int) ∧ q ≤ m ∧ Hid (Keep [G + 1] W wr ∧ wr.heap[Bo]? = some (.cells #[(popK Wo.no q s 0).enc, (popK Wo.no q s 1).enc] 75 (0, 0)) ∧ wr.heap[G + 1]? = some (.cells #[.slice a0 (s.length - q) c0] 61 (0, 0)))) (fun iv _ => m - (intOf iv).toNat)
    case atStart => exact ⟨0, rfl, Nat.zero_le _, HL0⟩
    case round =>
      clear HL0
      obtain ⟨q, rfl, hq, HL⟩ := hrel
      by_cases hlt : q < m
      · obtain ⟨t, Ht⟩ : ∃ t : Nat, Hid (s.length = q + t + 1) := ⟨s.length - q - 1, show s.length = _ by have := HIJ.out; omega⟩
        have hrow := HF.out.2.1.keep HL.out.1 (fun k hk hm => by have := HF.out.2.2 k hk; simp at hm; omega)
        rcases hrow.cases with ⟨h0, _⟩ | ⟨g, cg, he, hcg, _, hgl, hc, _⟩
        · have := Ht.out
          omega
        · simp at he
          obtain ⟨rfl, rfl⟩ := he
          have ctop : wr.cell? ⟨g, t, none⟩ = some (s.getD q Wo.no).enc := (hc t (by have := Ht.out; omega)).trans (rev_top_wo s q t Ht.out)
          have hgG : G + 5 ≤ g := HF.out.2.2 g rfl
          have HGG : Hid (G + 5 ≤ g ∧ t + 1 ≤ c0) := ⟨hgG, by have := Ht.out; omega⟩
          have htc : (t : Int) ≤ (c0 : Int) := by have := HGG.out; omega
          have ht0 : (0 : Int) ≤ (t : Int) := by omega
          have htl : (t : Int) ≤ 100 := by have := Ht.out; have := HIJ.out; omega
          have hl3 := HL.out.2.2
          rw [show s.length - q = t + 1 by have := Ht.out; omega] at hl3
          obtain ⟨cf, ff⟩ := one_cell_wo hl3
          obtain ⟨o0, o1, fo0, fo1⟩ := two_cell_wo HL.out.2.1
          have HBG : Hid (G + 5 ≤ Bo) := show G + 5 ≤ Bo by have := HIJ.out; have := HBo.out; omega
          obtain ⟨y, HY⟩ : ∃ y : Wo, Hid (y = s.getD q Wo.no) := ⟨_, show _ = _ from rfl⟩
          rw [← HY.out] at ctop
          have cf2 := (Keep.set1 wr ⟨Bo, q, none⟩ (y).enc).cell' cf (by have := HBG.out; simp; omega)
          have ff2 := ((Keep.set1 wr ⟨Bo, q, none⟩ (y).enc).frozen (p := ⟨G + 1, 0, none⟩) (block_lt_of_cell cf) (by have := HBG.out; simp; omega)).trans ff
          clear hrow hc hcg hgl hgG hl3
          have hq01 : q = 0 ∨ q = 1 := by omega
          rcases hq01 with rfl | rfl
          · have hml : (0 : Int) < (m : Int) := by omega
            have HE : Hid (popK Wo.no 1 s 0 = y) := HY.out.symm
            clear HY
            rcases y with _ | yb | yn <;> simp only [Wo.enc] at ctop cf2 ff2
            all_goals
              gi_wp2
              go_roundw
              case rel =>
                refine ⟨1, rfl, by omega, ((HL.out.1.setCell (.inr (by have := HBo.out; simp; omega)) _).setCell (.inl (by simp)) _), ?_, ?_⟩
                · refine ((Keep.set1 _ ⟨G + 1, 0, none⟩ _).block Bo ?_ (by have := HBG.out; simp; omega)).trans ?_
                  · have := (Array.getElem?_eq_some_iff.1 HL.out.2.1).1; simpa [World.setCell] using this
                  · rw [heap_setCell_same wr Bo 0 _ 75 _ HL.out.2.1, HE.out]; rfl
                · have hb := fun u => ((Keep.set1 wr ⟨Bo, 0, none⟩ u).block (G + 1) (Array.getElem?_eq_some_iff.1 HL.out.2.2).1 (by have := HBG.out; simp; omega)).trans HL.out.2.2
                  have h2 := fun u => heap_setCell_same _ (G + 1) 0 _ 61 (.slice (some ⟨g, 0, none⟩) t c0) (hb u)
                  rw [show s.length - 1 = t by have := Ht.out; omega]
                  exact h2 _
              case measure => (simp [intOf]; try omega)
          · have hml : (1 : Int) < (m : Int) := by omega
            have HE : Hid (popK Wo.no 2 s 1 = y) := HY.out.symm
            clear HY
            rcases y with _ | yb | yn <;> simp only [Wo.enc] at ctop cf2 ff2
            all_goals
              gi_wp2
              go_roundw
              case rel =>
                refine ⟨2, rfl, by omega, ((HL.out.1.setCell (.inr (by have := HBo.out; simp; omega)) _).setCell (.inl (by simp)) _), ?_, ?_⟩
                · refine ((Keep.set1 _ ⟨G + 1, 0, none⟩ _).block Bo ?_ (by have := HBG.out; simp; omega)).trans ?_
                  · have := (Array.getElem?_eq_some_iff.1 HL.out.2.1).1; simpa [World.setCell] using this
                  · rw [heap_setCell_same wr Bo 1 _ 75 _ HL.out.2.1, HE.out]; rfl
                · have hb := fun u => ((Keep.set1 wr ⟨Bo, 1, none⟩ u).block (G + 1) (Array.getElem?_eq_some_iff.1 HL.out.2.2).1 (by have := HBG.out; simp; omega)).trans HL.out.2.2
                  have h2 := fun u => heap_setCell_same _ (G + 1) 0 _ 61 (.slice (some ⟨g, 0, none⟩) t c0) (hb u)
                  rw [show s.length - 2 = t by have := Ht.out; omega]
                  exact h2 _
              case measure => (simp [intOf]; try omega)
      · obtain rfl : q = m := by omega
        have hnq : ¬ (q : Int) < (q : Int) := by omega
        gi_wp2_with fail
        obtain ⟨L1, L2, L3⟩ := HL.out
        have HBG : Hid (G + 5 ≤ Bo ∧ Bo < wr.heap.size) := ⟨by have := HIJ.out; have := HBo.out; omega, (Array.getElem?_eq_some_iff.1 L2).1⟩
        have hall := HS.out.all.keep L1 (fun k hk hm => by simp [Value.ownBlock] at hk; simp at hm; have := HHG.out; omega)
        have kz : (((allF Wo.no vals xs.length j).map Wo.enc))[i]? = some .nilIface := by
          have := HIJ.out
          rw [List.getElem?_map, allF, List.getElem?_append_left (by simp; omega), List.getElem?_replicate, if_pos (by omega)]
          rfl
        have call : wr.cell? ⟨H + 1, i, none⟩ = some .nilIface := by
          rcases hall.cases with ⟨h0, _⟩ | ⟨g, cg, he, _, _, _, hc, _⟩
          · omega
          · simp at he
            obtain ⟨rfl, rfl⟩ := he
            rw [hc i (by omega), kz]
        have cfr : wr.frozen? ⟨H + 1, i, none⟩ = false := by
          rcases hall.cases with ⟨h0, _⟩ | ⟨g, cg, he, _, _, _, _, hf⟩
          · omega
          · simp at he
            obtain ⟨rfl, rfl⟩ := he
            exact hf i
        have hone := (L1.block H (by have := HIJ.out; have := HHG.out; omega) (by have := HHG.out; simp; omega)).trans HS.out.one
        have habx := (L1.block G (by have := HIJ.out; omega) (by simp)).trans HS.out.ab
        have hPw : P j wr := HP.out.2.1 j W wr _ HS.out.P L1 (fun g hg => by simp at hg; have := HHG.out; omega)
        have hli : (i : Int) < (xs.length : Int) := by omega
        have HRO : Hid (∀ x, w.heap.size ≤ x → x ∉ R) := fun x hx hm => by have := HP.out.2.2.1 x hm; omega
        have HA : Hid (RowC wr 60 1 (.slice (some ⟨H + 1, 0, none⟩) xs.length xs.length) xs.length ((allF Wo.no vals xs.length j).map Wo.enc) ∧ wr.heap[H]? = some (.cells #[(.func (.func 23) #[] #[.pointer (some ⟨C, 0, none⟩), .pointer (some ⟨B, 0, none⟩)])] 80 (0, 0)) ∧ wr.heap[G]? = some (.cells #[.slice (some ⟨H + 1, 0, none⟩) xs.length xs.length] 61 (0, 0)) ∧ P j wr) := ⟨hall, hone, habx, hPw⟩
        have ca := one_cell_wo hone
        have cb := one_cell_wo habx
        have co := two_cell_wo L2
        have HSd : Hid (wr.cell? ⟨G, 0, none⟩ = some (.slice (some ⟨H + 1, 0, none⟩) xs.length xs.length) ∧ wr.cell? ⟨H, 0, none⟩ = some (.func (.func 23) #[] #[.pointer (some ⟨C, 0, none⟩), .pointer (some ⟨B, 0, none⟩)]) ∧ wr.cell? ⟨Bo, 0, none⟩ = some (popK Wo.no q s 0).enc ∧ wr.cell? ⟨Bo, 1, none⟩ = some (popK Wo.no q s 1).enc ∧ wr.cell? ⟨H + 1, i, none⟩ = some .nilIface ∧ wr.frozen? ⟨H + 1, i, none⟩ = false) := ⟨cb.1, ca.1, co.1, co.2.1, call, cfr⟩
        clear L1 L2 L3 hall kz call cfr hone habx hPw ca cb co HMd hnq hlt hq
        refine wpIn_region_until 7 (S := (fun w' : World => w'.cell? ⟨G, 0, none⟩ = some (.slice (some ⟨H + 1, 0, none⟩) xs.length xs.length) ∧ w'.cell? ⟨H, 0, none⟩ = some (.func (.func 23) #[] #[.pointer (some ⟨C, 0, none⟩), .pointer (some ⟨B, 0, none⟩)]) ∧ w'.cell? ⟨Bo, 0, none⟩ = some (popK Wo.no q s 0).enc ∧ w'.cell? ⟨Bo, 1, none⟩ = some (popK Wo.no q s 1).enc ∧ w'.cell? ⟨H + 1, i, none⟩ = some .nilIface ∧ w'.frozen? ⟨H + 1, i, none⟩ = false)) (by kernel_rfl) (by kernel_rfl) (HSd.out) (fun hHeld => ?_)
        try dsimp only at hHeld
        refine AnyU.take (i := 0) (oi := { dst := some 38, op := Go.Op.load 61 (Go.Operand.tmp 5), type := 61, pos := "kinds.go:32", after := #[], guard := none }) (v := ?_) rfl (by kernel_rfl) (by kernel_rfl) (by kernel_rfl) (by kernel_rfl) (fun _ _ _ => plain_panic) (Or.inl ⟨by rfl, ?_⟩) (by assumption) ?_
        rotate_left
        · intro w7 hSw
          try dsimp only at hSw
          first | (go_simp; done) | (go_simp; with_reducible rfl)
        try simp only [Act.put, List.setIfInBounds_toArray, List.set_cons_zero, List.set_cons_succ]
        refine AnyU.take (i := 1) (oi := { dst := some 39, op := Go.Op.move (Go.Operand.tmp 7), type := 3, pos := "kinds.go:32", after := #[], guard := none }) (v := ?_) rfl (by kernel_rfl) (by kernel_rfl) (by kernel_rfl) (by kernel_rfl) (fun _ _ _ => plain_panic) (Or.inl ⟨by rfl, ?_⟩) (by assumption) ?_
        rotate_left
        · intro w7 hSw
          try dsimp only at hSw
          first | (go_simp; done) | (go_simp; with_reducible rfl)
        try simp only [Act.put, List.setIfInBounds_toArray, List.set_cons_zero, List.set_cons_succ]
        refine AnyU.take (i := 2) (oi := { dst := some 40, op := Go.Op.load 80 (Go.Operand.tmp 3), type := 80, pos := "kinds.go:32", after := #[], guard := none }) (v := ?_) rfl (by kernel_rfl) (by kernel_rfl) (by kernel_rfl) (by kernel_rfl) (fun _ _ _ => plain_panic) (Or.inl ⟨by rfl, ?_⟩) (by assumption) ?_
        rotate_left
        · intro w7 hSw
          try dsimp only at hSw
          first | (go_simp; done) | (go_simp; with_reducible rfl)
        try simp only [Act.put, List.setIfInBounds_toArray, List.set_cons_zero, List.set_cons_succ]
        refine AnyU.take (i := 3) (oi := { dst := some 41, op := Go.Op.move (Go.Operand.tmp 7), type := 3, pos := "kinds.go:32", after := #[], guard := none }) (v := ?_) rfl (by kernel_rfl) (by kernel_rfl) (by kernel_rfl) (by kernel_rfl) (fun _ _ _ => plain_panic) (Or.inl ⟨by rfl, ?_⟩) (by assumption) ?_
        rotate_left
        · intro w7 hSw
          try dsimp only at hSw
          first | (go_simp; done) | (go_simp; with_reducible rfl)
        try simp only [Act.put, List.setIfInBounds_toArray, List.set_cons_zero, List.set_cons_succ]
        refine AnyU.take (i := 4) (oi := { dst := some 42, op := Go.Op.load 75 (Go.Operand.tmp 9), type := 75, pos := "kinds.go:32", after := #[], guard := none }) (v := ?_) rfl (by kernel_rfl) (by kernel_rfl) (by kernel_rfl) (by kernel_rfl) (fun _ _ _ => plain_panic) (Or.inl ⟨by rfl, ?_⟩) (by assumption) ?_
        rotate_left
        · intro w7 hSw
          try dsimp only at hSw
          first | (go_simp; done) | (go_simp; with_reducible rfl)
        try simp only [Act.put, List.setIfInBounds_toArray, List.set_cons_zero, List.set_cons_succ]
        refine AnyU.one (i := 5) (o := { dst := some 43, op := Go.Op.call { callee := Go.Callee.value (Go.Operand.tmp 40), args := #[Go.Operand.tmp 41, Go.Operand.tmp 42], argTypes := #[3, 75] }, type := 60, pos := "kinds.go:32", after := #[{ on := 2, ground := Go.Ground.data }, { on := 3, ground := Go.Ground.data }, { on := 4, ground := Go.Ground.data }], guard := none }) (by kernel_rfl) rfl (fun K hK => ?_)
        go_simp
        refine (HCj.out _ (HP.out.2.1 j _ _ [] HA.out.2.2.2 ((Keep.refl [] wr).drew) (by simp))).mono ?_
        rintro e w5 ⟨rfl, hP5, k5⟩
        go_wp2_with fail
        refine hK.out _ _ (fun _ => ⟨k5.cell' hHeld.1 (HRO.out _ (by have := HHG.out; simp; omega)), k5.cell' hHeld.2.1 (HRO.out _ (by have := HHG.out; simp; omega)), k5.cell' hHeld.2.2.1 (HRO.out _ (by have := HHG.out; have := HBG.out; simp; omega)), k5.cell' hHeld.2.2.2.1 (HRO.out _ (by have := HHG.out; have := HBG.out; simp; omega)), k5.cell' hHeld.2.2.2.2.1 (HRO.out _ (by have := HHG.out; simp; omega)), (k5.frozen (p := ⟨H + 1, i, none⟩) (block_lt_of_cell hHeld.2.2.2.2.1) (HRO.out _ (by have := HHG.out; simp; omega))).trans hHeld.2.2.2.2.2⟩) (fun hHeld2 => ?_)
        have hHeld3 := hHeld2 (by kernel_rfl)
        try dsimp only at hHeld3
        clear hK hHeld hHeld2
        have hHeld := hHeld3
        clear hHeld3
        try simp only [Act.put, List.setIfInBounds_toArray, List.set_cons_zero, List.set_cons_succ]
        refine AnyU.take (i := 6) (oi := { dst := some 44, op := Go.Op.indexAddr 61 (Go.Operand.tmp 38) (Go.Operand.tmp 39), type := 0, pos := "kinds.go:32", after := #[{ on := 0, ground := Go.Ground.data }, { on := 1, ground := Go.Ground.data }, { on := 0, ground := Go.Ground.phase }, { on := 1, ground := Go.Ground.phase }, { on := 2, ground := Go.Ground.phase }, { on := 3, ground := Go.Ground.phase }, { on := 4, ground := Go.Ground.phase }, { on := 5, ground := Go.Ground.phase }], guard := none }) (v := ?_) rfl (by kernel_rfl) (by kernel_rfl) (by kernel_rfl) (by kernel_rfl) (fun _ _ _ => plain_panic) (Or.inl ⟨by rfl, ?_⟩) (by assumption) ?_
        rotate_left
        · intro w7 hSw
          try dsimp only at hSw
          first | (go_simp; done) | (go_simp; with_reducible rfl)
        try simp only [Act.put, List.setIfInBounds_toArray, List.set_cons_zero, List.set_cons_succ]
        refine AnyU.one (i := 7) (o := { dst := none, op := Go.Op.store 60 (Go.Operand.tmp 44) (Go.Operand.tmp 43), type := 0, pos := "kinds.go:32", after := #[{ on := 6, ground := Go.Ground.data }, { on := 5, ground := Go.Ground.data }, { on := 5, ground := Go.Ground.chain }, { on := 0, ground := Go.Ground.phase }, { on := 1, ground := Go.Ground.phase }, { on := 2, ground := Go.Ground.phase }, { on := 3, ground := Go.Ground.phase }, { on := 4, ground := Go.Ground.phase }, { on := 5, ground := Go.Ground.phase }], guard := none }) (by kernel_rfl) rfl (fun K hK => ?_)
        refine step_storeW rfl rfl (.tmp 44) (.tmp 43) rfl (H + 1) i v .nilIface rfl rfl hHeld.2.2.2.2.1 hHeld.2.2.2.2.2 ?_
        refine hK.out _ _ (fun h => Bool.noConfusion ((show _ = true from by kernel_rfl).symm.trans h)) (fun _ => ?_)
        clear hK hHeld
        try simp only [Act.put, List.setIfInBounds_toArray, List.set_cons_zero, List.set_cons_succ]
        refine AnyU.done (by kernel_rfl) ⟨rfl, ?_⟩ _
        obtain ⟨Wc, HWc⟩ : ∃ Wc : World, Hid (Wc = w5.setCell ⟨H + 1, i, none⟩ (v).enc) := ⟨_, show _ = _ from rfl⟩
        rw [← HWc.out]
        have hqs : s.length - q = (s.drop q).length := by simp
        have K5 : Keep R wr w5 := ⟨k5.os, k5.tape, k5.output, k5.size, k5.block⟩
        have KC : Keep [H + 1] w5 Wc := by rw [HWc.out]; exact Keep.set1 _ ⟨H + 1, i, none⟩ _
        have hl1 := HL.out.1
        have hfb : Wc.heap[G + 1]? = some (.cells #[.slice a0 (s.drop q).length c0] 61 (0, 0)) := by
          have h1 := HL.out.2.2
          rw [hqs] at h1
          have h2 := (K5.block _ (Array.getElem?_eq_some_iff.1 h1).1 (HRO.out _ (by have := HHG.out; omega))).trans h1
          exact (KC.block _ (Array.getElem?_eq_some_iff.1 h2).1 (by have := HHG.out; simp; omega)).trans h2
        have hab : Wc.heap[G]? = some (.cells #[.slice (some ⟨H + 1, 0, none⟩) xs.length xs.length] 61 (0, 0)) := by
          have h1 := HA.out.2.2.1
          have h2 := (K5.block _ (Array.getElem?_eq_some_iff.1 h1).1 (HRO.out _ (by have := HHG.out; omega))).trans h1
          exact (KC.block _ (Array.getElem?_eq_some_iff.1 h2).1 (by have := HHG.out; simp; omega)).trans h2
        have hall : RowC Wc 60 1 (.slice (some ⟨H + 1, 0, none⟩) xs.length xs.length) xs.length ((allF Wo.no vals xs.length (j + 1)).map Wo.enc) := by
          have h1 := (HA.out.1.keep K5 (fun k hk => HRO.out k (by simp [Value.ownBlock] at hk; have := HHG.out; omega))).set i (v).enc
          rw [← HWc.out] at h1
          rw [← allF_set Wo.no vals xs.length j i HVL.out.1 HIJ.out.1, ← HV.out, List.map_set]
          exact h1
        have hrow : RowC Wc 60 1 (.slice a0 (s.drop q).length c0) (s.drop q).length ((s.drop q).reverse.map Wo.enc) := by
          have h1 := ((HF.out.2.1.keep hl1 (fun k hk hm => by have := HF.out.2.2 k hk; simp at hm; omega)).keep K5 (fun k hk => HRO.out k (by have := HF.out.2.2 k hk; have := HHG.out; omega))).keep KC (fun k hk hm => by have := HF.out.2.2 k hk; have := HHG.out; simp at hm; omega)
          by_cases hq0 : q = 0
          · subst hq0
            exact h1
          · have h2 := RowC.take h1 (s.length - q) (by omega) (fun e => by
              subst e
              rcases h1.cases with ⟨h0, _⟩ | ⟨g, cg, he, _⟩
              · have := HIJ.out; omega
              · simp at he)
            rw [rev_drop_wo s q (s.length - q) (by have := HIJ.out; omega)] at h2
            rw [← hqs]
            exact h2
        have hci : Wc.cell? ⟨H + 1, i, none⟩ = some (v).enc := by
          rcases hall.cases with ⟨h0, _⟩ | ⟨g, cg, he, _, _, _, hc, _⟩
          · omega
          · simp at he
            obtain ⟨rfl, rfl⟩ := he
            rw [hc i (by omega), List.getElem?_map, allF, List.getElem?_append_right (by simp; have := HIJ.out; omega), List.getElem?_drop, List.length_replicate, show xs.length - (j + 1) + (i - (xs.length - (j + 1))) = i by have := HIJ.out; omega, List.getElem?_eq_getElem (by rw [HVL.out.1]; exact hi), HV.out, List.getD_eq_getElem?_getD, List.getElem?_eq_getElem (by rw [HVL.out.1]; exact hi)]
            rfl
        have KW : Keep (R ++ [H + 1, G + 1]) W Wc := ((hl1.mono (by simp)).trans' (K5.mono (fun x hx => .inl (by simp [hx])))).trans' (KC.mono (fun x hx => .inl (by simp at hx; simp [hx])))
        have hPc : P (j + 1) Wc := HP.out.2.1 _ _ _ _ hP5 KC (fun g hg => by simp at hg; have := HHG.out; omega)
        have HOn : Hid (∀ k, (Value.slice a0 (s.drop q).length c0).ownBlock = some k → G + 5 ≤ k) := fun k hk => HF.out.2.2 k (by cases a0 with | none => simp [Value.ownBlock] at hk | some a => exact hk)
        have HS2 : Hid ((s.drop q).length ≤ 100) := show _ ≤ 100 by have := HIJ.out; rw [List.length_drop]; omega
        have HWW : Hid (Wc.heap[G + 1]? = some (.cells #[.slice a0 (s.drop q).length c0] 61 (0, 0)) ∧ Wc.heap[G]? = some (.cells #[.slice (some ⟨H + 1, 0, none⟩) xs.length xs.length] 61 (0, 0)) ∧ RowC Wc 60 1 (.slice (some ⟨H + 1, 0, none⟩) xs.length xs.length) xs.length ((allF Wo.no vals xs.length (j + 1)).map Wo.enc) ∧ RowC Wc 60 1 (.slice a0 (s.drop q).length c0) (s.drop q).length ((s.drop q).reverse.map Wo.enc) ∧ Keep (R ++ [H + 1, G + 1]) W Wc ∧ P (j + 1) Wc) := ⟨hfb, hab, hall, hrow, KW, hPc⟩
        have HSe : Hid (Wc.cell? ⟨G + 1, 0, none⟩ = some (.slice a0 (s.drop q).length c0) ∧ Wc.frozen? ⟨G + 1, 0, none⟩ = false ∧ Wc.cell? ⟨G, 0, none⟩ = some (.slice (some ⟨H + 1, 0, none⟩) xs.length xs.length) ∧ Wc.cell? ⟨H + 1, i, none⟩ = some (v).enc) := ⟨(one_cell_wo hfb).1, (one_cell_wo hfb).2, (one_cell_wo hab).1, hci⟩
        have HOn0 : Hid (∀ k, (Value.slice a0 (s.drop q).length c0).ownBlock = some k → k < Wc.heap.size) := fun k hk => hrow.lt k hk
        clear hqs K5 KC hl1 hfb hab hall hrow hci KW hPc HWc k5 hP5 HA HSd HL HF
        generalize s.drop q = s2 at *
        gi_wp2_with fail
        refine wpIn_region_until 7 (S := (fun w' : World => w'.cell? ⟨G + 1, 0, none⟩ = some (.slice a0 s2.length c0) ∧ w'.frozen? ⟨G + 1, 0, none⟩ = false ∧ w'.cell? ⟨G, 0, none⟩ = some (.slice (some ⟨H + 1, 0, none⟩) xs.length xs.length) ∧ w'.cell? ⟨H + 1, i, none⟩ = some (v).enc)) (by kernel_rfl) (by kernel_rfl) (HSe.out) (fun hHeld => ?_)
        try dsimp only at hHeld
        refine AnyU.take (i := 0) (oi := { dst := some 45, op := Go.Op.load 61 (Go.Operand.tmp 6), type := 61, pos := "kinds.go:33", after := #[], guard := none }) (v := ?_) rfl (by kernel_rfl) (by kernel_rfl) (by kernel_rfl) (by kernel_rfl) (fun _ _ _ => plain_panic) (Or.inl ⟨by rfl, ?_⟩) (by assumption) ?_
        rotate_left
        · intro w7 hSw
          try dsimp only at hSw
          first | (go_simp; done) | (go_simp; with_reducible rfl)
        try simp only [Act.put, List.setIfInBounds_toArray, List.set_cons_zero, List.set_cons_succ]
        refine AnyU.take (i := 1) (oi := { dst := some 46, op := Go.Op.load 61 (Go.Operand.tmp 5), type := 61, pos := "kinds.go:33", after := #[], guard := none }) (v := ?_) rfl (by kernel_rfl) (by kernel_rfl) (by kernel_rfl) (by kernel_rfl) (fun _ _ _ => plain_panic) (Or.inl ⟨by rfl, ?_⟩) (by assumption) ?_
        rotate_left
        · intro w7 hSw
          try dsimp only at hSw
          first | (go_simp; done) | (go_simp; with_reducible rfl)
        try simp only [Act.put, List.setIfInBounds_toArray, List.set_cons_zero, List.set_cons_succ]
        refine AnyU.take (i := 2) (oi := { dst := some 47, op := Go.Op.move (Go.Operand.tmp 7), type := 3, pos := "kinds.go:33", after := #[], guard := none }) (v := ?_) rfl (by kernel_rfl) (by kernel_rfl) (by kernel_rfl) (by kernel_rfl) (fun _ _ _ => plain_panic) (Or.inl ⟨by rfl, ?_⟩) (by assumption) ?_
        rotate_left
        · intro w7 hSw
          try dsimp only at hSw
          first | (go_simp; done) | (go_simp; with_reducible rfl)
        try simp only [Act.put, List.setIfInBounds_toArray, List.set_cons_zero, List.set_cons_succ]
        refine AnyU.take (i := 3) (oi := { dst := some 48, op := Go.Op.indexAddr 61 (Go.Operand.tmp 46) (Go.Operand.tmp 47), type := 0, pos := "kinds.go:33", after := #[{ on := 1, ground := Go.Ground.data }, { on := 2, ground := Go.Ground.data }], guard := none }) (v := ?_) rfl (by kernel_rfl) (by kernel_rfl) (by kernel_rfl) (by kernel_rfl) (fun _ _ _ => plain_panic) (Or.inl ⟨by rfl, ?_⟩) (by assumption) ?_
        rotate_left
        · intro w7 hSw
          try dsimp only at hSw
          first | (go_simp; done) | (go_simp; with_reducible rfl)
        try simp only [Act.put, List.setIfInBounds_toArray, List.set_cons_zero, List.set_cons_succ]
        refine AnyU.take (i := 4) (oi := { dst := some 49, op := Go.Op.load 60 (Go.Operand.tmp 48), type := 60, pos := "kinds.go:33", after := #[{ on := 3, ground := Go.Ground.data }], guard := none }) (v := ?_) rfl (by kernel_rfl) (by kernel_rfl) (by kernel_rfl) (by kernel_rfl) (fun _ _ _ => plain_panic) (Or.inl ⟨by rfl, ?_⟩) (by assumption) ?_
        rotate_left
        · intro w7 hSw
          try dsimp only at hSw
          first | (go_simp; done) | (go_simp; with_reducible rfl)
        try simp only [Act.put, List.setIfInBounds_toArray, List.set_cons_zero, List.set_cons_succ]
        refine AnyU.one (i := 5) (o := { dst := some 50, op := Go.Op.buildSlice 61 1 #[(0, Go.Operand.tmp 49)], type := 61, pos := "kinds.go:33", after := #[{ on := 4, ground := Go.Ground.data }], guard := none }) (by kernel_rfl) rfl (fun K hK => ?_)
        refine step_buildW rfl (.tmp 49) rfl v rfl ?_
        refine hK.out _ _ (fun _ => ⟨(Keep.alloc1 _ _).cell' hHeld.1 (by simp), ((Keep.alloc1 _ _).frozen (p := ⟨G + 1, 0, none⟩) (block_lt_of_cell hHeld.1) (by simp)).trans hHeld.2.1, (Keep.alloc1 _ _).cell' hHeld.2.2.1 (by simp), (Keep.alloc1 _ _).cell' hHeld.2.2.2 (by simp)⟩) (fun hHeld2 => ?_)
        have hHeld3 := hHeld2 (by kernel_rfl)
        try dsimp only at hHeld3
        clear hK hHeld hHeld2
        have hHeld := hHeld3
        clear hHeld3
        try simp only [Act.put, List.setIfInBounds_toArray, List.set_cons_zero, List.set_cons_succ]
        refine AnyU.one (i := 6) (o := { dst := some 51, op := Go.Op.call { callee := Go.Callee.builtin Go.Builtin.append, args := #[Go.Operand.tmp 45, Go.Operand.tmp 50], argTypes := #[61, 61] }, type := 61, pos := "kinds.go:33", after := #[{ on := 0, ground := Go.Ground.data }, { on := 5, ground := Go.Ground.data }], guard := none }) (by kernel_rfl) rfl (fun K hK => ?_)
        refine step_appC infoW rfl rfl (.tmp 45) (.tmp 50) 61 61 rfl Tryz.underlying61 (.slice a0 s2.length c0) s2.length (s2.reverse.map Wo.enc) rfl (RowC.keep HWW.out.2.2.2.1 (((Keep.refl [] Wc).drew).alloc _) (Off.nil _)) _ 1 [(v).enc] rfl (src_wo Wc.drew v) (by have := HS2.out; omega) (by have := HS2.out; simp only [maxLen]; omega) ?_
        intro v' w7 a1 a2 a3 a4 a5
        obtain ⟨ao', cap', rfl⟩ := a4
        refine hK.out _ _ (fun _ => ⟨a2.cell' hHeld.1 (fun hm => by have := HOn.out _ (by simpa using hm); have := HHG.out; omega), (a2.frozen (p := ⟨G + 1, 0, none⟩) (block_lt_of_cell hHeld.1) (fun hm => by have := HOn.out _ (by simpa using hm); have := HHG.out; omega)).trans hHeld.2.1, a2.cell' hHeld.2.2.1 (fun hm => by have := HOn.out _ (by simpa using hm); have := HHG.out; omega), a2.cell' hHeld.2.2.2 (fun hm => by have := HOn.out _ (by simpa using hm); have := HHG.out; omega)⟩) (fun hHeld2 => ?_)
        have hHeld3 := hHeld2 (by kernel_rfl)
        try dsimp only at hHeld3
        clear hK hHeld hHeld2
        have hHeld := hHeld3
        clear hHeld3
        try simp only [Act.put, List.setIfInBounds_toArray, List.set_cons_zero, List.set_cons_succ]
        refine AnyU.one (i := 7) (o := { dst := none, op := Go.Op.store 61 (Go.Operand.tmp 6) (Go.Operand.tmp 51), type := 0, pos := "kinds.go:33", after := #[{ on := 6, ground := Go.Ground.data }, { on := 6, ground := Go.Ground.chain }, { on := 0, ground := Go.Ground.phase }, { on := 1, ground := Go.Ground.phase }, { on := 2, ground := Go.Ground.phase }, { on := 3, ground := Go.Ground.phase }, { on := 4, ground := Go.Ground.phase }, { on := 5, ground := Go.Ground.phase }, { on := 6, ground := Go.Ground.phase }], guard := none }) (by kernel_rfl) rfl (fun K hK => ?_)
        go_simp
        refine hK.out _ _ (fun h => Bool.noConfusion ((show _ = true from by kernel_rfl).symm.trans h)) (fun _ => ?_)
        clear hK hHeld
        try simp only [Act.put, List.setIfInBounds_toArray, List.set_cons_zero, List.set_cons_succ]
        refine AnyU.done (by kernel_rfl) ⟨rfl, ?_⟩ _
        gi_wp2
        have hz := HIJ.out
        have hg := HHG.out
        obtain ⟨q1, q2, q3, q4, q5, q6⟩ := HWW.out
        have Kc7 : Keep (Value.slice a0 s2.length c0).ownBlock.toList Wc w7 := (((Keep.refl _ Wc).drew).alloc _).trans' a2
        have hWc := Kc7.size
        have hWW := q5.size
        have b7 : w7.heap[G + 1]? = some (.cells #[.slice a0 s2.length c0] 61 (0, 0)) := (Kc7.block _ (Array.getElem?_eq_some_iff.1 q1).1 (fun hm => by have := HOn.out _ (by simpa using hm); have := HHG.out; omega)).trans q1
        have b8 := heap_setCell_same w7 (G + 1) 0 _ 61 (.slice ao' (s2.length + 1) cap') b7
        have K78 : Keep [G + 1] w7 (w7.setCell ⟨G + 1, 0, none⟩ (.slice ao' (s2.length + 1) cap')) := Keep.set1 _ ⟨G + 1, 0, none⟩ _
        have hown : ∀ k, (Value.slice ao' (s2.length + 1) cap').ownBlock = some k → G + 5 ≤ k := fun k hk => by
          rcases a3 with h | h
          · exact HOn.out k (by rw [← h]; exact hk)
          · have := (h k hk).1
            simp at this
            omega
        generalize w7.setCell ⟨G + 1, 0, none⟩ (.slice ao' (s2.length + 1) cap') = W8 at *
        have K8 : Keep (R ++ [H + 1, G + 1] ++ (Value.slice a0 s2.length c0).ownBlock.toList) W W8 := ((q5.mono (fun x hx => .inl (List.mem_append_left _ hx))).trans' (Kc7.mono (fun x hx => .inl (List.mem_append_right _ hx)))).trans' (K78.mono (fun x hx => .inl (by simp at hx; simp [hx])))
        have h8 := K8.size
        have hS := HS.out
        have Kc8 : Keep ((G + 1) :: (Value.slice a0 s2.length c0).ownBlock.toList) Wc W8 := (Kc7.mono (fun x hx => .inl (by simp [hx]))).trans' (K78.mono (fun x hx => .inl (by simp at hx; simp [hx])))
        have nb : ∀ x, x < G + 5 → x ≠ G + 1 → x ∉ ((G + 1) :: (Value.slice a0 s2.length c0).ownBlock.toList) := fun x hx hne hm => by
          simp at hm
          rcases hm with h | h
          · exact hne h
          · have := HOn.out x h
            omega
        refine ⟨⟨⟨?_, ?_, ?_, ⟨ao', cap', ?_, ?_, ?_⟩, ?_, ?_⟩, by omega⟩, K8.fz (fun x hx => ?_)⟩
        · have h1 := hS.one
          refine (K8.block _ (Array.getElem?_eq_some_iff.1 h1).1 (fun hm => ?_)).trans h1
          simp at hm
          rcases hm with h | h | h
          · exact HRO.out H (by omega) h
          · omega
          · have := HOn.out H h
            omega
        · exact q3.keep Kc8 (fun k hk => by simp [Value.ownBlock] at hk; exact nb k (by omega) (by omega))
        · exact (Kc8.block _ (Array.getElem?_eq_some_iff.1 q2).1 (nb G (by omega) (by omega))).trans q2
        · rw [HNx.out]
          exact b8
        · rw [HNx.out]
          have h1 := RowC.keep a1 K78 (fun k hk hm => by have := hown k hk; simp at hm; omega)
          simpa using h1
        · rw [HNx.out]
          exact hown
        · exact HP.out.2.1 _ _ _ _ q6 Kc8 (fun g hg => by simp at hg; rcases hg with h | h; omega; have := HOn.out g h; omega)
        · refine hS.kp.more K8 (fun x hx => ?_)
          simp at hx
          rcases hx with h | h | h | h
          · exact .inl h
          · exact .inr (by omega)
          · exact .inr (by omega)
          · exact .inr (by have := HOn.out x h; omega)
        · have hz3 := HZ3.out
          have hv := HP.out.2.2.2 x
          have hww := hS.kp.size
          simp at hx
          rcases hx with h | h | h | h
          · exact ⟨by omega, fun hm => by simp at hm; rcases hm with h2 | h2 | h2 | h2; exact HRO.out x (by omega) h2; omega; omega; have := HOn.out x h2; omega⟩
          · exact ⟨by omega, fun hm => by simp at hm; rcases hm with h2 | h2 | h2 | h2; exact HRO.out x (by omega) h2; omega; omega; have := HOn.out x h2; omega⟩
          · exact ⟨by omega, fun hm => by simp at hm; rcases hm with h2 | h2 | h2 | h2; exact HRO.out x (by omega) h2; omega; omega; have := HOn.out x h2; omega⟩
          · have := hv h
            exact ⟨by omega, fun hm => by simp at hm; rcases hm with h2 | h2 | h2 | h2; exact this.1 h2; omega; omega; have := HOn.out x h2; omega⟩
end Go.Proofs.YtplbclokoffgkaaGreatDoor
