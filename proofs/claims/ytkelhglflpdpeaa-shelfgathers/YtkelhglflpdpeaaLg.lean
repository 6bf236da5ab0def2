/- What a sequence tells, gathered. -/
import Derived.Test.YtkelhglflpdpeaaTy
import Derived.Deep.DeepAppendWide

namespace Go.Proofs.Ytkelhglflpdpeaa
open Go.RowKit Go.PlainAid Go.Shelf
attribute [local go_sem] Oper.semAt_some

theorem run_appW {P : Program} {E : TypeId} {z : Value} {s nb : Nat} (hinfo : (P.info? E).map (fun i => (i.zero, i.size, i.bytes)) = some (some z, s, nb)) (hzs : z.cells.size = s)
    (w : World) (t tx ty : TypeId) (ht : P.underlying t = some (.slice E)) (v : Value) (n : Nat) (xs : List Value) (hown : RowC w E s v n xs) (x : Value) (m : Nat) (ys : List Value) (hs : Src P s tx x m ys w)
    (hbytes : ((n + m) + (n + m) / 4 + 192) * nb ≤ 281474976710656) (h63 : n + m ≤ maxLen) :
    ∃ v' w', (Builtin.append_ #[t, tx] ty #[v, x]).run P w = .ok v' w' ∧ RowC w' E s v' (n + m) (xs ++ ys) ∧ Keep v.ownBlock.toList w w' ∧ (v'.ownBlock = v.ownBlock ∨ Fresh w w' v') ∧ Sl v' (n + m) ∧ RowC w' E s v n xs := by
  obtain ⟨i, hi, hz, hsize, hby⟩ := info_parts hinfo
  have hxl : xs.length = n * s := hown.1
  have hyl : ys.length = m * s := hs.newsLen
  have hs' : Src P i.size tx x m ys w := by rw [hsize]; exact hs
  have hmul : (n + m) * s = n * s + m * s := Nat.add_mul _ _ _
  have grown : ∀ (old : Nat), old < n + m →
      RowC (w.drew.alloc (.cells ((xs ++ ys).toArray ++ Builtin.zeroCells z.cells (grownCap w (n + m) old E - (n + m))) E)) E s (.slice (some ⟨w.heap.size, 0, none⟩) (n + m) (grownCap w (n + m) old E)) (n + m) (xs ++ ys) ∧
      Keep [] w (w.drew.alloc (.cells ((xs ++ ys).toArray ++ Builtin.zeroCells z.cells (grownCap w (n + m) old E - (n + m))) E)) ∧
      Fresh w (w.drew.alloc (.cells ((xs ++ ys).toArray ++ Builtin.zeroCells z.cells (grownCap w (n + m) old E - (n + m))) E)) (.slice (some ⟨w.heap.size, 0, none⟩) (n + m) (grownCap w (n + m) old E)) := by
    intro old ho
    have hge := grownCap_ge w (n + m) old E
    have hcm : grownCap w (n + m) old E ≤ maxLen := grownCap_le_maxLen w _ old E h63
    refine ⟨⟨by simp [hxl, hyl, hmul], .inr ⟨w.heap.size, _, _, rfl, Nat.zero_le _, heap_alloc_new w.drew _, hge, hcm, ?_, ?_⟩⟩, ((Keep.refl _ w).drew).alloc _, ?_⟩
    · simp only [Array.size_append, List.size_toArray, size_zeroCells, List.length_append, hxl, hyl, hzs]
      rw [← hmul, ← Nat.add_mul]
      congr 1
      omega
    · simp only [Array.toList_append]
      rw [List.take_append_of_le_length (by simp [hxl, hyl, hmul])]
      exact List.take_of_length_le (by simp [hxl, hyl, hmul])
    · intro k hk
      simp [Value.ownBlock] at hk
      subst hk
      exact ⟨Nat.le_refl _, by simp⟩
  have hown0 := hown
  rcases hown.2 with ⟨rfl, rfl⟩ | ⟨g, cap, cur, rfl, hbg, hg, hnc, hcm, hcs, htake⟩
  · have hx0 : xs = [] := List.eq_nil_of_length_eq_zero (by simpa using hxl)
    subst hx0
    by_cases hm : m = 0
    · subst hm
      have hy0 : ys = [] := List.eq_nil_of_length_eq_zero (by simpa using hyl)
      subst hy0
      refine ⟨.slice none 0 0, w, ?_, World.ownsRow_nil w 0 E s, Keep.refl _ w, .inl rfl, ⟨none, 0, rfl⟩, hown0⟩
      have hc := hs'.cells
      have hl := hs'.len
      rcases hs'.kind with ⟨e', hk⟩ | hk <;>
        simp [Builtin.append_, run_underlying ht, run_underlying hk, sizeOf, typeInfo, hi, hl, hc]
    · have hr := run_append_grow_src (P := P) w t tx ty E i z ht hi hz none 0 0 [] (run_firstCells_none w.drew i.size 0 0 0) x m ys hs' (by omega) (by simp only [maxLen] at h63; omega)
        (by rw [hby]; exact growslice_fits_wide (by omega) hbytes)
      obtain ⟨g1, g2, g3⟩ := grown 0 (by omega)
      exact ⟨_, _, hr, g1, g2.mono (fun _ h => by cases h), .inr g3, ⟨_, _, rfl⟩, World.ownsRow_nil _ 0 E s⟩
  · by_cases hroom : n + m ≤ cap
    · have hfit : n * i.size + ys.length ≤ cur.size := by
        rw [hsize, hcs, hyl, ← hmul]
        exact Nat.mul_le_mul_right _ hroom
      have hst := run_storeCells_at P g (n * i.size) E ys 0 cur w hg (by simpa using hfit) hs'.one
      simp only [Nat.add_zero] at hst
      have hcl : cur.toList.length = cap * s := by rw [Array.length_toList, hcs]
      have hns : n * s ≤ cap * s := Nat.mul_le_mul_right _ hnc
      have hnm : n * s + ys.length ≤ cap * s := by rw [hyl, ← hmul]; exact Nat.mul_le_mul_right _ hroom
      have hsz : (cur.toList.take (n * i.size) ++ ys ++ cur.toList.drop (n * i.size + ys.length)).toArray.size = cap * s := by
        rw [hsize]
        simp only [List.size_toArray, List.length_append, List.length_take, List.length_drop, hcl]
        omega
      refine ⟨.slice (some ⟨g, 0, none⟩) (n + m) cap, w.setRow g (cur.toList.take (n * i.size) ++ ys ++ cur.toList.drop (n * i.size + ys.length)).toArray, ?_, ⟨by simp [hxl, hyl, hmul], .inr ⟨g, cap, _, rfl, Nat.zero_le _, setRow_heap w g cur _ E _ hg, hroom, hcm, hsz, ?_⟩⟩, ?_, .inl rfl, ⟨_, _, rfl⟩, ⟨hxl, .inr ⟨g, cap, _, rfl, Nat.zero_le _, setRow_heap w g cur _ E _ hg, hnc, hcm, hsz, ?_⟩⟩⟩
      · rcases hs'.kind with ⟨e', hk⟩ | hk <;>
          simp [Builtin.append_, run_underlying ht, run_underlying hk, sizeOf, typeInfo, hi, hs'.len, hroom, hs'.cells, Addr.add_lit, hst]
      · rw [hsize, htake]
        simp only []
        rw [List.take_append_of_le_length (by simp [hxl, hyl, hmul])]
        exact List.take_of_length_le (by simp [hxl, hyl, hmul])
      · exact ⟨rfl, rfl, rfl, by simp, fun k _ hk => setRow_other w g k _ (fun e => hk (by simp [Value.ownBlock, e]))⟩
      · rw [hsize, htake, List.append_assoc]
        simp only []
        rw [List.take_append_of_le_length (by omega)]
        exact List.take_of_length_le (by omega)
    · have holds : ∀ j u, xs[j]? = some u → w.cell? ((⟨g, 0, none⟩ : Addr).add j) = some u := World.ownsRow.cells hown (g := g) rfl
      have hr := run_append_grow_src (P := P) w t tx ty E i z ht hi hz (some ⟨g, 0, none⟩) n cap xs (run_firstCells_some w.drew i.size n ⟨g, 0, none⟩ n cap xs (by rw [hsize]; exact hxl) (by simpa using holds)) x m ys hs' (by omega) (by simp only [maxLen] at h63; omega)
        (by rw [hby]; exact growslice_fits_wide (by omega) hbytes)
      obtain ⟨g1, g2, g3⟩ := grown cap (by omega)
      exact ⟨_, _, hr, g1, g2.mono (fun _ h => by cases h), .inr g3, ⟨_, _, rfl⟩, hown0.keep g2 (Off.nil _)⟩


/-- append, inside a fence -/
theorem wpIn_appC {F : Fence} {n0 : Nat} {P : Program} {E : TypeId} {z : Value} {sz nb : Nat} (hinfo : (P.info? E).map (fun i => (i.zero, i.size, i.bytes)) = some (some z, sz, nb)) (hzs : z.cells.size = sz)
    {ops : Array Oper} {rest : List Oper} {o : Oper} {a : Act} {w : World} {Q : Exit → Act → World → Prop} (hgd : o.guard = none) (s x : Operand) (t tx : TypeId)
    (ho : o.op = .call { callee := .builtin .append, args := #[s, x], argTypes := #[t, tx] }) (ht : P.underlying t = some (.slice E))
    (v : Value) (n : Nat) (xs : List Value) (hv : a.eval s = v) (hown : RowC w E sz v n xs) (u : Value) (m : Nat) (ys : List Value) (hu : a.eval x = u) (hs : Src P sz tx u m ys w)
    (hbytes : ((n + m) + (n + m) / 4 + 192) * nb ≤ 281474976710656) (h63 : n + m ≤ maxLen)
    (h : ∀ v' w', RowC w' E sz v' (n + m) (xs ++ ys) → Keep v.ownBlock.toList w w' → (v'.ownBlock = v.ownBlock ∨ Fresh w w' v') → Sl v' (n + m) → RowC w' E sz v n xs → wpListIn F n0 P ops Q rest (a.put o.dst v') w') : wpListIn F n0 P ops Q (o :: rest) a w := by
  obtain ⟨v', w', hr, h1, h2, h3, h4, h5⟩ := run_appW hinfo hzs w t tx o.type ht v n xs hown u m ys hs hbytes h63
  refine wpListIn_plain hgd fun K hK => ?_
  unfold Oper.wpIn
  refine ⟨?_, ?_⟩
  · simp [Oper.about, ho, resolve, Target.leads, Sem.run_pure]
  · rw [Oper.semAt_plain F _ _ (by rw [ho]; intro c hc'; cases hc')]
    simp [execOp, ho, resolve, invoke, builtin, hv, hu, hr, Result.andThen]
    exact hK _ _ (h v' w' h1 h2 h3 h4 h5)

theorem src_pair (w : World) (x : Pr) : Src Try.prog 2 25 (.slice (some ⟨w.heap.size, 0, none⟩) 1 1) 1 (encP x) (w.alloc (.cells #[.int .i64 x.k, .int .i64 x.m] 29)) := by
  have hb : (w.alloc (.cells #[.int .i64 x.k, .int .i64 x.m] 29)).heap[w.heap.size]? = some (.cells #[.int .i64 x.k, .int .i64 x.m] 29 (0, 0)) := heap_alloc_new w _
  refine Src.ofSlice _ Try.underlying25 ⟨w.heap.size, 0, none⟩ 1 1 (encP x) rfl (fun j u hu => ?_) (fun u hu => ?_)
  · have hj : j < 2 := by
      have := (List.getElem?_eq_some_iff.1 hu).1
      simpa [encP] using this
    match j, hj with
    | 0, _ => simp [encP] at hu; subst hu; exact (two_facts hb).1.1
    | 1, _ => simp [encP] at hu; subst hu; exact (two_facts hb).1.2
  · simp [encP] at hu
    rcases hu with rfl | rfl <;> rfl

theorem RowC.blk {w : World} {E : TypeId} {s : Nat} {v : Value} {n : Nat} {xs : List Value} (h : RowC w E s v n xs) {g : Nat} (hg : v.ownBlock = some g) : ∃ cur, w.heap[g]? = some (.cells cur E (0, 0)) := by
  rcases h.2 with ⟨hv, _⟩ | ⟨g2, cap2, cur2, hv, _, hb, _⟩
  · rw [hv] at hg; simp [Value.ownBlock] at hg
  · rw [hv] at hg; simp [Value.ownBlock] at hg; subst hg; exact ⟨cur2, hb⟩
theorem Keep.from' {R : List Nat} {W W' : World} {B : Nat} (h : Keep R W W') (hR : ∀ r ∈ R, r < B ∨ ∃ c t, W.heap[r]? = some (.cells c t (0, 0))) : KeepsFrom B W W' :=
  ⟨h.size, fun k o hB hk ho => (h.block k (Array.getElem?_eq_some_iff.1 hk).1 (fun hm => by
    rcases hR k hm with h1 | ⟨c, t, h1⟩
    · omega
    · rw [hk] at h1; cases h1; cases ho)).trans hk⟩

/-- the variables of gathered -/
structure Ga (w : World) (H n : Nat) (pre : List Pr) (W : World) : Prop where
  ex : ∃ v, W.heap[H + 1]? = some (.cells #[v] 25 (0, 0)) ∧ Rw 29 encP 2 W v pre ∧ (∀ g, v.ownBlock = some g → H + 2 ≤ g)
  b0 : W.heap[H]? = some (.cells #[.int .i64 (n : Int)] 3 (0, 0))
  kp : Keep [] w W
  hH : H = w.heap.size
theorem Ga.keep {w : World} {H n : Nat} {pre : List Pr} {W W' : World} {R : List Nat} (h : Ga w H n pre W) (kk : Keep R W W') (hR : ∀ r ∈ R, H + 2 ≤ r) (hN : ∀ r ∈ R, ∃ o : Obj, W.heap[r]? = some o ∧ o.isCells = false) : Ga w H n pre W' := by
  obtain ⟨v, h1, h2, h3⟩ := h.ex
  have g : ∀ j o, j < 2 → W.heap[H + j]? = some o → W'.heap[H + j]? = some o := fun j o hj ho => (kk.block _ (Array.getElem?_eq_some_iff.1 ho).1 (fun hm => by have := hR _ hm; omega)).trans ho
  refine ⟨⟨v, g 1 _ (by omega) h1, h2.keep kk (fun x hx hm => ?_), h3⟩, g 0 _ (by omega) h.b0, h.kp.more kk (fun r hr => .inr (by have := hR r hr; have := h.hH; omega)), h.hH⟩
  obtain ⟨o, ho, hc⟩ := hN x hm
  obtain ⟨cur, hb⟩ := RowC.blk h2 hx
  rw [ho] at hb
  cases hb
  cases hc
theorem Ga.size {w : World} {H n : Nat} {pre : List Pr} {W : World} (h : Ga w H n pre W) : H + 2 ≤ W.heap.size := by
  obtain ⟨v, h1, _⟩ := h.ex
  exact (Array.getElem?_eq_some_iff.1 h1).1
theorem Ga.new (w : World) (n : Nat) : Ga w w.heap.size n [] ((w.alloc (.cells #[.int .i64 (n : Int)] 3)).alloc (.cells #[.slice none 0 0] 25)) := by
  refine ⟨⟨.slice none 0 0, ?_, Rw.nil _ _ _ _, fun g hg => by simp [Value.ownBlock] at hg⟩, (Below.heap_alloc _ _ _ (by simp)).trans (heap_alloc_new _ _), (Keep.alloc1 _ _).alloc _, rfl⟩
  have := heap_alloc_new (w.alloc (.cells #[.int .i64 (n : Int)] 3)) (.cells #[.slice none 0 0] 25)
  rwa [World.size_alloc] at this

set_option maxRecDepth 100000 in
set_option maxHeartbeats 2000000 in
theorem gathered_any (B1 B2 : Nat) (l : List Pr) (n : Nat) (w : World) (h : Sq w B1 B2 l) (hl : l.length ≤ 13194139532928) :
    Calls Try.prog 21 #[vSq B1 B2, .int .i64 (n : Int)] w fun e w' => ∃ v, e = .returned v ∧ Rw 29 encP 2 w' v (l.take n) ∧ Keep [] w w' ∧ Fresh w w' v := by
  obtain ⟨H, HH⟩ : ∃ H : Nat, Hid (H = w.heap.size) := ⟨_, show _ = _ from rfl⟩
  have hP0 := Ga.new w n
  rw [← HH.out] at hP0
  have HP0 : Hid (type_of% hP0) := hP0
  have HSq : Hid (Sq ((w.alloc (.cells #[.int .i64 (n : Int)] 3)).alloc (.cells #[.slice none 0 0] 25)) B1 B2 l) := h.keep0 hP0.kp
  have HLen : Hid (l.length ≤ 13194139532928) := hl
  have heq : ∀ w, Sem.run Try.prog (binOp BinOp.eql 44 (vSq B1 B2) Value.nilFunc) w = .ok (.bool false) w := fun w => rfl
  clear hP0 h hl
  refine (callsIn_wide (n := 6)).1 ?_
  refine callsIn_of_wp_marks Try.func21 rfl trivial ?_ rfl
  simp only [Try.ntmps21, List.size_toArray, List.length_cons, List.length_nil, Nat.reduceAdd, Nat.reduceSub, Array.replicate_succ, Array.replicate_zero, List.push_toArray, List.append_toArray, List.nil_append, List.cons_append]
  gi_wp2_with fail
  obtain ⟨w8, HW8⟩ : ∃ w8, Hid (w8 = (w.alloc (.cells #[.int .i64 (n : Int)] 3)).alloc (.cells #[.slice none 0 0] 25)) := ⟨_, show _ = _ from rfl⟩
  have HB : Hid (H + 2 = w8.heap.size) := by show _ = _; rw [HW8.out]; simp; have := HH.out; omega
  rw [← HW8.out] at HP0 HSq ⊢
  rw [← HH.out]
  refine wpIn_rangeFunc_ownH (w := w8) rfl (by omega) (gf := 68) (lb := #[.pointer (some ⟨B1, 0, none⟩), .pointer (some ⟨B2, 0, none⟩)]) rfl trivial (enters_of Try.func68 (by kernel_rfl) rfl)
    (HSq.out.stops 5) (fun h k => h.trans k) (fun W l o o' _ h1 h2 _ => kt_putObj W l o o' h1 h2) (Below.refl _ _) (fun _ => rfl)
    (fun pre W => Ga w H n pre W ∧ w8.heap.size ≤ W.heap.size ∧ pre.length ≤ n)
    (fun c p W => ∃ pre y, p = pre ++ [y] ∧ c = .exit 0 ∧ pre.length = n ∧ Ga w H n pre W)
    (fun s A B row hs hg hr => ⟨hs.1.keep (Keep.grown hg) (fun r hm => by have := (hr r (by simpa using hm)).1; have := HB.out; omega) (fun r hm => (hr r (by simpa using hm)).2), Nat.le_trans hs.2.1 hg.size, hs.2.2⟩)
    (fun c s A B row hs hg hr => by
      obtain ⟨pre, y, h1, h2, h3, h4⟩ := hs
      exact ⟨pre, y, h1, h2, h3, h4.keep (Keep.grown hg) (fun r hm => by have := (hr r (by simpa using hm)).1; have := HB.out; omega) (fun r hm => (hr r (by simpa using hm)).2)⟩)
    ⟨HP0.out, Nat.le_refl _, Nat.zero_le _⟩
    (fun y a' W => ∃ Bx, w8.heap.size ≤ Bx ∧ W.heap[Bx]? = some (.cells #[.int .i64 y.k, .int .i64 y.m] 29 (0, 0)) ∧ a' = { tmps := #[vSq B1 B2, .int .i64 (n : Int), undef, .pointer (some ⟨H, 0, none⟩), .slice none 0 0, .pointer (some ⟨H + 1, 0, none⟩), .pointer (some ⟨Bx, 0, none⟩), vSq B1 B2, .bool false, undef, undef, undef, vSq B1 B2, vP y, undef, undef, undef, undef, undef, undef, undef, undef, undef], defers := [] })
    ?ax ?assign ?body ?done ?stop
  case ax =>
    rintro y a' _ A B row ⟨Bx, h1, h2, h3⟩ hg hr
    refine ⟨Bx, h1, (hg.block Bx (Array.getElem?_eq_some_iff.1 h2).1 (fun e => ?_)).trans h2, h3⟩
    obtain ⟨_, o, ho, hc⟩ := hr Bx e.symm
    rw [h2] at ho
    cases ho
    cases hc
  case assign =>
    rintro l pre y W K hi hK
    gi_wp2
    exact hK _ _ ((Keep.alloc1 W _).from (by simp)) (Keep.alloc1 W _).kt0 ⟨hi.1.keep (Keep.alloc1 W _) (by simp) (by simp), Nat.le_trans hi.2.1 (Keep.alloc1 W _).size, hi.2.2⟩ ⟨W.heap.size, hi.2.1, heap_alloc_new _ _, rfl⟩
  case body =>
    rintro l9 pre y a' W hl9 _ ⟨hP, hsz, hple⟩ ⟨Bx, hBx, hbx, rfl⟩ hpl
    obtain ⟨⟨c9, c10⟩, _, _⟩ := two_facts hbx
    obtain ⟨v, h1, h2, h3⟩ := hP.ex
    obtain ⟨ao, cap, rfl, hc1, hc2⟩ := (h2.rd encP_len).form
    have HP : Hid (type_of% hP) := hP
    have c0 : W.cell? ⟨H, 0, none⟩ = some (.int .i64 (n : Int)) := by unfold World.cell?; rw [hP.b0]; rfl
    have c1 : W.cell? ⟨H + 1, 0, none⟩ = some (.slice ao pre.length cap) := by unfold World.cell?; rw [h1]; rfl
    have HR : Hid (Rw 29 encP 2 W (.slice ao pre.length cap) pre) := h2
    have H1 : Hid (type_of% h1) := h1
    have H3 : Hid (type_of% h3) := h3
    have HPL : Hid (pre.length < l.length) := hpl
    have HPN : Hid (pre.length ≤ n) := hple
    clear hple
    clear h1 h2 h3 hbx
    by_cases hlen : pre.length = n
    · have hli : (pre.length : Int) = (n : Int) := by omega
      have HLN : Hid (pre.length = n) := hlen
      clear hP hlen
      gi_wp2
      exact ⟨KeepsFrom.refl _ _, pre, y, rfl, rfl, HLN.out, HP.out⟩
    · have hli : ¬ (pre.length : Int) = (n : Int) := by omega
      have hpz := hP.size
      have HPN1 : Hid (pre.length + 1 ≤ n) := by show _ ≤ _; have := HPN.out; omega
      clear hP hlen
      gi_wp2_with (gi_at_builtin; refine wpIn_appC infoP rfl rfl (.tmp 18) (.tmp 20) 25 25 rfl Try.underlying25 (.slice ao pre.length cap) pre.length (pre.flatMap encP) rfl (RowC.keep HR.out (Keep.alloc1 W _) (Off.nil _)) (.slice (some ⟨W.heap.size, 0, none⟩) 1 1) 1 (encP y) rfl (src_pair W y) (by have := HPL.out; have := HLen.out; omega) (by have := HPL.out; have := HLen.out; simp only [maxLen]; omega) ?_; intro v' w1 a1 a2 a3 a4 a5; obtain ⟨ao', cap', rfl⟩ := a4; have hb1 := (a2.block (H + 1) (by simp; omega) (fun hm => by have := H3.out (H + 1) (by simpa using hm); omega)).trans ((Below.heap_alloc _ _ _ (by omega)).trans H1.out); have d1 : w1.cell? ⟨H + 1, 0, none⟩ = some (.slice ao pre.length cap) := (by unfold World.cell?; rw [hb1]; rfl); have f1 : w1.frozen? ⟨H + 1, 0, none⟩ = false := (by unfold World.frozen?; rw [hb1]; rfl))
      have hbW := HB.out
      have k1 : Keep ((Value.slice ao pre.length cap).ownBlock.toList ++ [H + 1]) W (w1.setCell ⟨H + 1, 0, none⟩ (.slice ao' (pre.length + 1) cap')) :=
        (((Keep.alloc1 W _).mono (by simp)).trans (a2.mono (G := (Value.slice ao pre.length cap).ownBlock.toList ++ [H + 1]) (fun x hx => .inl (by simp at hx; simp [hx]))) (fun x hx => .inl hx) (fun x hx => .inl hx)).setCell (.inl (by simp)) _
      have hblk : ∀ r ∈ (Value.slice ao pre.length cap).ownBlock.toList ++ [H + 1], r < w8.heap.size ∨ ∃ c, W.heap[r]? = some (.cells c 29 (0, 0)) := fun r hr => by
        rcases List.mem_append.1 hr with h1 | h1
        · exact .inr (RowC.blk HR.out (by simpa using h1))
        · simp at h1; exact .inl (by omega)
      refine ⟨k1.from' (fun r hr => (hblk r hr).imp id (fun ⟨c, hc⟩ => ⟨c, _, hc⟩)), k1.kt (fun r hr c hc => ?_), ⟨⟨_, one_setCell hb1, ?_, ?_⟩, ?_, ?_, HH.out⟩, Nat.le_trans hsz k1.size, by rw [List.length_append]; exact HPN1.out⟩
      · rcases List.mem_append.1 hr with h1 | h1
        · obtain ⟨c2, h2⟩ := RowC.blk HR.out (g := r) (by simpa using h1)
          rw [h2] at hc
          cases hc
        · simp at h1; subst h1; rw [H1.out] at hc; cases hc
      · have e : (pre ++ [y]).flatMap encP = pre.flatMap encP ++ encP y := by simp
        show RowC _ _ _ _ _ _
        rw [e, List.length_append]
        refine RowC.keep a1 (Keep.set1 w1 ⟨H + 1, 0, none⟩ _) (fun g hg hm => ?_)
        simp at hm
        obtain ⟨c2, h2⟩ := RowC.blk a1 hg
        rw [hm, hb1] at h2
        cases h2
      · intro g hg
        rcases a3 with h1 | h1
        · exact H3.out g (by rw [← h1]; exact hg)
        · have := (h1 g hg).1
          simp at this
          omega
      · exact (k1.block H (by omega) (fun hm => by
          rcases List.mem_append.1 hm with h1 | h1
          · have := H3.out H (by simpa using h1); omega
          · simp at h1)).trans HP.out.b0
      · refine HP.out.kp.more k1 (fun x hx => .inr ?_)
        have hw := HH.out
        rcases List.mem_append.1 hx with h1 | h1
        · have := H3.out x (by simpa using h1); omega
        · simp at h1; omega
  case stop =>
    rintro D c p W hD hpre ⟨pre, y, rfl, rfl, hlen, hP⟩ hK
    have hQ := hP.keep (Keep.grown (grownBy_putObj' W D (.deferred none))) (fun r hr => by simp at hr; have := HB.out; omega) (fun r hr => by simp at hr; subst hr; exact ⟨_, hK, rfl⟩)
    obtain ⟨v, h1, h2, h3⟩ := hP.ex
    have c1 : W.cell? ⟨H + 1, 0, none⟩ = some v := by unfold World.cell?; rw [h1]; rfl
    have HR : Hid (type_of% h2) := h2
    have H3 : Hid (type_of% h3) := h3
    have HP : Hid (type_of% hQ) := hQ
    have HN : Hid (pre = l.take n) := by
      show _ = _
      obtain ⟨t, ht⟩ := hpre
      rw [← ht, ← hlen]
      simp
    have HKW : Hid (Keep [D] W (W.putObj D (.deferred none))) := Keep.grown (grownBy_putObj' W D (.deferred none))
    have HDC : Hid (∀ g, v.ownBlock = some g → g ≠ D) := fun g hg e => by
      obtain ⟨cur, hb⟩ := RowC.blk h2 hg
      rw [e, hK] at hb
      cases hb
    clear hP hQ h1 h2 h3 hlen hpre
    gi_wp2
    refine ⟨by simp, .inl ⟨_, _, rfl, run_takeDeferred hK, ?_⟩⟩
    refine ⟨_, results_tmp rfl _ _ _, v, rfl, ?_, HP.out.kp, fun g hg => ⟨by have := H3.out g hg; have := HH.out; omega, ?_⟩⟩
    · rw [← HN.out]; exact HR.out.keep HKW.out (fun g hg hm => by simp at hm; exact HDC.out g hg hm)
    · have := HR.out.lt g hg; exact Nat.lt_of_lt_of_le this HKW.out.size
  case done =>
    rintro D ys W hD rfl ⟨hP, _, hlen⟩ hK
    have hQ := hP.keep (Keep.grown (grownBy_putObj' W D (.deferred none))) (fun r hr => by simp at hr; have := HB.out; omega) (fun r hr => by simp at hr; subst hr; exact ⟨_, hK, rfl⟩)
    obtain ⟨v, h1, h2, h3⟩ := hP.ex
    have c1 : W.cell? ⟨H + 1, 0, none⟩ = some v := by unfold World.cell?; rw [h1]; rfl
    have HR : Hid (type_of% h2) := h2
    have H3 : Hid (type_of% h3) := h3
    have HP : Hid (type_of% hQ) := hQ
    have HN : Hid (ys = ys.take n) := by
      show _ = _
      rw [List.take_of_length_le hlen]
    have HKW : Hid (Keep [D] W (W.putObj D (.deferred none))) := Keep.grown (grownBy_putObj' W D (.deferred none))
    have HDC : Hid (∀ g, v.ownBlock = some g → g ≠ D) := fun g hg e => by
      obtain ⟨cur, hb⟩ := RowC.blk h2 hg
      rw [e, hK] at hb
      cases hb
    clear hP hQ h1 h2 h3 hlen
    gi_wp2
    refine ⟨by simp, .inl ⟨_, _, rfl, run_takeDeferred hK, ?_⟩⟩
    refine ⟨_, results_tmp rfl _ _ _, v, rfl, ?_, HP.out.kp, fun g hg => ⟨by have := H3.out g hg; have := HH.out; omega, ?_⟩⟩
    · rw [← HN.out]; exact HR.out.keep HKW.out (fun g hg hm => by simp at hm; exact HDC.out g hg hm)
    · have := HR.out.lt g hg; exact Nat.lt_of_lt_of_le this HKW.out.size

end Go.Proofs.Ytkelhglflpdpeaa
