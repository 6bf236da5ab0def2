/- Does a sequence tell just these? -/
import Derived.Test.YtkelhglflpdpeaaLg

namespace Go.Proofs.Ytkelhglflpdpeaa
open Go.RowKit Go.PlainAid Go.Shelf
attribute [local go_sem] Oper.semAt_some

/-- the variables of told: what is wanted, the answer, how many have come -/
structure Td (w : World) (H : Nat) (v : Value) (n : Nat) (c : Bool) (W : World) : Prop where
  b0 : W.heap[H]? = some (.cells #[v] 25 (0, 0))
  b1 : W.heap[H + 1]? = some (.cells #[.bool c] 4 (0, 0))
  b2 : W.heap[H + 2]? = some (.cells #[.int .i64 (n : Int)] 3 (0, 0))
  kp : Keep [] w W
  hH : H = w.heap.size
theorem Td.keep {w : World} {H : Nat} {v : Value} {n : Nat} {c : Bool} {W W' : World} {R : List Nat} (h : Td w H v n c W) (kk : Keep R W W') (hR : ∀ r ∈ R, H + 3 ≤ r) : Td w H v n c W' := by
  have g : ∀ j o, j < 3 → W.heap[H + j]? = some o → W'.heap[H + j]? = some o := fun j o hj ho => (kk.block _ (Array.getElem?_eq_some_iff.1 ho).1 (fun hm => by have := hR _ hm; omega)).trans ho
  exact ⟨g 0 _ (by omega) h.b0, g 1 _ (by omega) h.b1, g 2 _ (by omega) h.b2, h.kp.more kk (fun r hr => .inr (by have := hR r hr; have := h.hH; omega)), h.hH⟩
theorem Td.size {w : World} {H : Nat} {v : Value} {n : Nat} {c : Bool} {W : World} (h : Td w H v n c W) : H + 3 ≤ W.heap.size := (Array.getElem?_eq_some_iff.1 h.b2).1
theorem Td.cells {w : World} {H : Nat} {v : Value} {n : Nat} {c : Bool} {W : World} (h : Td w H v n c W) :
    (W.cell? ⟨H, 0, none⟩ = some v ∧ W.cell? ⟨H + 1, 0, none⟩ = some (.bool c) ∧ W.cell? ⟨H + 2, 0, none⟩ = some (.int .i64 (n : Int))) ∧ (W.frozen? ⟨H + 1, 0, none⟩ = false ∧ W.frozen? ⟨H + 2, 0, none⟩ = false) := by
  obtain ⟨b0, b1, b2, _, _⟩ := h
  refine ⟨⟨?_, ?_, ?_⟩, ?_, ?_⟩
  all_goals first | (unfold World.cell?; first | (rw [b0]; rfl) | (rw [b1]; rfl) | (rw [b2]; rfl)) | (unfold World.frozen?; first | (rw [b1]; rfl) | (rw [b2]; rfl))
theorem Td.new (w : World) (v : Value) : Td w w.heap.size v 0 false (((w.alloc (.cells #[v] 25)).alloc (.cells #[.bool false] 4)).alloc (.cells #[.int .i64 0] 3)) := by
  refine ⟨(Below.heap_alloc _ _ _ (by simp only [World.size_alloc]; omega)).trans ((Below.heap_alloc _ _ _ (by simp)).trans (heap_alloc_new _ _)), ?_, ?_, ((Keep.alloc1 _ _).alloc _).alloc _, rfl⟩
  · have := heap_alloc_new (w.alloc (.cells #[v] 25)) (.cells #[.bool false] 4)
    rw [World.size_alloc] at this
    exact (Below.heap_alloc _ _ _ (by simp)).trans this
  · have := heap_alloc_new ((w.alloc (.cells #[v] 25)).alloc (.cells #[.bool false] 4)) (.cells #[.int .i64 0] 3)
    rw [World.size_alloc, World.size_alloc] at this
    exact this
theorem Td.setC {w : World} {H : Nat} {v : Value} {n : Nat} {c : Bool} {W : World} (h : Td w H v n c W) (d : Bool) : Td w H v n d (W.setCell ⟨H + 1, 0, none⟩ (.bool d)) := by
  have kk : Keep [H + 1] W (W.setCell ⟨H + 1, 0, none⟩ (.bool d)) := Keep.set1 W ⟨H + 1, 0, none⟩ _
  have g : ∀ m o, m ≠ 1 → W.heap[H + m]? = some o → (W.setCell ⟨H + 1, 0, none⟩ (.bool d)).heap[H + m]? = some o := fun m o hm ho => (kk.block _ (Array.getElem?_eq_some_iff.1 ho).1 (by simp; omega)).trans ho
  exact ⟨g 0 _ (by omega) h.b0, one_setCell h.b1, g 2 _ (by omega) h.b2, h.kp.more kk (fun r hr => .inr (by simp at hr; have := h.hH; omega)), h.hH⟩
theorem Td.setN {w : World} {H : Nat} {v : Value} {n : Nat} {c : Bool} {W : World} (h : Td w H v n c W) (m : Nat) : Td w H v m c (W.setCell ⟨H + 2, 0, none⟩ (.int .i64 (m : Int))) := by
  have kk : Keep [H + 2] W (W.setCell ⟨H + 2, 0, none⟩ (.int .i64 (m : Int))) := Keep.set1 W ⟨H + 2, 0, none⟩ _
  have g : ∀ m' o, m' ≠ 2 → W.heap[H + m']? = some o → (W.setCell ⟨H + 2, 0, none⟩ (.int .i64 (m : Int))).heap[H + m']? = some o := fun m' o hm ho => (kk.block _ (Array.getElem?_eq_some_iff.1 ho).1 (by simp; omega)).trans ho
  exact ⟨g 0 _ (by omega) h.b0, g 1 _ (by omega) h.b1, one_setCell h.b2, h.kp.more kk (fun r hr => .inr (by simp at hr; have := h.hH; omega)), h.hH⟩
/-- a row of pairs is no single cell of another type: not wanted where nothing new is told -/
theorem kt_boxes {w : World} {H : Nat} {v : Value} {n : Nat} {c : Bool} {W W' : World} {R : List Nat} (h : Td w H v n c W) (kk : Keep R W W') (hR : ∀ r ∈ R, r = H + 1 ∨ r = H + 2) : KT W W' := kk.kt (fun r hr x hx => by
  rcases hR r hr with rfl | rfl
  · rw [h.b1] at hx; cases hx
  · rw [h.b2] at hx; cases hx)

theorem told_next {w : World} {H : Nat} {v : Value} {n m : Nat} {W : World} {B : Nat} (h : Td w H v n false W) (hB : H + 3 = B) (hsz : B ≤ W.heap.size) (z : Int) (hz : z = ((n + 1 : Nat) : Int)) (hm : m = n + 1) :
    KeepsFrom B W (W.setCell ⟨H + 2, 0, none⟩ (.int .i64 z)).drew ∧ KT W (W.setCell ⟨H + 2, 0, none⟩ (.int .i64 z)).drew ∧ Td w H v m false (W.setCell ⟨H + 2, 0, none⟩ (.int .i64 z)).drew ∧ B ≤ (W.setCell ⟨H + 2, 0, none⟩ (.int .i64 z)).drew.heap.size := by
  subst hz hm
  have kk : Keep [H + 2] W (W.setCell ⟨H + 2, 0, none⟩ (.int .i64 ((n + 1 : Nat) : Int))).drew := ((Keep.refl _ W).setCell (.inl (by simp)) _).drew
  exact ⟨kk.from (by intro r hr; simp at hr; omega), kt_boxes h kk (by simp), (h.setN (n + 1)).keep ((Keep.refl [] _).drew) (by simp), Nat.le_trans hsz kk.size⟩
theorem told_stop {H : Nat} {W : World} {B : Nat} (hB : H + 3 = B) : KeepsFrom B W (W.setCell ⟨H + 1, 0, none⟩ (.bool false)).drew :=
  Keep.from (R := [H + 1]) (((Keep.refl _ W).setCell (.inl (by simp)) _).drew) (by intro r hr; simp at hr; omega)

set_option maxRecDepth 100000 in
set_option maxHeartbeats 40000000 in
theorem told_yes (B1 B2 : Nat) (l : List Pr) (v0 : Value) (w : World) (h : Sq w B1 B2 l) (hv : Rd encP 2 w v0 l) :
    Calls Try.prog 27 #[vSq B1 B2, v0] w fun e w' => e = .returned (.bool true) ∧ Keep [] w w' := by
  obtain ⟨H, HH⟩ : ∃ H : Nat, Hid (H = w.heap.size) := ⟨_, show _ = _ from rfl⟩
  obtain ⟨ao, cap, rfl, hc1, hc2⟩ := hv.form
  have hP0 := Td.new w (.slice ao l.length cap)
  rw [← HH.out] at hP0
  have HP0 : Hid (type_of% hP0) := hP0
  have HSq : Hid (Sq (((w.alloc (.cells #[.slice ao l.length cap] 25)).alloc (.cells #[.bool false] 4)).alloc (.cells #[.int .i64 0] 3)) B1 B2 l) := h.keep0 hP0.kp
  have HLen : Hid (l.length ≤ 1152921504606846976) := h.len
  have HV : Hid (Rd encP 2 w (.slice ao l.length cap) l) := hv
  clear hP0 h hv
  refine (callsIn_wide (n := 6)).1 ?_
  refine callsIn_of_wp_marks Try.func27 rfl trivial ?_ rfl
  simp only [Try.ntmps27, List.size_toArray, List.length_cons, List.length_nil, Nat.reduceAdd, Nat.reduceSub, Array.replicate_succ, Array.replicate_zero, List.push_toArray, List.append_toArray, List.nil_append, List.cons_append]
  gi_wp2_with fail
  obtain ⟨w8, HW8⟩ : ∃ w8, Hid (w8 = (((w.alloc (.cells #[.slice ao l.length cap] 25)).alloc (.cells #[.bool false] 4)).alloc (.cells #[.int .i64 0] 3))) := ⟨_, show _ = _ from rfl⟩
  have HB : Hid (H + 3 = w8.heap.size) := by show _ = _; rw [HW8.out]; simp; have := HH.out; omega
  rw [← HW8.out] at HP0 HSq ⊢
  rw [← HH.out]
  simp only [Nat.add_assoc, Nat.reduceAdd]
  refine wpIn_rangeFunc_ownH (w := w8) rfl (by omega) (gf := 68) (lb := #[.pointer (some ⟨B1, 0, none⟩), .pointer (some ⟨B2, 0, none⟩)]) rfl trivial (enters_of Try.func68 (by kernel_rfl) rfl)
    (HSq.out.stops 5) (fun h k => h.trans k) (fun W l o o' _ h1 h2 _ => kt_putObj W l o o' h1 h2) (Below.refl _ _) (fun _ => rfl)
    (fun pre W => Td w H (.slice ao l.length cap) pre.length false W ∧ w8.heap.size ≤ W.heap.size)
    (fun c p _ => ¬ p <+: l)
    (fun s A B row hs hg hr => ⟨hs.1.keep (Keep.grown hg) (fun r hm => by have := (hr r (by simpa using hm)).1; have := HB.out; omega), Nat.le_trans hs.2 hg.size⟩)
    (fun c s A B row hs hg hr => hs)
    ⟨HP0.out, Nat.le_refl _⟩
    (fun y a' W => ∃ Bx, w8.heap.size ≤ Bx ∧ W.heap[Bx]? = some (.cells #[.int .i64 y.k, .int .i64 y.m] 29 (0, 0)) ∧ a' = { tmps := #[vSq B1 B2, .slice ao l.length cap, undef, .pointer (some ⟨H, 0, none⟩), .pointer (some ⟨H + 1, 0, none⟩), .pointer (some ⟨H + 2, 0, none⟩), .pointer (some ⟨Bx, 0, none⟩), vSq B1 B2, vP y, undef, undef, undef, undef, undef, undef, undef, undef, undef, undef, undef, undef, undef, undef, undef, undef, undef, undef], defers := [] })
    ?ax ?assign ?body ?done ?stop
  case ax =>
    rintro y a' _ A B row ⟨Bx, h1, h2, h3⟩ hg hr
    refine ⟨Bx, h1, (hg.block Bx (Array.getElem?_eq_some_iff.1 h2).1 (fun e => ?_)).trans h2, h3⟩
    obtain ⟨_, o, ho, hc⟩ := hr Bx e.symm
    rw [h2] at ho
    cases ho
    cases hc
  case assign =>
    rintro l9 pre y W K hi hK
    gi_wp2
    exact hK _ _ ((Keep.alloc1 W _).from (by simp)) (Keep.alloc1 W _).kt0 ⟨hi.1.keep (Keep.alloc1 W _) (by simp), Nat.le_trans hi.2 (Keep.alloc1 W _).size⟩ ⟨W.heap.size, hi.2, heap_alloc_new _ _, rfl⟩
  case stop =>
    rintro D c pre W hD hpre hn hK
    exact absurd hpre hn
  case done =>
    rintro D ys W hD rfl ⟨hP, _⟩ hK
    have HP : Hid (type_of% hP) := hP
    obtain ⟨⟨c0, c1, c2⟩, f1, f2⟩ := hP.cells
    have hmx : Try.prog.follows .mixedOrders = true := by kernel_rfl
    clear hP
    gi_wp2
    have hP9 := HP.out.setC true
    have hB8 := HB.out
    have kD : Keep [H + 1] W (W.setCell ⟨H + 1, 0, none⟩ (.bool true)) := Keep.set1 _ ⟨H + 1, 0, none⟩ _
    have hK9 := (kD.block D (Array.getElem?_eq_some_iff.1 hK).1 (by simp; omega)).trans hK
    refine ⟨by simp, .inl ⟨_, _, rfl, run_takeDeferred hK9, ?_⟩⟩
    have hQ := hP9.keep (Keep.grown (grownBy_putObj' _ D (.deferred none))) (fun r hr => by simp at hr; omega)
    obtain ⟨⟨c0, c1, c2⟩, f1, f2⟩ := hQ.cells
    exact ⟨_, by simp [results, Try.results27, go_sem, c1], rfl, hQ.kp⟩
  case body =>
    rintro l9 pre y a' W hl9 _ ⟨hP, hsz⟩ ⟨Bx, hBx, hbx, rfl⟩ hpl
    obtain ⟨⟨c9, c10⟩, _, _⟩ := two_facts hbx
    have HP : Hid (type_of% hP) := hP
    obtain ⟨⟨c0, c1, c2⟩, f1, f2⟩ := hP.cells
    have hmx : Try.prog.follows .mixedOrders = true := by kernel_rfl
    have hli : (pre.length : Int) < (l.length : Int) := by omega
    have hl0 : (0 : Int) ≤ (pre.length : Int) := by omega
    obtain ⟨b, o, c, he, hb, e0, e1⟩ := (HV.out.keep hP.kp (Off.nil _)).pair pre.length hpl
    simp at he
    obtain ⟨rfl, rfl⟩ := he
    have HZ : Hid (∀ (q : Pr), l[pre.length] = q → y ≠ q → ¬ (pre ++ [y]) <+: l) := by
      rintro q rfl hne ⟨t, ht⟩
      apply hne
      have h2 : (pre ++ [y] ++ t)[pre.length]'(by simp) = l[pre.length] := by simp only [ht]
      rw [← h2]
      simp
    have HLn : Hid (pre.length < l.length) := hpl
    generalize l[pre.length] = q at *
    clear hP hbx
    obtain ⟨d, HD⟩ : ∃ d : Bool, Hid (d = !decide (y.k = q.k ∧ y.m = q.m)) := ⟨_, show _ = _ from rfl⟩
    have hcmp : ∀ w, Sem.run Try.prog (binOp BinOp.neq 29 (.agg #[.int .i64 y.k, .int .i64 y.m]) (.agg #[.int .i64 q.k, .int .i64 q.m])) w = .ok (.bool d) w := fun w => by
      rw [HD.out]
      by_cases hk : y.k = q.k
      · by_cases hm : y.m = q.m
        · simp [go_sem, hk, hm]
        · simp [go_sem, hk, hm]
      · simp [go_sem, hk]
    have HDT : Hid (d = true → ¬ (pre ++ [y]) <+: l) := fun h => HZ.out q rfl (fun e => by rw [HD.out, e] at h; simp at h)
    have hlq : ¬ (l.length : Int) ≤ (pre.length : Int) := by omega
    clear HZ HD HV HP0 HW8 HSq
    gi_wp2
    have HDec : Hid (decide (l.length ≤ pre.length) = false) := by show _ = _; simp; omega
    gi_region_o
    all_goals
      rw [HDec.out, Bool.false_or]
      clear hlq hli hl0 hpl hc1 hc2 hcmp c9 c10 e0 e1 c0 hb hBx hl9 HDec
      cases d
      · clear HDT
        gi_wp2
        refine told_next HP.out HB.out hsz _ ?_ (by simp)
        have hw := HLen.out
        have hw2 := HLn.out
        have e64 : wrap64 ((pre.length : Int) + 1) = (pre.length : Int) + 1 := by unfold wrap64; omega
        first | (rw [e64]; simp; done) | (simp [e64]; done)
      · have HDU := HDT.out rfl
        have HDV : Hid (type_of% HDU) := HDU
        clear HDT HDU
        gi_wp2
        exact ⟨told_stop HB.out, HDV.out⟩

end Go.Proofs.Ytkelhglflpdpeaa
