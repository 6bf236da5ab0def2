/- Where a text stands; ranges over a sequence of texts. -/
import Derived.Test.YtkelhglflpdpeaaSf
import Derived.Test.YtkelhglflpdpeaaRr
import Derived.RangeFuncNested
import Derived.Laws.EntriesVeiled

namespace Go.Proofs.Ytkelhglflpdpeaa
open Go.RowKit Go.PlainAid Go.Shelf
attribute [local go_sem] Oper.semAt_some


theorem ks_putObj (W : World) (l : Nat) (o o' : Obj) (hl : W.heap[l]? = some o) (ho : o.isCells = false) : KS W (W.putObj l o') := fun b c hb => by
  rw [World.putObj_heap_other (fun e => ?_)]
  · exact hb
  · subst e; rw [hl] at hb; cases hb; cases ho

theorem range_ss {B1 B2 : Nat} {L : List St} {g : Operand} {ps : Array Tmp} {assign body : Code} {Q0 : Exit → Act → World → Prop} {id : Nat} {a : Act} {w : World}
    (hg : a.eval g = vSs B1 B2) (hps : ps.size = 1) (hsq : SqS w B1 B2 L)
    (I : List St → World → Prop) (Ix : Code → List St → World → Prop) (hI : OwnFrom w.heap.size I) (hIx : ∀ c, OwnFrom w.heap.size (Ix c)) (h0 : I [] w)
    (R R' : World → Prop) (hdone : ∀ W, I L W → R W) (hstop : ∀ c pre W, pre <+: L → Ix c pre W → (c = .exit id ∧ R W) ∨ (c = .ret ∧ R' W))
    (fr : St → Act)
    (hassign : ∀ (l : Nat) (y : St) (W : World) (K : Act → World → Prop), K (fr y) W →
      assign.wpIn (Fence.wide.inRound l) 4 Try.prog (Exit.then K (fun _ _ _ => False)) { tmps := (ps.zip #[vT y]).foldl (fun t (p, v) => t.setIfInBounds p v) a.tmps, defers := [] } W)
    (hbody : ∀ (l : Nat) (pre : List St) (y : St) (W : World), w.heap.size ≤ l → I pre W → pre.length < L.length →
      body.wpIn (Fence.wide.inRound l) 4 Try.prog (ownPostG w.heap.size KS I Ix (pre ++ [y]) W) (fr y) W)
    (hrest : ∀ (D : Nat) (W : World), w.heap.size ≤ D → R W → W.heap[D]? = some (.deferred (some [])) → Q0 .normal { a with defers := { target := .collected D, args := #[] } :: a.defers } W)
    (hret : ∀ (D : Nat) (W : World), w.heap.size ≤ D → R' W → W.heap[D]? = some (.deferred (some [])) → Q0 .ret { a with defers := { target := .collected D, args := #[] } :: a.defers } W) :
    (Code.rangeFunc g ps assign body).wp Try.prog (Exit.inBlock id Q0) a w := by
  refine (wpIn_wide (n := 6)).1 ?_
  refine wpIn_rangeFunc_ownH (w := w) rfl (by omega) (gf := 75) (lb := #[.pointer (some ⟨B1, 0, none⟩), .pointer (some ⟨B2, 0, none⟩)]) hg trivial (enters_of Try.func75 (by kernel_rfl) rfl)
    (hsq.stops 5) (fun h k => h.trans k) (fun W l o o' _ h1 h2 _ => ks_putObj W l o o' h1 h2) (Below.refl _ _) (fun _ => by simp [hps])
    I Ix hI hIx h0 (fun y a' W => a' = fr y) ?ax ?assign ?body ?done ?stop
  case ax =>
    rintro y a' _ A B row h hg hr
    exact h
  case assign =>
    rintro l9 pre y W K hi hK
    exact hassign l9 y W K (hK _ _ ((Keep.refl [] W).from (by simp)) (KS.refl _) hi rfl)
  case body =>
    rintro l9 pre y a' W hl9 _ hi rfl hpl
    exact hbody l9 pre y W hl9 hi hpl
  case done =>
    rintro D ys W hD rfl hi hK
    exact hrest D W hD (hdone W hi) hK
  case stop =>
    rintro D c pre W hD hpre hx hK
    rcases hstop c pre W hpre hx with ⟨rfl, hR⟩ | ⟨rfl, hR⟩
    · refine wpIn_exit ?_
      simp only [Exit.inBlock, if_pos]
      exact hrest D W hD hR hK
    · exact wpIn_ret (hret D W hD hR hK)

/-- the variables of place: comparison, text, place, like one, is it there -/
structure PS (w : World) (H : Nat) (x : St) (i : Int) (z : St) (c : Bool) (W : World) : Prop where
  b0 : W.heap[H]? = some (.cells #[.func (.func 37) #[] #[]] 69 (0, 0))
  b1 : W.heap[H + 1]? = some (.cells #[.string x] 9 (0, 0))
  b2 : W.heap[H + 2]? = some (.cells #[.int .i64 i] 3 (0, 0))
  b3 : W.heap[H + 3]? = some (.cells #[.string z] 9 (0, 0))
  b4 : W.heap[H + 4]? = some (.cells #[.bool c] 4 (0, 0))
  kp : Keep [] w W
  hH : H = w.heap.size
theorem PS.keep {w : World} {H : Nat} {x : St} {i : Int} {z : St} {c : Bool} {W : World} {W' : World} {R : List Nat} (h : PS w H x i z c W) (kk : Keep R W W') (hR : ∀ r ∈ R, H + 5 ≤ r) : PS w H x i z c W' := by
  have g : ∀ j o, j < 5 → W.heap[H + j]? = some o → W'.heap[H + j]? = some o := fun j o hj ho => (kk.block _ (Array.getElem?_eq_some_iff.1 ho).1 (fun hm => by have := hR _ hm; omega)).trans ho
  exact ⟨g 0 _ (by omega) h.b0, g 1 _ (by omega) h.b1, g 2 _ (by omega) h.b2, g 3 _ (by omega) h.b3, g 4 _ (by omega) h.b4, h.kp.more kk (fun r hr => .inr (by have := hR r hr; have := h.hH; omega)), h.hH⟩
theorem PS.size {w : World} {H : Nat} {x : St} {i : Int} {z : St} {c : Bool} {W : World} (h : PS w H x i z c W) : H + 5 ≤ W.heap.size := (Array.getElem?_eq_some_iff.1 h.b4).1
theorem one_cellS {W : World} {b : Nat} {v : Value} {t : TypeId} (h : W.heap[b]? = some (.cells #[v] t (0, 0))) : W.cell? ⟨b, 0, none⟩ = some v := by unfold World.cell?; rw [h]; rfl
theorem one_freeS {W : World} {b : Nat} {v : Value} {t : TypeId} (h : W.heap[b]? = some (.cells #[v] t (0, 0))) : W.frozen? ⟨b, 0, none⟩ = false := by unfold World.frozen?; rw [h]; rfl
theorem PS.cells {w : World} {H : Nat} {x : St} {i : Int} {z : St} {c : Bool} {W : World} (h : PS w H x i z c W) :
    (W.cell? ⟨H, 0, none⟩ = some (.func (.func 37) #[] #[]) ∧ W.cell? ⟨H + 1, 0, none⟩ = some (.string x) ∧ W.cell? ⟨H + 2, 0, none⟩ = some (.int .i64 i) ∧ W.cell? ⟨H + 3, 0, none⟩ = some (.string z) ∧ W.cell? ⟨H + 4, 0, none⟩ = some (.bool c)) ∧
    (W.frozen? ⟨H + 2, 0, none⟩ = false ∧ W.frozen? ⟨H + 3, 0, none⟩ = false ∧ W.frozen? ⟨H + 4, 0, none⟩ = false) :=
  ⟨⟨one_cellS h.b0, one_cellS h.b1, one_cellS h.b2, one_cellS h.b3, one_cellS h.b4⟩, one_freeS h.b2, one_freeS h.b3, one_freeS h.b4⟩
theorem PS.new (w : World) (x : St) : PS w w.heap.size x 0 ⟨#[]⟩ false (((((w.alloc (.cells #[.func (.func 37) #[] #[]] 69)).alloc (.cells #[.string x] 9)).alloc (.cells #[.int .i64 0] 3)).alloc (.cells #[.string ⟨#[]⟩] 9)).alloc (.cells #[.bool false] 4)) := by
  refine ⟨?_, ?_, ?_, ?_, ?_, ((((Keep.alloc1 _ _).alloc _).alloc _).alloc _).alloc _, rfl⟩
  · exact (Below.heap_alloc _ _ _ (by simp only [World.size_alloc]; omega)).trans ((Below.heap_alloc _ _ _ (by simp only [World.size_alloc]; omega)).trans ((Below.heap_alloc _ _ _ (by simp only [World.size_alloc]; omega)).trans ((Below.heap_alloc _ _ _ (by simp)).trans (heap_alloc_new _ _))))
  · have := heap_alloc_new (w.alloc (.cells #[.func (.func 37) #[] #[]] 69)) (.cells #[.string x] 9)
    rw [World.size_alloc] at this
    exact (Below.heap_alloc _ _ _ (by simp only [World.size_alloc]; omega)).trans ((Below.heap_alloc _ _ _ (by simp only [World.size_alloc]; omega)).trans ((Below.heap_alloc _ _ _ (by simp)).trans this))
  · have := heap_alloc_new ((w.alloc (.cells #[.func (.func 37) #[] #[]] 69)).alloc (.cells #[.string x] 9)) (.cells #[.int .i64 0] 3)
    rw [World.size_alloc, World.size_alloc] at this
    exact (Below.heap_alloc _ _ _ (by simp only [World.size_alloc]; omega)).trans ((Below.heap_alloc _ _ _ (by simp)).trans this)
  · have := heap_alloc_new (((w.alloc (.cells #[.func (.func 37) #[] #[]] 69)).alloc (.cells #[.string x] 9)).alloc (.cells #[.int .i64 0] 3)) (.cells #[.string ⟨#[]⟩] 9)
    rw [World.size_alloc, World.size_alloc, World.size_alloc] at this
    exact (Below.heap_alloc _ _ _ (by simp)).trans this
  · have := heap_alloc_new ((((w.alloc (.cells #[.func (.func 37) #[] #[]] 69)).alloc (.cells #[.string x] 9)).alloc (.cells #[.int .i64 0] 3)).alloc (.cells #[.string ⟨#[]⟩] 9)) (.cells #[.bool false] 4)
    rw [World.size_alloc, World.size_alloc, World.size_alloc, World.size_alloc] at this
    exact this
theorem PS.setI {w : World} {H : Nat} {x : St} {i : Int} {z : St} {c : Bool} {W : World} (h : PS w H x i z c W) (j : Int) : PS w H x j z c (W.setCell ⟨H + 2, 0, none⟩ (.int .i64 j)) := by
  have kk : Keep [H + 2] W (W.setCell ⟨H + 2, 0, none⟩ (.int .i64 j)) := Keep.set1 W ⟨H + 2, 0, none⟩ _
  have g : ∀ m o, m ≠ 2 → W.heap[H + m]? = some o → (W.setCell ⟨H + 2, 0, none⟩ (.int .i64 j)).heap[H + m]? = some o := fun m o hm ho => (kk.block _ (Array.getElem?_eq_some_iff.1 ho).1 (by simp; omega)).trans ho
  exact ⟨g 0 _ (by omega) h.b0, g 1 _ (by omega) h.b1, one_setCell h.b2, g 3 _ (by omega) h.b3, g 4 _ (by omega) h.b4, h.kp.more kk (fun r hr => .inr (by simp at hr; have := h.hH; omega)), h.hH⟩
theorem PS.setZ {w : World} {H : Nat} {x : St} {i : Int} {z : St} {c : Bool} {W : World} (h : PS w H x i z c W) (y : St) : PS w H x i y c (W.setCell ⟨H + 3, 0, none⟩ (.string y)) := by
  have kk : Keep [H + 3] W (W.setCell ⟨H + 3, 0, none⟩ (.string y)) := Keep.set1 W ⟨H + 3, 0, none⟩ _
  have g : ∀ m o, m ≠ 3 → W.heap[H + m]? = some o → (W.setCell ⟨H + 3, 0, none⟩ (.string y)).heap[H + m]? = some o := fun m o hm ho => (kk.block _ (Array.getElem?_eq_some_iff.1 ho).1 (by simp; omega)).trans ho
  exact ⟨g 0 _ (by omega) h.b0, g 1 _ (by omega) h.b1, g 2 _ (by omega) h.b2, one_setCell h.b3, g 4 _ (by omega) h.b4, h.kp.more kk (fun r hr => .inr (by simp at hr; have := h.hH; omega)), h.hH⟩
theorem PS.setC {w : World} {H : Nat} {x : St} {i : Int} {z : St} {c : Bool} {W : World} (h : PS w H x i z c W) (d : Bool) : PS w H x i z d (W.setCell ⟨H + 4, 0, none⟩ (.bool d)) := by
  have kk : Keep [H + 4] W (W.setCell ⟨H + 4, 0, none⟩ (.bool d)) := Keep.set1 W ⟨H + 4, 0, none⟩ _
  have g : ∀ m o, m ≠ 4 → W.heap[H + m]? = some o → (W.setCell ⟨H + 4, 0, none⟩ (.bool d)).heap[H + m]? = some o := fun m o hm ho => (kk.block _ (Array.getElem?_eq_some_iff.1 ho).1 (by simp; omega)).trans ho
  exact ⟨g 0 _ (by omega) h.b0, g 1 _ (by omega) h.b1, g 2 _ (by omega) h.b2, g 3 _ (by omega) h.b3, one_setCell h.b4, h.kp.more kk (fun r hr => .inr (by simp at hr; have := h.hH; omega)), h.hH⟩

/-- is the text there? -/
def hasS (l : List St) (x : St) : Bool := match (l.drop (rnkS l x)).head? with
  | some y => decide (y = x)
  | none => false

set_option maxRecDepth 100000 in
set_option maxHeartbeats 4000000 in
theorem splace_any (p : Option Addr) (T : TS) (x : St) (w : World) (h : IsS w p T) (hr : RisS T.list) (hs : T.list.length ≤ 1152921504606846976) :
    Calls Try.prog 58 #[.pointer p, .func (.func 37) #[] #[], vT x] w fun e w' => ∃ z, e = .returned (.tuple #[.int .i64 (rnkS T.list x : Int), vT z, .bool (hasS T.list x)]) ∧ (hasS T.list x = true → z = x) ∧ (hasS T.list x = false → z = ⟨#[]⟩) ∧ Keep [] w w' := by
  have HRk : Hid (∀ w9, Keep [] w w9 → Calls Try.prog 62 #[.pointer p, .func (.func 37) #[] #[], vT x] w9 fun e w' => e = .returned (.int .i64 (rnkS T.list x : Int)) ∧ w9 = w') := fun w9 k => srank_any p T x w9 (h.keep k) hr hs
  have HFr : Hid (∀ w9, Calls Try.prog 61 #[.pointer p, .int .i64 (rnkS T.list x : Int)] w9 fun e w' => e = .returned (vSs w9.heap.size (w9.heap.size + 1)) ∧ w' = (w9.alloc (.cells #[.pointer p] 93)).alloc (.cells #[.int .i64 (rnkS T.list x : Int)] 3)) := fun w9 => sfrom_any p _ w9
  have HT : Hid (IsS w p T ∧ T.list.length ≤ 1152921504606846976) := ⟨h, hs⟩
  have HRL : Hid (rnkS T.list x ≤ T.list.length) := rnkS_le _ _
  have HHas : Hid (hasS T.list x = match (T.list.drop (rnkS T.list x)).head? with | some y => decide (y = x) | none => false) := by show _ = _; rfl
  clear h hr hs
  obtain ⟨i, HI⟩ : ∃ i : Nat, Hid (i = rnkS T.list x) := ⟨_, show _ = _ from rfl⟩
  rw [← HI.out] at HRk HFr HRL HHas ⊢
  obtain ⟨hc, HHc⟩ : ∃ hc : Bool, Hid (hc = hasS T.list x) := ⟨_, show _ = _ from rfl⟩
  rw [← HHc.out] at HHas ⊢
  obtain ⟨H, HH⟩ : ∃ H : Nat, Hid (H = w.heap.size) := ⟨_, show _ = _ from rfl⟩
  refine (callsIn_wide (n := 6)).1 ?_
  refine callsIn_of_wp_marks Try.func58 rfl trivial ?_ rfl
  simp only [Try.ntmps58, List.size_toArray, List.length_cons, List.length_nil, Nat.reduceAdd, Nat.reduceSub, Array.replicate_succ, Array.replicate_zero, List.push_toArray, List.append_toArray, List.nil_append, List.cons_append]
  refine wpIn_wide.2 ?_
  go_wp2_with fail
  have hP0 := PS.new w x
  rw [← HH.out] at hP0
  have HP0 : Hid (type_of% hP0) := hP0
  clear hP0
  refine (HRk.out _ HP0.out.kp).mono ?_
  rintro e w6 ⟨rfl, hw6⟩
  rw [← HH.out]
  simp only [Nat.add_assoc, Nat.reduceAdd]
  rw [hw6] at HP0
  clear hw6
  obtain ⟨⟨c0, c1, c2, c3, c4⟩, f2, f3, f4⟩ := HP0.out.cells
  go_wp2_with fail
  have HP7 : Hid (PS w H x (i : Int) ⟨#[]⟩ false (w6.setCell ⟨H + 2, 0, none⟩ (.int .i64 (i : Int)))) := HP0.out.setI _
  generalize w6.setCell ⟨H + 2, 0, none⟩ (.int .i64 (i : Int)) = w7 at *
  clear HP0 c0 c1 c2 c3 c4 f2 f3 f4 HRk
  refine (HFr.out _).mono ?_
  rintro e w8 ⟨rfl, hw8⟩
  have hP8 : PS w H x (i : Int) ⟨#[]⟩ false w8 := by rw [hw8]; exact HP7.out.keep ((Keep.alloc1 _ _).alloc _) (by simp)
  have hSq : SqS w8 w7.heap.size (w7.heap.size + 1) (T.list.drop i) := by rw [hw8]; exact SqS.of_from i (HT.out.1.keep HP7.out.kp) HT.out.2 (by have := HRL.out; have := HT.out.2; omega)
  have HP8 : Hid (type_of% hP8) := hP8
  have HSq : Hid (type_of% hSq) := hSq
  have hB : w7.heap.size + 2 = w8.heap.size := by rw [hw8]; simp
  have HB : Hid (type_of% hB) := hB
  have HB7 : Hid (H + 5 ≤ w7.heap.size) := HP7.out.size
  clear hB
  obtain ⟨B1, HB1⟩ : ∃ B1 : Nat, Hid (B1 = w7.heap.size) := ⟨_, show _ = _ from rfl⟩
  rw [← HB1.out] at HSq HB HB7 ⊢
  clear hP8 hSq hw8 HFr HP7 HB1
  go_wp2_with fail
  refine range_ss (B1 := B1) (B2 := B1 + 1) (L := T.list.drop i) (w := w8) rfl rfl HSq.out
    (fun pre W => pre = [] ∧ PS w H x (i : Int) ⟨#[]⟩ false W ∧ w8.heap.size ≤ W.heap.size)
    (fun c pre W => ∃ y, pre = [y] ∧ ((c = .ret ∧ y = x ∧ PS w H x (i : Int) y true W) ∨ (c = .exit 0 ∧ y ≠ x ∧ PS w H x (i : Int) ⟨#[]⟩ false W)))
    (fun s A B row hs hg hr => ⟨hs.1, hs.2.1.keep (Keep.grown hg) (fun r hm => by have := (hr r (by simpa using hm)).1; have := HB.out; have := HB7.out; omega), Nat.le_trans hs.2.2 hg.size⟩)
    (fun c s A B row hs hg hr => by
      have hR : ∀ r ∈ row.toList, H + 5 ≤ r := fun r hm => by have := (hr r (by simpa using hm)).1; have := HB.out; have := HB7.out; omega
      obtain ⟨y, hy, h1 | h1⟩ := hs
      · exact ⟨y, hy, .inl ⟨h1.1, h1.2.1, h1.2.2.keep (Keep.grown hg) hR⟩⟩
      · exact ⟨y, hy, .inr ⟨h1.1, h1.2.1, h1.2.2.keep (Keep.grown hg) hR⟩⟩)
    ⟨rfl, HP8.out, Nat.le_refl _⟩
    (fun W => hc = false ∧ PS w H x (i : Int) ⟨#[]⟩ false W) (fun W => hc = true ∧ PS w H x (i : Int) x true W)
    (fun W h => ⟨by rw [HHas.out, h.1]; rfl, h.2.1⟩)
    (fun c pre W hp h => by
      obtain ⟨y, rfl, ⟨rfl, rfl, h1⟩ | ⟨rfl, hy, h1⟩⟩ := h
      · refine .inr ⟨rfl, ?_, h1⟩
        obtain ⟨t, ht⟩ := hp
        rw [HHas.out, ← ht]
        simp
      · refine .inl ⟨rfl, ?_, h1⟩
        obtain ⟨t, ht⟩ := hp
        rw [HHas.out, ← ht]
        simp [hy])
    ?fr ?assign ?body ?rest ?ret
  case assign =>
    intro l9 y W K hK
    gi_wp2
    exact hK
  case body =>
    rintro l9 pre y W hl9 ⟨rfl, hP, _⟩ _
    have HP : Hid (type_of% hP) := hP
    obtain ⟨⟨c0, c1, c2, c3, c4⟩, f2, f3, f4⟩ := hP.cells
    have hB8 := HB.out
    have hB7 := HB7.out
    clear hP
    by_cases hk : y = x
    · subst hk
      refine wpIn_block (wpIn_seq (wpIn_seq (wpIn_region_seqP (by kernel_rfl) ?_)))
      go_wp2_with fail
      refine (scmp_eq y W).mono ?_
      rintro e w9 ⟨rfl, rfl⟩
      go_wp2
      refine ⟨rfl, ?_⟩
      simp only [Exit.then]
      gi_wp2
      refine ⟨Keep.from (R := [H + 2, H + 3, H + 4]) ((((Keep.refl _ W).setCell (.inl (by simp)) _).setCell (.inl (by simp)) _).setCell (.inl (by simp)) _) (by intro r hr; simp at hr; omega), y, rfl, .inl ⟨rfl, rfl, ((HP.out.setI (i : Int)).setZ y).setC true⟩⟩
    · have HC : Hid (Calls Try.prog 37 #[vT y, vT x] W fun e w' => ∃ c, e = .returned (.int .i64 c) ∧ c ≠ 0 ∧ W = w') := by
        cases h1 : lts y x with
        | true => exact (scmp_lt y x W h1).mono (fun e w' h => ⟨-1, h.1, by decide, h.2⟩)
        | false =>
          cases h2 : lts x y with
          | true => exact (scmp_gt y x W h2).mono (fun e w' h => ⟨1, h.1, by decide, h.2⟩)
          | false => exact absurd (lts_tri h1 h2) hk
      have HK : Hid (y ≠ x) := hk
      clear hk
      refine wpIn_block (wpIn_seq (wpIn_seq (wpIn_region_seqP (by kernel_rfl) ?_)))
      go_wp2_with fail
      refine HC.out.mono ?_
      rintro e w9 ⟨c9, rfl, hc9, rfl⟩
      go_wp2
      refine ⟨rfl, ?_⟩
      simp only [Exit.then]
      gi_wp2
      exact ⟨(Keep.refl [] W).from (by simp), y, rfl, .inr ⟨rfl, HK.out, HP.out⟩⟩
  case ret =>
    rintro D W hD ⟨hN, hP⟩ hK
    have hB8 := HB.out
    have hB7 := HB7.out
    go_wp2
    refine ⟨by simp, .inl ⟨_, _, rfl, run_takeDeferred hK, ?_⟩⟩
    have hQ := hP.keep (Keep.grown (grownBy_putObj' W D (.deferred none))) (fun r hr => by simp at hr; omega)
    obtain ⟨⟨c0, c1, c2, c3, c4⟩, f2, f3, f4⟩ := hQ.cells
    refine ⟨.tuple #[.int .i64 (i : Int), .string x, .bool true], by simp [results, Try.results58, go_sem, c2, c3, c4], x, ?_, ?_, ?_, hQ.kp⟩
    · rw [hN]
    · intro _; rfl
    · intro h; rw [hN] at h; cases h
  case rest =>
    rintro D W hD ⟨hN, hP⟩ hK
    have HP : Hid (type_of% hP) := hP
    obtain ⟨⟨c0, c1, c2, c3, c4⟩, f2, f3, f4⟩ := hP.cells
    clear hP
    go_wp2_with fail
    have hA0 := HP.out.keep ((Keep.refl [] _).drew) (by simp)
    have hA1 := hA0.setI (i : Int)
    have hA2 := hA1.setZ ⟨#[]⟩
    have hA3 := hA2.setC false
    have HA3 : Hid (type_of% hA3) := hA3
    obtain ⟨⟨_, _, g2, g3, g4⟩, g5, g6, g7⟩ := hA0.cells
    obtain ⟨⟨_, _, i2, i3, i4⟩, i5, i6, i7⟩ := hA1.cells
    obtain ⟨⟨_, _, j2, j3, j4⟩, j5, j6, j7⟩ := hA2.cells
    obtain ⟨⟨_, _, l2, l3, l4⟩, l5, l6, l7⟩ := hA3.cells
    clear hA0 hA1 hA2 hA3
    refine wp_region_heldP (S := (fun w' : World => w'.cell? ⟨H + 2, 0, none⟩ = some (.int .i64 (i : Int)) ∧ w'.cell? ⟨H + 3, 0, none⟩ = some (.string ⟨#[]⟩) ∧ w'.cell? ⟨H + 4, 0, none⟩ = some (.bool false))) (by kernel_rfl) (⟨g2, g3, g4⟩) (fun hHeld => ?_)
    try dsimp only at hHeld
    refine wpAnyH_take (i := 0) (oi := { dst := some 25, op := Go.Op.load 3 (Go.Operand.tmp 6), type := 3, pos := "shelf.go:147", after := #[], guard := none }) (v := ?_) rfl (by kernel_rfl) (by kernel_rfl) (by kernel_rfl) (fun _ _ _ => plain_panic) (Or.inl ⟨by rfl, ?_⟩) (by assumption) ?_
    rotate_left
    · intro w7 hSw
      try dsimp only at hSw
      first | (go_simp; done) | (go_simp; with_reducible rfl)
    try simp only [Act.put, List.setIfInBounds_toArray, List.set_cons_zero, List.set_cons_succ]
    refine wpAnyH_take (i := 1) (oi := { dst := some 26, op := Go.Op.load 9 (Go.Operand.tmp 7), type := 9, pos := "shelf.go:147", after := #[], guard := none }) (v := ?_) rfl (by kernel_rfl) (by kernel_rfl) (by kernel_rfl) (fun _ _ _ => plain_panic) (Or.inl ⟨by rfl, ?_⟩) (by assumption) ?_
    rotate_left
    · intro w7 hSw
      try dsimp only at hSw
      first | (go_simp; done) | (go_simp; with_reducible rfl)
    try simp only [Act.put, List.setIfInBounds_toArray, List.set_cons_zero, List.set_cons_succ]
    refine wpAnyH_ready (rs := [2]) (by kernel_rfl) (by simp) ?_
    refine AllReadyH.cons (o := { dst := none, op := Go.Op.store 3 (Go.Operand.tmp 6) (Go.Operand.tmp 25), type := 0, pos := "shelf.go:147", after := #[{ on := 0, ground := Go.Ground.data }, { on := 0, ground := Go.Ground.phase }, { on := 1, ground := Go.Ground.textOnly Go.Departure.inlinedCapture }], guard := none }) rfl (fun K hK => ?_) AllReadyH.nil
    go_simp
    skip
    refine hK.out _ _ (⟨i2, i3, i4⟩) (fun hHeld2 => ?_)
    try dsimp only at hHeld2
    clear hK hHeld
    have hHeld := hHeld2
    clear hHeld2
    try simp only [Act.put, List.setIfInBounds_toArray, List.set_cons_zero, List.set_cons_succ]
    refine wpAnyH_ready (rs := [3]) (by kernel_rfl) (by simp) ?_
    refine AllReadyH.cons (o := { dst := none, op := Go.Op.store 9 (Go.Operand.tmp 7) (Go.Operand.tmp 26), type := 0, pos := "shelf.go:147", after := #[{ on := 1, ground := Go.Ground.data }, { on := 2, ground := Go.Ground.chain }, { on := 0, ground := Go.Ground.phase }, { on := 1, ground := Go.Ground.phase }, { on := 2, ground := Go.Ground.phase }], guard := none }) rfl (fun K hK => ?_) AllReadyH.nil
    go_simp
    skip
    refine hK.out _ _ (⟨j2, j3, j4⟩) (fun hHeld2 => ?_)
    try dsimp only at hHeld2
    clear hK hHeld
    have hHeld := hHeld2
    clear hHeld2
    try simp only [Act.put, List.setIfInBounds_toArray, List.set_cons_zero, List.set_cons_succ]
    refine wpAnyH_ready (rs := [4]) (by kernel_rfl) (by simp) ?_
    refine AllReadyH.cons (o := { dst := none, op := Go.Op.store 4 (Go.Operand.tmp 8) (Go.Operand.const (Go.Value.bool false)), type := 0, pos := "shelf.go:147", after := #[{ on := 3, ground := Go.Ground.chain }, { on := 0, ground := Go.Ground.phase }, { on := 1, ground := Go.Ground.phase }, { on := 2, ground := Go.Ground.phase }, { on := 3, ground := Go.Ground.phase }], guard := none }) rfl (fun K hK => ?_) AllReadyH.nil
    go_simp
    skip
    refine hK.out _ _ (⟨l2, l3, l4⟩) (fun hHeld2 => ?_)
    try dsimp only at hHeld2
    clear hK hHeld
    have hHeld := hHeld2
    clear hHeld2
    try simp only [Act.put, List.setIfInBounds_toArray, List.set_cons_zero, List.set_cons_succ]
    refine wpAnyH_done (by kernel_rfl) ⟨rfl, ?_⟩ _
    go_wp2
    have hB8 := HB.out
    have hB7 := HB7.out
    have kD : Keep [H + 2, H + 3, H + 4] W (((W.drew.setCell ⟨H + 2, 0, none⟩ (.int .i64 (i : Int))).setCell ⟨H + 3, 0, none⟩ (.string ⟨#[]⟩)).setCell ⟨H + 4, 0, none⟩ (.bool false)) := ((((Keep.refl _ W).drew.setCell (.inl (by simp)) _).setCell (.inl (by simp)) _).setCell (.inl (by simp)) _)
    have hK9 := (kD.block D (Array.getElem?_eq_some_iff.1 hK).1 (by simp; omega)).trans hK
    clear g2 g3 g4 g5 g6 g7 i2 i3 i4 i5 i6 i7 j2 j3 j4 j5 j6 j7 l2 l3 l4 l5 l6 l7 hHeld kD
    have hK8 : (((W.setCell ⟨H + 2, 0, none⟩ (.int .i64 (i : Int))).setCell ⟨H + 3, 0, none⟩ (.string ⟨#[]⟩)).setCell ⟨H + 4, 0, none⟩ (.bool false)).drew.heap[D]? = some (.deferred (some [])) := hK9
    have HA4 : Hid (PS w H x (i : Int) ⟨#[]⟩ false (((W.setCell ⟨H + 2, 0, none⟩ (.int .i64 (i : Int))).setCell ⟨H + 3, 0, none⟩ (.string ⟨#[]⟩)).setCell ⟨H + 4, 0, none⟩ (.bool false)).drew) := HA3.out
    clear hK9 HA3
    generalize (((W.setCell ⟨H + 2, 0, none⟩ (.int .i64 (i : Int))).setCell ⟨H + 3, 0, none⟩ (.string ⟨#[]⟩)).setCell ⟨H + 4, 0, none⟩ (.bool false)).drew = Wq at *
    refine ⟨by simp, .inl ⟨_, _, rfl, run_takeDeferred hK8, ?_⟩⟩
    have hQ := HA4.out.keep (Keep.grown (grownBy_putObj' _ D (.deferred none))) (fun r hr => by simp at hr; omega)
    obtain ⟨⟨c0, c1, c2, c3, c4⟩, f2, f3, f4⟩ := hQ.cells
    refine ⟨.tuple #[.int .i64 (i : Int), .string ⟨#[]⟩, .bool false], by simp [results, Try.results58, go_sem, c2, c3, c4], ⟨#[]⟩, ?_, ?_, ?_, hQ.kp⟩
    · rw [hN]
    · intro h; rw [hN] at h; cases h
    · intro _; rfl

end Go.Proofs.Ytkelhglflpdpeaa
