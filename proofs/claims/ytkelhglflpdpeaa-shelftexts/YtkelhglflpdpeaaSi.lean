/- The one at a place; the variables of ShelfTexts. -/
import Derived.Test.YtkelhglflpdpeaaSh

namespace Go.Proofs.Ytkelhglflpdpeaa
open Go.RowKit Go.PlainAid Go.Shelf
attribute [local go_sem] Oper.semAt_some


/-- the two results of Nth -/
structure N2 (w : World) (H : Nat) (z : St) (c : Bool) (W : World) : Prop where
  b0 : W.heap[H]? = some (.cells #[.string z] 9 (0, 0))
  b1 : W.heap[H + 1]? = some (.cells #[.bool c] 4 (0, 0))
  kp : Keep [] w W
  hH : H = w.heap.size
theorem N2.keep {w : World} {H : Nat} {z : St} {c : Bool} {W W' : World} {R : List Nat} (h : N2 w H z c W) (kk : Keep R W W') (hR : ∀ r ∈ R, H + 2 ≤ r) : N2 w H z c W' := by
  have g : ∀ j o, j < 2 → W.heap[H + j]? = some o → W'.heap[H + j]? = some o := fun j o hj ho => (kk.block _ (Array.getElem?_eq_some_iff.1 ho).1 (fun hm => by have := hR _ hm; omega)).trans ho
  exact ⟨g 0 _ (by omega) h.b0, g 1 _ (by omega) h.b1, h.kp.more kk (fun r hr => .inr (by have := hR r hr; have := h.hH; omega)), h.hH⟩
theorem N2.new (w : World) : N2 w w.heap.size ⟨#[]⟩ false ((w.alloc (.cells #[.string ⟨#[]⟩] 9)).alloc (.cells #[.bool false] 4)) := by
  refine ⟨(Below.heap_alloc _ _ _ (by simp)).trans (heap_alloc_new _ _), ?_, (Keep.alloc1 _ _).alloc _, rfl⟩
  have := heap_alloc_new (w.alloc (.cells #[.string ⟨#[]⟩] 9)) (.cells #[.bool false] 4)
  rwa [World.size_alloc] at this
theorem N2.set {w : World} {H : Nat} {z : St} {c : Bool} {W : World} (h : N2 w H z c W) (y : St) (d : Bool) : N2 w H y d ((W.setCell ⟨H, 0, none⟩ (.string y)).setCell ⟨H + 1, 0, none⟩ (.bool d)) := by
  have k1 : Keep [H] W (W.setCell ⟨H, 0, none⟩ (.string y)) := Keep.set1 W ⟨H, 0, none⟩ _
  have e0 : (W.setCell ⟨H, 0, none⟩ (.string y)).heap[H]? = some (.cells #[.string y] 9 (0, 0)) := one_setCell h.b0
  have e1 := (k1.block _ (Array.getElem?_eq_some_iff.1 h.b1).1 (by simp)).trans h.b1
  have k2 : Keep [H + 1] (W.setCell ⟨H, 0, none⟩ (.string y)) ((W.setCell ⟨H, 0, none⟩ (.string y)).setCell ⟨H + 1, 0, none⟩ (.bool d)) := Keep.set1 _ ⟨H + 1, 0, none⟩ _
  exact ⟨(k2.block _ (Array.getElem?_eq_some_iff.1 e0).1 (by simp)).trans e0, one_setCell e1, (h.kp.more k1 (by intro y hy; simp at hy; have := h.hH; omega)).more k2 (by intro y hy; simp at hy; have := h.hH; omega), h.hH⟩

set_option maxRecDepth 100000 in
set_option maxHeartbeats 2000000 in
theorem snth_in (b : Nat) (l : List St) (i : Nat) (w : World) (h : ShS w b l) (hs : l.length ≤ 1152921504606846976) (hi : i < l.length) :
    Calls Try.prog 41 #[vA b, .int .i64 (i : Int)] w fun e w' => e = .returned (.tuple #[vT l[i], .bool true]) ∧ Keep [] w w' := by
  obtain ⟨p, T, a, c, d⟩ := h.ex
  have HE : Hid (∀ w9, Keep [] w w9 → Calls Try.prog 60 #[vA b] w9 fun e w' => e = .returned (.pointer p) ∧ w9 = w') := fun w9 k => selements_any b p w9 ((k.block _ (Array.getElem?_eq_some_iff.1 a).1 (by simp)).trans a)
  have HFr : Hid (∀ w9, Calls Try.prog 61 #[.pointer p, .int .i64 (i : Int)] w9 fun e w' => e = .returned (vSs w9.heap.size (w9.heap.size + 1)) ∧ w' = (w9.alloc (.cells #[.pointer p] 93)).alloc (.cells #[.int .i64 (i : Int)] 3)) := fun w9 => sfrom_any p _ w9
  have HT : Hid (IsS w p T ∧ T.list = l ∧ l.length ≤ 1152921504606846976) := ⟨c, d, hs⟩
  have HD : Hid (l.drop i = l[i] :: l.drop (i + 1)) := by show _ = _; exact List.drop_eq_getElem_cons hi
  have HIl : Hid (i < l.length) := hi
  have hi0 : (0 : Int) ≤ (i : Int) := by omega
  generalize l[i] = q at *
  obtain ⟨H, HH⟩ : ∃ H : Nat, Hid (H = w.heap.size) := ⟨_, show _ = _ from rfl⟩
  clear h a c d hs hi
  refine (callsIn_wide (n := 6)).1 ?_
  refine callsIn_of_wp_marks Try.func41 rfl trivial ?_ rfl
  simp only [Try.ntmps41, List.size_toArray, List.length_cons, List.length_nil, Nat.reduceAdd, Nat.reduceSub, Array.replicate_succ, Array.replicate_zero, List.push_toArray, List.append_toArray, List.nil_append, List.cons_append]
  refine wpIn_wide.2 ?_
  go_wp2_with fail
  have hP0 := N2.new w
  rw [← HH.out] at hP0
  have HP0 : Hid (type_of% hP0) := hP0
  clear hP0
  refine (HE.out _ HP0.out.kp).mono ?_
  rintro e w6 ⟨rfl, hw6⟩
  rw [← HH.out]
  rw [hw6] at HP0
  clear hw6
  go_wp2_with fail
  refine (HFr.out _).mono ?_
  rintro e w8 ⟨rfl, hw8⟩
  have HP8 : Hid (N2 w H ⟨#[]⟩ false w8) := by show N2 _ _ _ _ _; rw [hw8]; exact HP0.out.keep ((Keep.alloc1 _ _).alloc _) (by simp)
  have HSq : Hid (SqS w8 w6.heap.size (w6.heap.size + 1) (l.drop i)) := by
    show SqS _ _ _ _
    rw [hw8]
    have h2 := SqS.of_from i (HT.out.1.keep HP0.out.kp) (by rw [HT.out.2.1]; exact HT.out.2.2) (by have := HIl.out; have := HT.out.2.2; omega)
    rw [HT.out.2.1] at h2
    exact h2
  have HB : Hid (H + 2 ≤ w8.heap.size) := (Array.getElem?_eq_some_iff.1 HP8.out.b1).1
  obtain ⟨B1, HB1⟩ : ∃ B1 : Nat, Hid (B1 = w6.heap.size) := ⟨_, show _ = _ from rfl⟩
  rw [← HB1.out] at HSq ⊢
  clear hw8 HFr HP0 HB1 HE
  go_wp2_with fail
  refine range_ss (B1 := B1) (B2 := B1 + 1) (L := l.drop i) (w := w8) rfl rfl HSq.out
    (fun pre W => pre = [] ∧ N2 w H ⟨#[]⟩ false W) (fun c pre W => ∃ y, pre = [y] ∧ c = .ret ∧ N2 w H y true W)
    (fun s A B row hs hg hr => ⟨hs.1, hs.2.keep (Keep.grown hg) (fun r hm => by have := (hr r (by simpa using hm)).1; have := HB.out; omega)⟩)
    (fun c s A B row hs hg hr => by
      obtain ⟨y, hy, h1, h2⟩ := hs
      exact ⟨y, hy, h1, h2.keep (Keep.grown hg) (fun r hm => by have := (hr r (by simpa using hm)).1; have := HB.out; omega)⟩)
    ⟨rfl, HP8.out⟩
    (fun _ => False) (fun W => N2 w H q true W)
    (fun W h => by have h1 := h.1; rw [HD.out] at h1; cases h1)
    (fun c pre W hp h => by
      obtain ⟨y, rfl, rfl, h1⟩ := h
      refine .inr ⟨rfl, ?_⟩
      rw [HD.out] at hp
      obtain ⟨t, ht⟩ := hp
      cases ht
      exact h1)
    ?fr ?assign ?body ?rest ?ret
  case assign =>
    intro l9 y W K hK
    gi_wp2
    exact hK
  case body =>
    rintro l9 pre y W hl9 ⟨rfl, hP⟩ _
    have HP : Hid (type_of% hP) := hP
    have c0 := one_cellS hP.b0
    have c1 := one_cellS hP.b1
    have f0 := one_freeS hP.b0
    have f1 := one_freeS hP.b1
    have hB8 := HB.out
    clear hP
    gi_wp2
    exact ⟨Keep.from (R := [H, H + 1]) (((Keep.refl _ W).setCell (.inl (by simp)) _).setCell (.inl (by simp)) _) (by intro r hr; simp at hr; omega), y, rfl, rfl, HP.out.set y true⟩
  case ret =>
    rintro D W hD hP hK
    have hB8 := HB.out
    go_wp2
    refine ⟨by simp, .inl ⟨_, _, rfl, run_takeDeferred hK, ?_⟩⟩
    have hQ := hP.keep (Keep.grown (grownBy_putObj' W D (.deferred none))) (fun r hr => by simp at hr; omega)
    have c0 := one_cellS hQ.b0
    have c1 := one_cellS hQ.b1
    exact ⟨.tuple #[.string q, .bool true], by simp [results, Try.results41, go_sem, c0, c1], rfl, hQ.kp⟩
  case rest =>
    rintro D W hD hF
    cases hF

/-- the variables of ShelfTexts -/
structure Tk (w : World) (x : St) (bx bq bs b : Nat) (L : List St) (W : World) : Prop where
  hx : W.heap[bx]? = some (.cells #[.string x] 9 (0, 0))
  hq : W.heap[bq]? = some (.cells #[.bool false] 4 (0, 0))
  hs : W.heap[bs]? = some (.cells #[vA b] 67 (0, 0))
  sh : ShS W b L
  kp : Keep [] w W
  ge : w.heap.size ≤ bq ∧ w.heap.size ≤ b
theorem Tk.keepR {w : World} {x : St} {bx bq bs b : Nat} {L : List St} {W : World} (h : Tk w x bx bq bs b L W) {R : List Nat} {W' : World} (kk : Keep R W W') (ks : KS W W') (hR : ∀ r ∈ R, w.heap.size ≤ r ∧ r ≠ bx ∧ r ≠ bq ∧ r ≠ bs ∧ r ≠ b) : Tk w x bx bq bs b L W' := by
  have g : ∀ c o, c = bx ∨ c = bq ∨ c = bs ∨ c = b → W.heap[c]? = some o → W'.heap[c]? = some o := fun c o hc ho => (kk.block _ (Array.getElem?_eq_some_iff.1 ho).1 (fun hm => by obtain ⟨_, h1, h2, h3, h4⟩ := hR c hm; omega)).trans ho
  obtain ⟨p, T, a, c, d⟩ := h.sh.ex
  exact ⟨g _ _ (by simp) h.hx, g _ _ (by simp) h.hq, g _ _ (by simp) h.hs, ⟨⟨p, T, g _ _ (by simp) a, c.kt ks, d⟩, h.sh.ris⟩, h.kp.more kk (fun r hr => .inr (hR r hr).1), h.ge⟩
theorem Tk.keep0 {w : World} {x : St} {bx bq bs b : Nat} {L : List St} {W : World} (h : Tk w x bx bq bs b L W) {W' : World} (kk : Keep [] W W') : Tk w x bx bq bs b L W' := h.keepR kk kk.ks0 (by simp)
theorem Tk.act {w : World} {x : St} {bx bq bs b : Nat} {L : List St} {W : World} (h : Tk w x bx bq bs b L W) {W' : World} (kk : Keep [b] W W') {L' : List St} (hs : ShS W' b L') : Tk w x bx bq bs b L' W' := by
  obtain ⟨p, T, a, c, d⟩ := h.sh.ex
  have no : ∀ (c : Nat) (cs : Array Value) (t : TypeId), W.heap[c]? = some (.cells cs t (0, 0)) → t ≠ 95 → W'.heap[c]? = some (.cells cs t (0, 0)) := fun c cs t hc ht => (kk.block _ (Array.getElem?_eq_some_iff.1 hc).1 (fun hm => by simp at hm; rw [hm, a] at hc; cases hc; exact ht rfl)).trans hc
  exact ⟨no _ _ _ h.hx (by decide), no _ _ _ h.hq (by decide), no _ _ _ h.hs (by decide), hs, h.kp.more kk (fun r hr => .inr (by simp at hr; have := h.ge; omega)), h.ge⟩
theorem Tk.cells {w : World} {x : St} {bx bq bs b : Nat} {L : List St} {W : World} (h : Tk w x bx bq bs b L W) : W.cell? ⟨bx, 0, none⟩ = some (.string x) ∧ W.cell? ⟨bs, 0, none⟩ = some (vA b) ∧ W.cell? ⟨bq, 0, none⟩ = some (.bool false) ∧ W.frozen? ⟨bq, 0, none⟩ = false := ⟨one_cellS h.hx, one_cellS h.hs, one_cellS h.hq, one_freeS h.hq⟩
theorem Tk.lt {w : World} {x : St} {bx bq bs b : Nat} {L : List St} {W : World} (h : Tk w x bx bq bs b L W) : bx < W.heap.size ∧ bq < W.heap.size ∧ bs < W.heap.size ∧ b < W.heap.size := ⟨(Array.getElem?_eq_some_iff.1 h.hx).1, (Array.getElem?_eq_some_iff.1 h.hq).1, (Array.getElem?_eq_some_iff.1 h.hs).1, h.sh.lt⟩

/-- while the sequences are gone through: n, below, last in the boxes N, N + 1, N + 2 -/
structure T1 (w : World) (x : St) (bx bq bs b : Nat) (L : List St) (A1 A2 F1 F2 N M n m : Nat) (z : St) (W : World) : Prop where
  tk : Tk w x bx bq bs b L W
  hn : W.heap[N]? = some (.cells #[.int .i64 (n : Int)] 3 (0, 0))
  hm : W.heap[N + 1]? = some (.cells #[.int .i64 (m : Int)] 3 (0, 0))
  hz : W.heap[N + 2]? = some (.cells #[.string z] 9 (0, 0))
  all : SqS W A1 A2 L
  frm : SqS W F1 F2 (L.drop (rnkS L x))
  lt : bx < N ∧ bq < N ∧ bs < N ∧ b < N ∧ A1 < N ∧ A2 < N ∧ F1 < N ∧ F2 < N ∧ N + 3 ≤ M ∧ w.heap.size ≤ N
  hM : M ≤ W.heap.size
theorem T1.keepR {w : World} {x : St} {bx bq bs b : Nat} {L : List St} {A1 A2 F1 F2 N M n m : Nat} {z : St} {W : World} (h : T1 w x bx bq bs b L A1 A2 F1 F2 N M n m z W) {R : List Nat} {W' : World} (kk : Keep R W W') (ks : KS W W') (hR : ∀ r ∈ R, N + 3 ≤ r) : T1 w x bx bq bs b L A1 A2 F1 F2 N M n m z W' := by
  obtain ⟨l1, l2, l3, l4, l5, l6, l7, l8, l9, l10⟩ := h.lt
  have no : ∀ c, c < N + 3 → c ∉ R := fun c hc hm => by have := hR c hm; omega
  have g : ∀ c o, c < N + 3 → W.heap[c]? = some o → W'.heap[c]? = some o := fun c o hc ho => (kk.block _ (Array.getElem?_eq_some_iff.1 ho).1 (no c hc)).trans ho
  exact ⟨h.tk.keepR kk ks (fun r hr => by have := hR r hr; omega), g _ _ (by omega) h.hn, g _ _ (by omega) h.hm, g _ _ (by omega) h.hz, h.all.keep kk ks (no _ (by omega)) (no _ (by omega)), h.frm.keep kk ks (no _ (by omega)) (no _ (by omega)), h.lt, Nat.le_trans h.hM kk.size⟩
theorem T1.keep0 {w : World} {x : St} {bx bq bs b : Nat} {L : List St} {A1 A2 F1 F2 N M n m : Nat} {z : St} {W : World} (h : T1 w x bx bq bs b L A1 A2 F1 F2 N M n m z W) {W' : World} (kk : Keep [] W W') : T1 w x bx bq bs b L A1 A2 F1 F2 N M n m z W' := h.keepR kk kk.ks0 (by simp)
theorem T1.grow {w : World} {x : St} {bx bq bs b : Nat} {L : List St} {A1 A2 F1 F2 N M n m : Nat} {z : St} {W : World} (h : T1 w x bx bq bs b L A1 A2 F1 F2 N M n m z W) {W' : World} {row : Option Nat} (hg : W.grownBy W' row) (hr : ∀ r, row = some r → M ≤ r ∧ ∃ o : Obj, W.heap[r]? = some o ∧ o.isCells = false) : T1 w x bx bq bs b L A1 A2 F1 F2 N M n m z W' := by
  refine h.keepR (Keep.grown hg) ((Keep.grown hg).ks (fun r hr' c hc => ?_)) (fun r hr' => ?_)
  · obtain ⟨_, o, ho, hc'⟩ := hr r (by simpa using hr')
    rw [hc] at ho
    cases ho
    cases hc'
  · have := (hr r (by simpa using hr')).1
    have := h.lt
    omega
theorem T1.set {w : World} {x : St} {bx bq bs b : Nat} {L : List St} {A1 A2 F1 F2 N M n m : Nat} {z : St} {W : World} (h : T1 w x bx bq bs b L A1 A2 F1 F2 N M n m z W) (k : Nat) (hk : k < 3) (v : Value) {n' m' : Nat} {z' : St}
    (e0 : (W.setCell ⟨N + k, 0, none⟩ v).heap[N]? = some (.cells #[.int .i64 (n' : Int)] 3 (0, 0))) (e1 : (W.setCell ⟨N + k, 0, none⟩ v).heap[N + 1]? = some (.cells #[.int .i64 (m' : Int)] 3 (0, 0))) (e2 : (W.setCell ⟨N + k, 0, none⟩ v).heap[N + 2]? = some (.cells #[.string z'] 9 (0, 0))) :
    T1 w x bx bq bs b L A1 A2 F1 F2 N M n' m' z' (W.setCell ⟨N + k, 0, none⟩ v) ∧ Keep [N + k] W (W.setCell ⟨N + k, 0, none⟩ v) ∧ KS W (W.setCell ⟨N + k, 0, none⟩ v) := by
  obtain ⟨l1, l2, l3, l4, l5, l6, l7, l8, l9, l10⟩ := h.lt
  have kk : Keep [N + k] W (W.setCell ⟨N + k, 0, none⟩ v) := Keep.set1 W ⟨N + k, 0, none⟩ v
  have ks : KS W (W.setCell ⟨N + k, 0, none⟩ v) := kk.ks (fun r hr c hc => by
    simp at hr
    subst hr
    rcases (by omega : k = 0 ∨ k = 1 ∨ k = 2) with rfl | rfl | rfl
    · rw [Nat.add_zero, h.hn] at hc; cases hc
    · rw [h.hm] at hc; cases hc
    · rw [h.hz] at hc; cases hc)
  have no : ∀ c, c < N → c ∉ [N + k] := fun c hc hm => by simp at hm; omega
  exact ⟨⟨h.tk.keepR kk ks (fun r hr => by simp at hr; omega), e0, e1, e2, h.all.keep kk ks (no _ (by omega)) (no _ (by omega)), h.frm.keep kk ks (no _ (by omega)) (no _ (by omega)), h.lt, Nat.le_trans h.hM kk.size⟩, kk, ks⟩
theorem T1.setN {w : World} {x : St} {bx bq bs b : Nat} {L : List St} {A1 A2 F1 F2 N M n m : Nat} {z : St} {W : World} (h : T1 w x bx bq bs b L A1 A2 F1 F2 N M n m z W) (n' : Nat) : T1 w x bx bq bs b L A1 A2 F1 F2 N M n' m z (W.setCell ⟨N, 0, none⟩ (.int .i64 (n' : Int))) ∧ Keep [N] W (W.setCell ⟨N, 0, none⟩ (.int .i64 (n' : Int))) ∧ KS W (W.setCell ⟨N, 0, none⟩ (.int .i64 (n' : Int))) := by
  have kk : Keep [N] W (W.setCell ⟨N, 0, none⟩ (.int .i64 (n' : Int))) := Keep.set1 W ⟨N, 0, none⟩ _
  exact h.set 0 (by omega) _ (one_setCell h.hn) ((kk.block _ (Array.getElem?_eq_some_iff.1 h.hm).1 (by simp)).trans h.hm) ((kk.block _ (Array.getElem?_eq_some_iff.1 h.hz).1 (by simp)).trans h.hz)
theorem T1.setM {w : World} {x : St} {bx bq bs b : Nat} {L : List St} {A1 A2 F1 F2 N M n m : Nat} {z : St} {W : World} (h : T1 w x bx bq bs b L A1 A2 F1 F2 N M n m z W) (m' : Nat) : T1 w x bx bq bs b L A1 A2 F1 F2 N M n m' z (W.setCell ⟨N + 1, 0, none⟩ (.int .i64 (m' : Int))) ∧ Keep [N + 1] W (W.setCell ⟨N + 1, 0, none⟩ (.int .i64 (m' : Int))) ∧ KS W (W.setCell ⟨N + 1, 0, none⟩ (.int .i64 (m' : Int))) := by
  have kk : Keep [N + 1] W (W.setCell ⟨N + 1, 0, none⟩ (.int .i64 (m' : Int))) := Keep.set1 W ⟨N + 1, 0, none⟩ _
  exact h.set 1 (by omega) _ ((kk.block _ (Array.getElem?_eq_some_iff.1 h.hn).1 (by simp)).trans h.hn) (one_setCell h.hm) ((kk.block _ (Array.getElem?_eq_some_iff.1 h.hz).1 (by simp)).trans h.hz)
theorem T1.setZ {w : World} {x : St} {bx bq bs b : Nat} {L : List St} {A1 A2 F1 F2 N M n m : Nat} {z : St} {W : World} (h : T1 w x bx bq bs b L A1 A2 F1 F2 N M n m z W) (z' : St) : T1 w x bx bq bs b L A1 A2 F1 F2 N M n m z' (W.setCell ⟨N + 2, 0, none⟩ (.string z')) ∧ Keep [N + 2] W (W.setCell ⟨N + 2, 0, none⟩ (.string z')) ∧ KS W (W.setCell ⟨N + 2, 0, none⟩ (.string z')) := by
  have kk : Keep [N + 2] W (W.setCell ⟨N + 2, 0, none⟩ (.string z')) := Keep.set1 W ⟨N + 2, 0, none⟩ _
  exact h.set 2 (by omega) _ ((kk.block _ (Array.getElem?_eq_some_iff.1 h.hn).1 (by simp)).trans h.hn) ((kk.block _ (Array.getElem?_eq_some_iff.1 h.hm).1 (by simp)).trans h.hm) (one_setCell h.hz)
theorem T1.cells {w : World} {x : St} {bx bq bs b : Nat} {L : List St} {A1 A2 F1 F2 N M n m : Nat} {z : St} {W : World} (h : T1 w x bx bq bs b L A1 A2 F1 F2 N M n m z W) : (W.cell? ⟨N, 0, none⟩ = some (.int .i64 (n : Int)) ∧ W.cell? ⟨N + 1, 0, none⟩ = some (.int .i64 (m : Int)) ∧ W.cell? ⟨N + 2, 0, none⟩ = some (.string z)) ∧ W.frozen? ⟨N, 0, none⟩ = false ∧ W.frozen? ⟨N + 1, 0, none⟩ = false ∧ W.frozen? ⟨N + 2, 0, none⟩ = false := ⟨⟨one_cellS h.hn, one_cellS h.hm, one_cellS h.hz⟩, one_freeS h.hn, one_freeS h.hm, one_freeS h.hz⟩

end Go.Proofs.Ytkelhglflpdpeaa
