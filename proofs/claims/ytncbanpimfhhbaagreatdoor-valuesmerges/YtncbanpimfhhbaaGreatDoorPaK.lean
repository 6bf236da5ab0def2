/- found: how often a name stands in a list, and the last value that stands there. -/
import Derived.Test.YtncbanpimfhhbaaGreatDoorPaH
import Derived.Test.YtncbanpimfhhbaaGreatDoorMgE
import Derived.Test.YtncbanpimfhhbaaGreatDoorSaG

namespace Go.Proofs.YtncbanpimfhhbaaGreatDoor
open Go.RowKit Go.PlainAid

abbrev voidV : VD := ⟨0, false, 0, 0, ⟨#[]⟩, []⟩
def fnd (l : List AD) (s : ByteArray) : List AD := l.filter (fun x => x.nm.toList == s.toList)
def fV (l : List AD) (s : ByteArray) : VD := (((fnd l s).getLast?).map (·.val)).getD voidV
theorem fnd_yes {l : List AD} {s : ByteArray} {k : Nat} (hk : k < l.length) (h : (l[k].nm.toList == s.toList) = true) : fnd (l.take (k + 1)) s = fnd (l.take k) s ++ [l[k]] := by
  unfold fnd
  rw [List.take_succ_eq_append_getElem hk, List.filter_append]
  simp [h]
theorem fnd_no {l : List AD} {s : ByteArray} {k : Nat} (hk : k < l.length) (h : (l[k].nm.toList == s.toList) = false) : fnd (l.take (k + 1)) s = fnd (l.take k) s := by
  unfold fnd
  rw [List.take_succ_eq_append_getElem hk, List.filter_append]
  simp [h]
/-- what holds while the name is looked for -/
structure Fd (w wr : World) (p q : Nat) (x : VD) (u : Value) : Prop where
  kp : Keep [] w wr
  bp : P6 wr p (.int .i64 0) (.bool false) (.int .i64 0) (.float .f32 0) (.string ⟨#[]⟩) (.slice none 0 0)
  bq : P6 wr q (.int .i64 x.kind) (.bool x.bool) (.int .i64 x.int) (.float .f32 x.real) (.string x.text) u
  ts : Ts w u x.texts
  new : w.heap.size ≤ p ∧ w.heap.size ≤ q ∧ p ≠ q
theorem Fd.start (w : World) : Fd w ((w.alloc (.cells #[.int .i64 0, .bool false, .int .i64 0, .float .f32 0, .string ⟨#[]⟩, .slice none 0 0] 31)).alloc (.cells #[.int .i64 0, .bool false, .int .i64 0, .float .f32 0, .string ⟨#[]⟩, .slice none 0 0] 31)) w.heap.size (w.heap.size + 1) voidV (.slice none 0 0) := by
  have k1 : Keep [] (w.alloc (.cells #[.int .i64 0, .bool false, .int .i64 0, .float .f32 0, .string ⟨#[]⟩, .slice none 0 0] 31)) ((w.alloc (.cells #[.int .i64 0, .bool false, .int .i64 0, .float .f32 0, .string ⟨#[]⟩, .slice none 0 0] 31)).alloc (.cells #[.int .i64 0, .bool false, .int .i64 0, .float .f32 0, .string ⟨#[]⟩, .slice none 0 0] 31)) := Keep.alloc1 _ _
  have h2 := P6.first (Keep.refl [] ((w.alloc (.cells #[.int .i64 0, .bool false, .int .i64 0, .float .f32 0, .string ⟨#[]⟩, .slice none 0 0] 31)).alloc (.cells #[.int .i64 0, .bool false, .int .i64 0, .float .f32 0, .string ⟨#[]⟩, .slice none 0 0] 31)))
  exact ⟨(Keep.alloc1 w _).trans' k1, P6.first k1, by simpa using h2, Ts.nil w, by omega, by omega, by omega⟩
theorem Fd.set {w wr : World} {p q : Nat} {x : VD} {u : Value} (h : Fd w wr p q x u) (y : VD) (v : Value) (hv : Ts w v y.texts) : Fd w ((((((wr.setCell ⟨q, 0, none⟩ (.int .i64 y.kind)).setCell ⟨q, 1, none⟩ (.bool y.bool)).setCell ⟨q, 2, none⟩ (.int .i64 y.int)).setCell ⟨q, 3, none⟩ (.float .f32 y.real)).setCell ⟨q, 4, none⟩ (.string y.text)).setCell ⟨q, 5, none⟩ v) p q y v := by
  obtain ⟨h1, h2, h3⟩ := six h.bq h.kp h.new.2.1 (.int .i64 y.kind) (.bool y.bool) (.int .i64 y.int) (.float .f32 y.real) (.string y.text) v
  exact ⟨h2, h.bp.keep h3 (by simp; exact h.new.2.2), h1, hv, h.new⟩

set_option maxRecDepth 1000000 in
set_option maxHeartbeats 3200000 in
theorem found_any (v : Value) (l : List AD) (s : ByteArray) (w : World) (hv : As w v l) :
    Calls Tryz.prog 7 #[v, .string s] w fun e w' => ∃ u, e = .returned (.tuple #[.int .i64 ((fnd l s).length : Int), (fV l s).val u]) ∧ Ts w' u (fV l s).texts ∧ Keep [] w w' := by
  have hsf := store_f32
  simp only [Go.stored] at hsf
  have HV : Hid (As w v l) := hv
  obtain ⟨ao, ca, rfl, hl1, hl2, -⟩ := hv.ex
  clear hv
  go_enter Tryz.func7, Tryz.ntmps7
  go_wp2
  have HS : Hid _ := Fd.start w
  obtain ⟨p, HPp⟩ : ∃ p, Hid (p = w.heap.size) := ⟨_, show _ = _ from rfl⟩
  obtain ⟨q, HQq⟩ : ∃ q, Hid (q = w.heap.size + 1) := ⟨_, show _ = _ from rfl⟩
  rw [← HQq.out, ← HPp.out] at HS ⊢
  generalize ((w.alloc (.cells #[.int .i64 0, .bool false, .int .i64 0, .float .f32 0, .string ⟨#[]⟩, .slice none 0 0] 31)).alloc (.cells #[.int .i64 0, .bool false, .int .i64 0, .float .f32 0, .string ⟨#[]⟩, .slice none 0 0] 31)) = W0 at HS ⊢
  clear HPp HQq
  go_loopw [6, 8] (fun nv iv wr => ∃ (k n : Nat), iv = .int .i64 (k : Int) ∧ k ≤ l.length ∧ nv = .int .i64 (n : Int) ∧ n ≤ k ∧ Hid (∃ x u, Fd w wr p q x u ∧ n = (fnd (l.take k) s).length ∧ x = fV (l.take k) s)) (fun _ iv _ => l.length - (intOf iv).toNat)
  case atStart => exact ⟨0, 0, rfl, Nat.zero_le _, rfl, Nat.le_refl _, _, _, HS.out, rfl, rfl⟩
  case round =>
    obtain ⟨k, n, rfl, hk, rfl, hn, HI⟩ := hrel
    by_cases hlt : k < l.length
    · have hlti : (k : Int) < (l.length : Int) := by omega
      obtain ⟨x, u, hfd, hcnt, hx⟩ := HI.out
      have HF : Hid _ := hfd
      obtain ⟨bb, oo, _, u1, he, hoc1, hoc2, hA0, tA⟩ := HV.out.at k hlt
      simp at he
      obtain ⟨rfl, rfl⟩ := he
      have HT : Hid (Ts w u1 l[k].val.texts) := tA
      obtain ⟨a1, c1, rfl, -⟩ := tA.ex
      have hA := hA0.keep hfd.kp
      obtain ⟨d0, d1, d2, d3, d4, d5, dz⟩ := HF.out.bq
      cases hq : (l[k].nm.toList == s.toList)
      · have HN : Hid (n = (fnd (l.take (k + 1)) s).length ∧ x = fV (l.take (k + 1)) s) := by
          refine ⟨?_, ?_⟩
          · rw [fnd_no hlt hq]; exact hcnt
          · unfold fV; rw [fnd_no hlt hq]; exact hx
        clear hA0 tA hfd hcnt hx HI
        generalize l[k].val.texts.length = n1 at hA
        generalize l[k] = y at hA hq HT
        obtain ⟨m0, m1, m2, m3, m4, m5, m6⟩ := hA
        clear HT
        go_wp2
        go_roundw
        case rel => exact ⟨k + 1, n, by go_num, by omega, rfl, by omega, _, _, HF.out, HN.out.1, HN.out.2⟩
        case measure => simp [intOf]; omega
      · have HN : Hid (n + 1 = (fnd (l.take (k + 1)) s).length ∧ l[k].val = fV (l.take (k + 1)) s) := by
          refine ⟨?_, ?_⟩
          · rw [fnd_yes hlt hq, List.length_append]; simp; exact hcnt
          · unfold fV; rw [fnd_yes hlt hq]; simp
        clear hA0 tA hfd hcnt hx HI
        generalize l[k].val.texts.length = n1 at hA HT
        generalize l[k] = y at hA hq HT HN
        obtain ⟨m0, m1, m2, m3, m4, m5, m6⟩ := hA
        go_wp2
        go_roundw
        case rel => exact ⟨k + 1, n + 1, by go_num, by omega, by go_num, by omega, y.val, _, HF.out.set y.val _ HT.out, HN.out.1, HN.out.2⟩
        case measure => simp [intOf]; omega
    · have hlti : ¬ (k : Int) < (l.length : Int) := by omega
      have hkl : k = l.length := by omega
      subst hkl
      obtain ⟨x, u, hfd, hcnt, hx⟩ := HI.out
      rw [List.take_length] at hcnt hx
      have HN : Hid (n = (fnd l s).length ∧ x = fV l s) := ⟨hcnt, hx⟩
      have HF : Hid _ := hfd
      obtain ⟨a1, c1, rfl, -⟩ := hfd.ts.ex
      obtain ⟨d0, d1, d2, d3, d4, d5, dz⟩ := HF.out.bq
      obtain ⟨b0, b1, b2, b3, b4, b5, bz⟩ := HF.out.bp
      clear hfd hcnt hx HI
      have HX : Hid (P6 (((((((wr.setCell ⟨p, 0, none⟩ (.int .i64 x.kind)).setCell ⟨p, 1, none⟩ (.bool x.bool)).setCell ⟨p, 2, none⟩ (.int .i64 x.int)).setCell ⟨p, 3, none⟩ (.float .f32 x.real)).setCell ⟨p, 4, none⟩ (.string x.text)).setCell ⟨p, 5, none⟩ (.slice a1 x.texts.length c1)).drew) p (.int .i64 x.kind) (.bool x.bool) (.int .i64 x.int) (.float .f32 x.real) (.string x.text) (.slice a1 x.texts.length c1) ∧ Keep [] w (((((((wr.setCell ⟨p, 0, none⟩ (.int .i64 x.kind)).setCell ⟨p, 1, none⟩ (.bool x.bool)).setCell ⟨p, 2, none⟩ (.int .i64 x.int)).setCell ⟨p, 3, none⟩ (.float .f32 x.real)).setCell ⟨p, 4, none⟩ (.string x.text)).setCell ⟨p, 5, none⟩ (.slice a1 x.texts.length c1)).drew) ∧ P6 (((((((wr.setCell ⟨p, 0, none⟩ (.int .i64 x.kind)).setCell ⟨p, 1, none⟩ (.bool x.bool)).setCell ⟨p, 2, none⟩ (.int .i64 x.int)).setCell ⟨p, 3, none⟩ (.float .f32 x.real)).setCell ⟨p, 4, none⟩ (.string x.text)).setCell ⟨p, 5, none⟩ (.slice a1 x.texts.length c1)).drew) q (.int .i64 x.kind) (.bool x.bool) (.int .i64 x.int) (.float .f32 x.real) (.string x.text) (.slice a1 x.texts.length c1)) := by
        obtain ⟨h1, h2, h3⟩ := six HF.out.bp HF.out.kp HF.out.new.1 (.int .i64 x.kind) (.bool x.bool) (.int .i64 x.int) (.float .f32 x.real) (.string x.text) (.slice a1 x.texts.length c1)
        exact ⟨h1.keep (Keep.refl [] _).drew (by simp), h2.drew, (HF.out.bq.keep h3 (by simp; exact fun e => HF.out.new.2.2 e.symm)).keep (Keep.refl [] _).drew (by simp)⟩
      go_wp2
      refine wp_region_held_drew (S := (fun w1 : World => w1.cell? ⟨q, 0, none⟩ = some (.int .i64 x.kind) ∧ w1.cell? ⟨q, 1, none⟩ = some (.bool x.bool) ∧ w1.cell? ⟨q, 2, none⟩ = some (.int .i64 x.int) ∧ w1.cell? ⟨q, 3, none⟩ = some (.float .f32 x.real) ∧ w1.cell? ⟨q, 4, none⟩ = some (.string x.text) ∧ w1.cell? ⟨q, 5, none⟩ = some (.slice a1 x.texts.length c1))) (by kernel_rfl) (⟨by simp [d0], by simp [d1], by simp [d2], by simp [d3], by simp [d4], by simp [d5]⟩) (fun hHeld => ?_)
      try dsimp only at hHeld
      refine wpAnyH_take (i := 0) (oi := { dst := some 29, op := Go.Op.move (Go.Operand.tmp 6), type := 3, pos := "outright.go:100", after := #[], guard := none }) (v := ?_) rfl (by kernel_rfl) (by kernel_rfl) (by kernel_rfl) (fun _ _ _ h => h) (Or.inl ⟨by rfl, ?_⟩) (by assumption) ?_
      rotate_left
      · intro w7 hSw
        try dsimp only at hSw
        first | (go_simp; done) | (go_simp; with_reducible rfl)
      try simp only [Act.put, List.setIfInBounds_toArray, List.set_cons_zero, List.set_cons_succ]
      refine wpAnyH_take (i := 1) (oi := { dst := some 30, op := Go.Op.load 31 (Go.Operand.tmp 7), type := 31, pos := "outright.go:100", after := #[{ on := 2, ground := Go.Ground.gcOnly Go.Departure.lateStores }], guard := none }) (v := ?_) rfl (by kernel_rfl) (by kernel_rfl) (by kernel_rfl) (fun _ _ _ h => h) (Or.inl ⟨by rfl, ?_⟩) (by assumption) ?_
      rotate_left
      · intro w7 hSw
        try dsimp only at hSw
        first | (go_simp; done) | (go_simp; with_reducible rfl)
      try simp only [Act.put, List.setIfInBounds_toArray, List.set_cons_zero, List.set_cons_succ]
      refine wpAnyH_take (i := 2) (oi := { dst := some 4, op := Go.Op.assign (Go.Operand.tmp 29), type := 3, pos := "outright.go:100", after := #[{ on := 0, ground := Go.Ground.data }, { on := 0, ground := Go.Ground.phase }, { on := 1, ground := Go.Ground.textOnly Go.Departure.lateStores }], guard := none }) (v := ?_) rfl (by kernel_rfl) (by kernel_rfl) (by kernel_rfl) (fun _ _ _ h => h) (Or.inl ⟨by rfl, ?_⟩) (by assumption) ?_
      rotate_left
      · intro w7 hSw
        try dsimp only at hSw
        first | (go_simp; done) | (go_simp; with_reducible rfl)
      try simp only [Act.put, List.setIfInBounds_toArray, List.set_cons_zero, List.set_cons_succ]
      refine wpAnyH_ready (rs := [3]) (by kernel_rfl) (by simp) ?_
      refine AllReadyH.cons (o := { dst := none, op := Go.Op.store 31 (Go.Operand.tmp 5) (Go.Operand.tmp 30), type := 0, pos := "outright.go:100", after := #[{ on := 1, ground := Go.Ground.data }, { on := 2, ground := Go.Ground.chain }, { on := 0, ground := Go.Ground.phase }, { on := 1, ground := Go.Ground.phase }, { on := 2, ground := Go.Ground.phase }], guard := none }) rfl (fun K hK => ?_) AllReadyH.nil
      go_simp
      refine hK.out _ _ (⟨HX.out.2.2.c0, HX.out.2.2.c1, HX.out.2.2.c2, HX.out.2.2.c3, HX.out.2.2.c4, HX.out.2.2.c5⟩) (fun hHeld2 => ?_)
      try dsimp only at hHeld2
      clear hK hHeld
      have hHeld := hHeld2
      clear hHeld2
      try simp only [Act.put, List.setIfInBounds_toArray, List.set_cons_zero, List.set_cons_succ]
      refine wpAnyH_done (by kernel_rfl) ?_ _
      clear hHeld
      generalize (((((((wr.setCell ⟨p, 0, none⟩ (.int .i64 x.kind)).setCell ⟨p, 1, none⟩ (.bool x.bool)).setCell ⟨p, 2, none⟩ (.int .i64 x.int)).setCell ⟨p, 3, none⟩ (.float .f32 x.real)).setCell ⟨p, 4, none⟩ (.string x.text)).setCell ⟨p, 5, none⟩ (.slice a1 x.texts.length c1)).drew) = WW at HX ⊢
      have HTT : Hid (Ts WW (.slice a1 x.texts.length c1) x.texts) := HF.out.ts.keep HX.out.2.1 (Off.nil _)
      obtain ⟨⟨r0, r1, r2, r3, r4, r5, _⟩, HKF, _⟩ := HX.out
      have HK : Hid _ := HKF
      clear HKF d0 d1 d2 d3 d4 d5 dz b0 b1 b2 b3 b4 b5 bz HF HX
      go_wp2
      rw [← HN.out.2, ← HN.out.1]
      refine bodyPost_ret (v := .tuple #[.int .i64 (n : Int), x.val (.slice a1 x.texts.length c1)]) (by simp [results, Tryz.results7, go_sem, r0, r1, r2, r3, r4, r5]) rfl ⟨_, rfl, HTT.out, HK.out⟩
end Go.Proofs.YtncbanpimfhhbaaGreatDoor

/- Why the law holds: names stand once, a value is the same as itself. -/
namespace Go.Proofs.YtncbanpimfhhbaaGreatDoor
open Go.RowKit Go.PlainAid

theorem fnd_none {l : List AD} {s : ByteArray} (h : ∀ x ∈ l, x.nm ≠ s) : fnd l s = [] := by
  unfold fnd
  rw [List.filter_eq_nil_iff]
  intro x hx
  have := h x hx
  simp only [beq_iff_eq]
  exact fun e => this (toList_inj e)
theorem fnd_once {l : List AD} (hl : l.Pairwise ltA) {x : AD} (hx : x ∈ l) : fnd l x.nm = [x] := by
  induction l with
  | nil => cases hx
  | cons y l ih =>
    obtain ⟨h1, h2⟩ := List.pairwise_cons.1 hl
    rcases List.mem_cons.1 hx with rfl | hx
    · have h3 : fnd l x.nm = [] := fnd_none (fun z hz e => (h1 z hz).ne e.symm)
      unfold fnd at h3 ⊢
      rw [List.filter_cons_of_pos (by simp), h3]
    · have h3 := ih h2 hx
      have h4 : ¬ (y.nm.toList == x.nm.toList) = true := by
        simp only [beq_iff_eq]
        exact fun e => (h1 x hx).ne (toList_inj e)
      unfold fnd at h3 ⊢
      rw [List.filter_cons_of_neg (p := fun z : AD => z.nm.toList == x.nm.toList) h4, h3]
theorem fnd_le {l : List AD} (h : l.Pairwise ltA) (s : ByteArray) : (fnd l s).length = 0 ∨ (fnd l s).length = 1 := by
  by_cases hn : ∃ o ∈ l, s = o.nm
  · obtain ⟨o, ho, rfl⟩ := hn
    exact .inr (by rw [fnd_once h ho]; rfl)
  · exact .inl (by rw [fnd_none (fun o ho e => hn ⟨o, ho, e.symm⟩)]; rfl)
theorem fV_once {l : List AD} (hl : l.Pairwise ltA) {x : AD} (hx : x ∈ l) : fV l x.nm = x.val := by
  unfold fV
  rw [fnd_once hl hx]
  rfl
theorem fV_none {l : List AD} {s : ByteArray} (h : ∀ x ∈ l, x.nm ≠ s) : fV l s = voidV := by
  unfold fV
  rw [fnd_none h]
  rfl
theorem sameR_self (a : Nat) : sameR a a = true := by
  unfold sameR
  cases h : nanB a
  · have : eqB a a = true := by simp [eqB, h]
    simp [this]
  · simp
theorem sameV_self {x : VD} (h : x.mayB = true) : sameV x x = true := by
  unfold sameV
  simp [h, sameR_self, eqL_self]
theorem sameAL_self {l : List AD} (h : ∀ x ∈ l, x.val.mayB = true) : sameAL l l = true := by
  refine (sameAL_iff l l).2 ⟨rfl, fun i h1 h2 => ?_⟩
  unfold sameA
  simp [sameV_self (h _ (List.getElem_mem h1))]
theorem argsZ_nil : argsZ [] = 0 := argsZ_yes (by simp) (fun i h => absurd h (by simp))
theorem laid_nil (l : List AD) : laidL l [] = l := by
  induction l with
  | nil => rfl
  | cons x l ih => rw [laid_none, ih]
/-- what the walk asks of the two lists and of what Merge lays -/
structure Mg (own ctx L : List AD) : Prop where
  po : own.Pairwise ltA
  pc : ctx.Pairwise ltA
  pl : L.Pairwise ltA
  mem : ∀ x, x ∈ L ↔ x ∈ own ∨ (x ∈ ctx ∧ ∀ o ∈ own, x.nm ≠ o.nm)
  mo : ∀ x ∈ own, x.val.mayB = true
  mc : ∀ x ∈ ctx, x.val.mayB = true
theorem Rises.may {l : List AD} (h : Rises l) : ∀ x ∈ l, x.val.mayB = true := fun x hx => by
  obtain ⟨i, hi, rfl⟩ := List.getElem_of_mem hx
  exact (h i hi).2.1
theorem Mg.of {own ctx : List AD} (h1 : argsZ own = 0) (h2 : argsZ ctx = 0) : Mg own ctx (laidL own ctx) := by
  have r1 := (argsZ_is h1).2
  have r2 := (argsZ_is h2).2
  obtain ⟨a, b⟩ := laid_all own ctx r1.pair r2.pair
  exact ⟨r1.pair, r2.pair, a, b, r1.may, r2.may⟩
/-- an argument of the list: it is of own, or it is of ctx and own names none such -/
theorem Mg.at {own ctx L : List AD} (h : Mg own ctx L) {x : AD} (hx : x ∈ L) :
    ((fnd own x.nm).length = 1 ∧ fV own x.nm = x.val ∧ x.val.mayB = true) ∨ ((fnd own x.nm).length = 0 ∧ (fnd ctx x.nm).length = 1 ∧ fV ctx x.nm = x.val ∧ x.val.mayB = true) := by
  rcases (h.mem x).1 hx with h1 | ⟨h1, h2⟩
  · exact .inl ⟨by rw [fnd_once h.po h1]; rfl, fV_once h.po h1, h.mo x h1⟩
  · exact .inr ⟨by rw [fnd_none (fun o ho e => h2 o ho e.symm)]; rfl, by rw [fnd_once h.pc h1]; rfl, fV_once h.pc h1, h.mc x h1⟩
/-- each name of both stands there once -/
theorem Mg.own {own ctx L : List AD} (h : Mg own ctx L) {x : AD} (hx : x ∈ own) : (fnd L x.nm).length = 1 := by
  rw [fnd_once h.pl ((h.mem x).2 (.inl hx))]; rfl
theorem Mg.ctx {own ctx L : List AD} (h : Mg own ctx L) {x : AD} (hx : x ∈ ctx) : (fnd L x.nm).length = 1 := by
  by_cases hn : ∃ o ∈ own, x.nm = o.nm
  · obtain ⟨o, ho, e⟩ := hn
    rw [e]
    exact h.own ho
  · rw [fnd_once h.pl ((h.mem x).2 (.inr ⟨hx, fun o ho e => hn ⟨o, ho, e⟩⟩))]; rfl
theorem Mg.low {own ctx L : List AD} (h : Mg own ctx L) {i : Nat} (h1 : i < L.length) (h2 : i + 1 < L.length) : cmpT L[i].nm.toList L[i + 1].nm.toList = -1 :=
  List.pairwise_iff_getElem.1 h.pl i (i + 1) h1 h2 (Nat.lt_succ_self i)
end Go.Proofs.YtncbanpimfhhbaaGreatDoor

/- ValuesMerges: lists one of which may not be. -/
namespace Go.Proofs.YtncbanpimfhhbaaGreatDoor
open Go.RowKit Go.PlainAid

set_option maxRecDepth 1000000 in
set_option maxHeartbeats 1600000 in
theorem law_no (u v : Value) (own ctx : List AD) (w : World) (hu : As w u own) (hv : As w v ctx) (hno : ¬ (argsZ own = 0 ∧ argsZ ctx = 0)) :
    Calls Tryz.prog 3 #[u, v] w fun e w' => e = .returned (.bool true) ∧ Keep [] w w' := by
  have hM := merge_no u v own ctx w hu hv hno
  have hA := fun w1 (k : Keep [] w w1) => args_any u own w1 (hu.keep0 k)
  have hB := fun w1 (k : Keep [] w w1) => args_any v ctx w1 (hv.keep0 k)
  obtain ⟨ao, ca, rfl, -⟩ := hu.ex
  obtain ⟨bo, cb, rfl, -⟩ := hv.ex
  clear hu hv
  have hcs : (argsZ own = 41) ∨ (argsZ own = 0 ∧ argsZ ctx = 41) := by
    rcases argsZ_or own with h1 | h1
    · rcases argsZ_or ctx with h2 | h2
      · exact absurd ⟨h1, h2⟩ hno
      · exact .inr ⟨h1, h2⟩
    · exact .inl h1
  clear hno
  rcases hcs with h1 | ⟨h1, h2⟩
  · rw [h1] at hA
    clear h1 hB
    go_enter Tryz.func3, Tryz.ntmps3
    go_wp2_with fail
    refine hM.mono ?_
    rintro e9 w1 ⟨rfl, k1⟩
    have HK1 : Hid (Keep [] w w1) := k1
    clear hM k1
    go_wp2_with fail
    refine (awake_yes _).mono ?_
    rintro e9 w2 ⟨rfl, k1⟩
    have HK2 : Hid (Keep [] w w2) := HK1.out.trans' k1
    clear HK1 k1
    go_wp2_with fail
    refine (hA _ HK2.out).mono ?_
    rintro e9 w3 ⟨rfl, k1⟩
    have HK3 : Hid (Keep [] w w3) := HK2.out.trans' k1
    clear HK2 k1 hA
    go_wp2
    go_ret
    exact ⟨rfl, HK3.out⟩
  · rw [h1] at hA
    rw [h2] at hB
    clear h1 h2
    go_enter Tryz.func3, Tryz.ntmps3
    go_wp2_with fail
    refine hM.mono ?_
    rintro e9 w1 ⟨rfl, k1⟩
    have HK1 : Hid (Keep [] w w1) := k1
    clear hM k1
    go_wp2_with fail
    refine (awake_yes _).mono ?_
    rintro e9 w2 ⟨rfl, k1⟩
    have HK2 : Hid (Keep [] w w2) := HK1.out.trans' k1
    clear HK1 k1
    go_wp2_with fail
    refine (hA _ HK2.out).mono ?_
    rintro e9 w3 ⟨rfl, k1⟩
    have HK3 : Hid (Keep [] w w3) := HK2.out.trans' k1
    clear HK2 k1 hA
    go_wp2_with fail
    refine (hB _ HK3.out).mono ?_
    rintro e9 w4 ⟨rfl, k1⟩
    have HK4 : Hid (Keep [] w w4) := HK3.out.trans' k1
    clear HK3 k1 hB
    go_wp2
    go_ret
    exact ⟨rfl, HK4.out⟩
end Go.Proofs.YtncbanpimfhhbaaGreatDoor
