/- The document's parts. -/
import Derived.Test.YtmlpkjeaieljfaaDd
namespace Go.Proofs.Ytmlpkjeaieljfaa
open Go.RowKit Go.PlainAid

theorem infoW : (Try.prog.info? 53).map (fun i => (i.zero, i.size, i.bytes)) = some (some (.slice none 0 0), 1, 24) := by kernel_rfl
theorem src_way (w : World) (n g : Nat) : Src Try.prog 1 60 (.slice (some ⟨w.heap.size, 0, none⟩) 1 1) 1 (encW n g) (w.alloc (.cells #[.slice (some ⟨g, 0, none⟩) n n] 53 (0, 0))) := by
  refine Src.ofSlice _ Try.underlying60 ⟨w.heap.size, 0, none⟩ 1 1 (encW n g) rfl (fun j u hu => ?_) (fun u hu => ?_)
  · have hj : j = 0 := by
      have := (List.getElem?_eq_some_iff.1 hu).1
      simpa [encW] using this
    subst hj
    simp [encW] at hu
    subst hu
    simp [Addr.add]
  · simp [encW] at hu
    subst hu
    rfl
theorem eI_inj (x y : Int) (h : eI x = eI y) : x = y := by simpa [eI] using h
/-- how many have no number yet -/
def lack (n : Nat) (O : List Int) : Nat := (List.range n).countP (fun y => decide (O.getD y (-1) = -1))
theorem lack_le (n : Nat) (O : List Int) : lack n O ≤ n := by
  have := List.countP_le_length (p := fun y => decide (O.getD y (-1) = -1)) (l := List.range n)
  simpa [lack] using this
theorem lack_less {n q : Nat} {O O' : List Int} (h : ∀ y, y < n → O'.getD y (-1) = -1 → O.getD y (-1) = -1) (hq : q < n) (h1 : O.getD q (-1) = -1) (h2 : O'.getD q (-1) ≠ -1) : lack n O' < lack n O :=
  countP_less _ (fun y hy e => decide_eq_true (h y (List.mem_range.1 hy) (of_decide_eq_true e))) q (List.mem_range.2 hq) (decide_eq_true h1) (decide_eq_false h2)

/-- the ways so far -/
structure P1 (w : World) (go n : Nat) (A : List Ar) (i : Nat) (v : Value) (G : List Nat) (O : List Int) (wr : World) : Prop where
  row : Rw 53 (encW n) 1 wr v G
  glen : G.length = i
  vnew : ∀ x, v.ownBlock = some x → w.heap.size ≤ x ∧ x ≠ go
  marks : ∀ j, j < i → ∃ m, Arr 4 eB wr (G.getD j 0) n m ∧ ∀ x, Mk m x ↔ Rch (Ec A) j x
  gne : ∀ j, j < i → G.getD j 0 ≠ go ∧ v.ownBlock ≠ some (G.getD j 0)
  out : Arr 3 eI wr go n O
  none_ : ∀ x, x < i → O.getD x (-1) = -1
  keep : Keep [] w wr
  new : w.heap.size ≤ go

theorem getD_snoc {α : Type} (l : List α) (x d : α) (j : Nat) : (l ++ [x]).getD j d = if j < l.length then l.getD j d else if j = l.length then x else d := by
  rw [List.getD_eq_getElem?_getD, List.getD_eq_getElem?_getD]
  by_cases h : j < l.length
  · rw [if_pos h, List.getElem?_append_left h]
  · rw [if_neg h, List.getElem?_append_right (by omega)]
    by_cases e : j = l.length
    · rw [if_pos e, e]; simp
    · rw [if_neg e, List.getElem?_eq_none (by simp; omega)]; rfl

theorem P1.next {w : World} {go n : Nat} {A : List Ar} {i : Nat} {v : Value} {G : List Nat} {O : List Int} {wr : World} (h : P1 w go n A i v G O wr) (hi : i < n) {w2 : World} (k2 : Keep [] wr w2) {g2 : Nat} {m2 : List Bool} (hg : wr.heap.size ≤ g2) (ha : Arr 4 eB w2 g2 n m2) (hm : ∀ x, Mk m2 x ↔ Rch (Ec A) i x) {o : Obj} {v9 : Value} {w9 : World}
    (R9 : RowC w9 53 1 v9 (G.length + 1) (G.flatMap (encW n) ++ encW n g2)) (K9 : Keep v.ownBlock.toList (w2.alloc o) w9) (F9 : v9.ownBlock = v.ownBlock ∨ Fresh (w2.alloc o) w9 v9) :
    P1 w go n A (i + 1) v9 (G ++ [g2]) (O.set i (-1)) (w9.setCell ⟨go, i, none⟩ (.int .i64 (-1))) := by
  have hgl := h.glen
  have hlo := h.out.lt
  have hnew := h.new
  have hks := h.keep.size
  have k2s := k2.size
  have k3 : Keep [] wr (w2.alloc o) := k2.alloc o
  have vlt : ∀ x, v.ownBlock = some x → x < wr.heap.size := h.row.lt
  have glt : ∀ j, j < i → G.getD j 0 < wr.heap.size := fun j hj => by
    obtain ⟨m, a, -⟩ := h.marks j hj
    exact a.lt
  have hg2 : g2 < w2.heap.size := ha.lt
  have K10 : Keep [go] w9 (w9.setCell ⟨go, i, none⟩ (.int .i64 (-1))) := Keep.set1 w9 ⟨go, i, none⟩ _
  have voff : ∀ x, v.ownBlock ≠ some x → x ∉ v.ownBlock.toList := fun x hx hm => hx (by simpa using hm)
  have v9new : ∀ x, v9.ownBlock = some x → w.heap.size ≤ x ∧ x ≠ go := fun x hx => by
    rcases F9 with e | e
    · rw [e] at hx; exact h.vnew x hx
    · have := (e x hx).1
      simp at this
      exact ⟨by omega, by omega⟩
  have v9g : ∀ j, j < i + 1 → v9.ownBlock ≠ some ((G ++ [g2]).getD j 0) ∧ (G ++ [g2]).getD j 0 ≠ go := fun j hj => by
    rw [getD_snoc]
    by_cases e : j < G.length
    · rw [if_pos e]
      refine ⟨fun hx => ?_, (h.gne j (by omega)).1⟩
      rcases F9 with e9 | e9
      · rw [e9] at hx; exact (h.gne j (by omega)).2 hx
      · have := (e9 _ hx).1
        have := glt j (by omega)
        simp at *
        omega
    · rw [if_neg e, if_pos (by omega)]
      refine ⟨fun hx => ?_, by omega⟩
      rcases F9 with e9 | e9
      · rw [e9] at hx
        have := vlt _ hx
        omega
      · have := (e9 _ hx).1
        simp at this
        omega
  refine ⟨?_, by simp [hgl], v9new, fun j hj => ?_, fun j hj => ⟨(v9g j hj).2, (v9g j hj).1⟩, ?_, fun x hx => ?_, ?_, hnew⟩
  · refine Rw.keep (k := 1) ?_ K10 (fun x hx hm => (v9new x hx).2 (by simpa using hm))
    unfold Rw
    rw [List.length_append, List.flatMap_append, List.flatMap_cons, List.flatMap_nil, List.append_nil]
    exact R9
  · have hne := (v9g j hj).2
    rw [getD_snoc] at hne ⊢
    by_cases e : j < G.length
    · rw [if_pos e] at hne ⊢
      obtain ⟨m, a, s⟩ := h.marks j (by omega)
      exact ⟨m, ((a.keep k3 (by simp)).keep K9 (voff _ (h.gne j (by omega)).2)).keep K10 (by simpa using hne), s⟩
    · rw [if_neg e, if_pos (by omega)] at hne ⊢
      have hv : v.ownBlock ≠ some g2 := fun hx => by
        have := vlt _ hx
        omega
      exact ⟨m2, ((ha.keep (Keep.alloc1 w2 o) (by simp)).keep K9 (voff _ hv)).keep K10 (by simpa using hne), by rw [show j = i by omega]; exact hm⟩
  · exact (((h.out.keep k3 (by simp)).keep K9 (voff _ (fun hx => (h.vnew _ hx).2 rfl))).put i (-1))
  · have hl := h.out.len
    rw [getD_set _ _ _ _ _ (by omega)]
    by_cases e : x = i
    · rw [if_pos e]
    · rw [if_neg e]; exact h.none_ x (by omega)
  · refine ((h.keep.trans' k3).more K9 (fun x hx => .inr (h.vnew x (by simpa using hx)).1)).more K10 (fun x hx => .inr (by simp at hx; omega))

/-- while numbers are given -/
structure P2 (w : World) (go n : Nat) (A : List Ar) (v : Value) (G : List Nat) (R : Nat → Nat → Bool) (O : List Int) (wr : World) : Prop where
  wy : Wy wr v n A G R
  out : Arr 3 eI wr go n O
  voff : v.ownBlock ≠ some go
  goff : ∀ i, i < n → G.getD i 0 ≠ go
  keep : Keep [] w wr
  new : w.heap.size ≤ go
theorem P2.step {w : World} {go n : Nat} {A : List Ar} {v : Value} {G : List Nat} {R : Nat → Nat → Bool} {O : List Int} {wr w' : World} (h : P2 w go n A v G R O wr) (k : Keep [] wr w') : P2 w go n A v G R O w' :=
  ⟨h.wy.keep k (Off.nil _) (by simp), h.out.keep k (by simp), h.voff, h.goff, h.keep.trans' k, h.new⟩
theorem P2.put {w : World} {go n : Nat} {A : List Ar} {v : Value} {G : List Nat} {R : Nat → Nat → Bool} {O : List Int} {wr : World} (h : P2 w go n A v G R O wr) (x : Nat) (k : Int) : P2 w go n A v G R (O.set x k) (wr.setCell ⟨go, x, none⟩ (.int .i64 k)) := by
  have kk : Keep [go] wr (wr.setCell ⟨go, x, none⟩ (.int .i64 k)) := Keep.set1 wr ⟨go, x, none⟩ _
  exact ⟨h.wy.keep kk (fun y hy hm => h.voff (by simp at hm; rw [hy, hm])) (fun i hi => by simpa using h.goff i hi), h.out.put x k, h.voff, h.goff, h.keep.more kk (fun y hy => .inr (by simp at hy; have := h.new; omega)), h.new⟩
open Classical in
theorem P1.done {w : World} {go n : Nat} {A : List Ar} {v : Value} {G : List Nat} {O : List Int} {wr : World} (h : P1 w go n A n v G O wr) : ∃ R, P2 w go n A v G R O wr := by
  refine ⟨fun i j => decide (Rch (Ec A) i j), ⟨h.row.rd (encW_len n), h.glen, fun i j hi hj => ?_, fun i hi => ?_, fun i j _ _ => decide_eq_true_iff⟩, h.out, fun e => (h.vnew _ e).2 rfl, fun i hi => (h.gne i hi).1, h.keep, h.new⟩
  · obtain ⟨m, a, s⟩ := h.marks i hi
    rw [a.cell false j hj]
    have : m.getD j false = decide (Rch (Ec A) i j) := Bool.eq_iff_iff.2 ⟨fun hm => decide_eq_true ((s j).1 hm), fun hd => (s j).2 (of_decide_eq_true hd)⟩
    rw [this]
    rfl
  · obtain ⟨m, a, -⟩ := h.marks i hi
    exact a.lt

/-- what parts answers -/
def DpR (w w' : World) (v : Value) (n : Nat) (A : List Ar) : Prop := ∃ g p, v = .slice (some ⟨g, 0, none⟩) n n ∧ w.heap.size ≤ g ∧ Arr 3 eN w' g n p ∧ Numbered (Ec A) n (fun x => p.getD x 0) ∧ Keep [] w w'
theorem Arr.nats {w : World} {g n : Nat} {O : List Int} (h : Arr 3 eI w g n O) (h0 : ∀ x, x < n → 0 ≤ O.getD x (-1)) : Arr 3 eN w g n (O.map Int.toNat) := by
  refine ⟨?_, by rw [List.length_map]; exact h.len⟩
  have : (O.map Int.toNat).map eN = O.map eI := by
    rw [List.map_map]
    refine List.map_congr_left fun x hx => ?_
    obtain ⟨i, hi, rfl⟩ := List.getElem_of_mem hx
    have := h0 i (by rw [← h.len]; exact hi)
    rw [List.getD_eq_getElem?_getD, List.getElem?_eq_getElem hi] at this
    simp only [Option.getD_some] at this
    simp only [Function.comp, eN, eI]
    rw [Int.toNat_of_nonneg this]
  rw [this]
  exact h.row

set_option maxRecDepth 1000000 in
set_option maxHeartbeats 8000000 in
theorem rparts_any (n : Nat) (va : Value) (A : List Ar) (w : World) (hA : Rd encA 3 w va A) (hnd : ∀ a ∈ A, a.f < n ∧ a.t < n) (hn : n ≤ 4096) :
    Calls Try.prog 34 #[.int .i64 (n : Int), va] w fun e w' => ∃ v, e = .returned v ∧ DpR w w' v n A := by
  obtain ⟨ao, cap, rfl, hc1, hc2⟩ := hA.form
  have HA : Hid (Rd encA 3 w (.slice ao A.length cap) A ∧ (∀ a ∈ A, a.f < n ∧ a.t < n) ∧ ∀ x y, Ec A x y → x < n ∧ y < n) := ⟨hA, hnd, fun x y h => by obtain ⟨a, ha, rfl, rfl⟩ := h; exact hnd a ha⟩
  obtain ⟨i3, hi3, hz3, hs3, hy3⟩ := info_parts infoI
  have HB2 : Hid (i3.bytes * n ≤ 281474976710656) := show i3.bytes * n ≤ 281474976710656 by rw [hy3]; omega
  have HB3 : Hid (n ≤ maxLen) := show n ≤ maxLen by simp only [maxLen]; omega
  clear hA hnd
  go_enter Try.func34, Try.ntmps34
  go_wp2_with (at_make; refine wpList_make_full _ rfl (.tmp 12) (.tmp 12) 26 rfl 0 3 i3 (.int .i64 0) 1 Try.underlying26 hi3 hz3 hs3 .i64 .i64 _ _ n rfl rfl rfl rfl HB2.out HB3.out (Nat.zero_le _) ?_)
  intro w1 r1 r2
  obtain ⟨go, HGO⟩ : ∃ go : Nat, Hid (go = w.heap.size) := ⟨_, show _ = _ from rfl⟩
  rw [← HGO.out] at r1 ⊢
  have H1 : Hid (P1 w go n A 0 (.slice none 0 0) [] (List.replicate n 0) w1) := ⟨Rw.nil 53 (encW n) 1 w1, rfl, fun x hx => by simp [Value.ownBlock] at hx, fun j hj => by omega, fun j hj => by omega, Arr.made (e := eI) (z := 0) r1, fun x hx => by omega, Keep.mono (Keep.grown r2) (by simp), by rw [HGO.out]; exact Nat.le_refl _⟩
  clear r1 r2 HB2 HB3 hi3 hz3 hs3 hy3
  obtain ⟨mz, hmz⟩ := arr_fn (E := 3) eI_inj go n (lack n)
  have HMZ : Hid (∀ w m, Arr 3 eI w go n m → mz w = lack n m) := hmz
  clear hmz
  go_wp2
  go_loopw [5, 7] (fun vv iv wr => ∃ (i : Nat) (G : List Nat) (O : List Int), iv = .int .i64 (i : Int) ∧ i ≤ n ∧ Hid (P1 w go n A i vv G O wr)) (fun _ iv _ => n - (intOf iv).toNat)
  case atStart => exact ⟨0, _, _, rfl, Nat.zero_le _, H1⟩
  case round =>
    clear H1
    obtain ⟨i, G, O, rfl, hi, HI⟩ := hrel
    by_cases hlt : i < n
    · have hlti : (i : Int) < (n : Int) := by omega
      have hgl : Hid (G.length = i) := HI.out.glen
      have HR : Hid (∀ o, Calls Try.prog 41 #[.int .i64 (n : Int), .slice ao A.length cap, .slice (some ⟨wr.heap.size, 0, none⟩) 1 1] (wr.alloc (.cells #[.int .i64 (i : Int)] 3 o)) fun e w' => ∃ v, e = .returned v ∧ RaR (wr.alloc (.cells #[.int .i64 (i : Int)] 3 o)) w' v n A [i]) := fun o => by
        refine rReached_any n _ _ A [i] _ ((HA.out.1.keep HI.out.keep (Off.nil _)).keep (Keep.alloc1 wr _) (Off.nil _)) ?_ HA.out.2.1 (fun k hk => by simp at hk; omega) hn
        refine ⟨some ⟨wr.heap.size, 0, none⟩, 1, rfl, by simp, by simp [maxLen], (by intro h; cases h), fun _ => ⟨wr.heap.size, 0, rfl, by simp, fun j hj q hq => ?_⟩⟩
        have hb := heap_alloc_new wr (.cells #[.int .i64 (i : Int)] 3 o)
        obtain rfl : j = 0 := by simpa using hj
        obtain rfl : q = 0 := by omega
        simp only [World.cell?, hb]
        rfl
      go_wp2_with fail
      refine (HR.out _).mono ?_
      rintro e w2 ⟨v2, rfl, g2, m2, rfl, q1, q2, q3, q4⟩
      have H2 : Hid (Keep [] wr w2 ∧ wr.heap.size ≤ g2 ∧ Arr 4 eB w2 g2 n m2 ∧ ∀ x, Mk m2 x ↔ Rch (Ec A) i x) := ⟨(Keep.alloc1 wr _).trans' q4, by simp at q1; omega, q2, fun x => by rw [q3 x]; simp⟩
      have hal : Hid ((G.length + 1) * 24 ≤ 140737488355328 ∧ G.length + 1 ≤ maxLen) := by
        have := hgl.out
        refine ⟨by omega, ?_⟩
        unfold maxLen; omega
      have HS : Hid _ := src_way w2 n g2
      have HRw : Hid (RowC (w2.alloc (.cells #[.slice (some ⟨g2, 0, none⟩) n n] 53 (0, 0))) 53 1 u5 G.length (G.flatMap (encW n))) := RowC.keep (RowC.keep HI.out.row H2.out.1 (Off.nil _)) (Keep.alloc1 w2 _) (Off.nil _)
      clear q1 q2 q3 q4 HR
      go_wp2_with (at_builtin; refine wp_appC infoW rfl rfl (.tmp 19) (.tmp 25) 60 60 rfl Try.underlying60 u5 G.length (G.flatMap (encW n)) rfl HRw.out _ 1 (encW n g2) rfl HS.out hal.out.1 hal.out.2 ?_)
      intro v9 w9 R9 K9 F9 S9 _
      have HJ : Hid (P1 w go n A (i + 1) v9 (G ++ [g2]) (O.set i (-1)) (w9.setCell ⟨go, i, none⟩ (.int .i64 (-1)))) := HI.out.next hlt H2.out.1 H2.out.2.1 H2.out.2.2.1 H2.out.2.2.2 R9 K9 F9
      have hv : u5.ownBlock ≠ some go := fun hx => (HI.out.vnew _ hx).2 rfl
      have ha9 : Arr 3 eI w9 go n O := (((HI.out.out.keep H2.out.1 (by simp)).keep (Keep.alloc1 w2 _) (by simp)).keep K9 (fun hm => hv (by simpa using hm)))
      have e9 : w9.cell? ⟨go, i, none⟩ = some (.int .i64 (O.getD i 0)) := ha9.cell 0 i hlt
      have f9 := ha9.free i
      obtain ⟨a9, c9, rfl⟩ := S9
      clear R9 K9 F9 HRw HS HI ha9 hv H2
      go_wp2
      go_roundw
      case rel => exact ⟨i + 1, _, _, by go_num, by omega, HJ⟩
      case measure => simp [intOf]; omega
    · have hlti : ¬ (i : Int) < (n : Int) := by omega
      obtain rfl : i = n := by omega
      have HP : ∃ R, Hid (P2 w go i A u5 G R O wr ∧ Nb (Ec A) i (fun x => O.getD x (-1)) 0) := by
        obtain ⟨R, h⟩ := HI.out.done
        exact ⟨R, h, Nb.start _ _ _ HI.out.none_ HA.out.2.2⟩
      obtain ⟨R, HP⟩ := HP
      obtain ⟨a5, c5, e5, -⟩ := (HP.out.1.wy.rd).form
      rw [HP.out.1.wy.len] at e5
      subst e5
      clear HI hlt hi
      go_wp2
      go_loopw [8] (fun kv wr => ∃ (k : Nat) (O : List Int), kv = .int .i64 (k : Int) ∧ Hid (P2 w go i A (.slice a5 i c5) G R O wr ∧ Nb (Ec A) i (fun x => O.getD x (-1)) k ∧ k + lack i O ≤ i)) (fun _ wr => mz wr)
      case atStart => exact ⟨0, O, rfl, HP.out.1, HP.out.2, by have := lack_le i O; omega⟩
      case round =>
        clear HP hlti
        obtain ⟨k, O, rfl, HI⟩ := hrel
        have hk : k ≤ i := by have := HI.out.2.2; omega
        have HM0 : Hid (mz wr = lack i O) := HMZ.out _ _ HI.out.1.out
        obtain ⟨mz0, hz0⟩ : ∃ z : Nat, z = mz wr := ⟨_, rfl⟩
        rw [← hz0] at HM0
        go_wp2
        go_loopw [9, 10] (fun lv jv wr => ∃ j : Nat, jv = .int .i64 (j : Int) ∧ j ≤ i ∧ Hid (P2 w go i A (.slice a5 i c5) G R O wr) ∧ ((lv = .int .i64 (-1) ∧ Hid (∀ x, x < j → O.getD x (-1) = -1 → ¬ Rdy (Ec A) (fun x => O.getD x (-1)) x)) ∨ ∃ q : Nat, lv = .int .i64 (q : Int) ∧ q < i ∧ Hid (O.getD q (-1) = -1 ∧ Rdy (Ec A) (fun x => O.getD x (-1)) q ∧ ∀ x, x < q → O.getD x (-1) = -1 → ¬ Rdy (Ec A) (fun x => O.getD x (-1)) x))) (fun lv jv _ => 2 * (i - (intOf jv).toNat))
        case atStart => exact ⟨0, rfl, Nat.zero_le _, HI.out.1, .inl ⟨rfl, fun x hx => by omega⟩⟩
        case round =>
          obtain ⟨j, rfl, hj, HP, hc⟩ := hrel
          rcases hc with ⟨rfl, HN⟩ | ⟨q, rfl, hq, HQ⟩
          · by_cases hlt : j < i
            · have hlti : (j : Int) < (i : Int) := by omega
              have e1 : wr.cell? ⟨go, j, none⟩ = some (.int .i64 (O.getD j (-1))) := HP.out.out.cell (-1) j hlt
              have HRg : Hid (O.getD j (-1) = -1 ∨ 0 ≤ O.getD j (-1)) := by
                rcases HI.out.2.1.rng j hlt with h | h
                · exact .inl h
                · exact .inr h.1
              have HRy : Hid (∀ (_ : True), Calls Try.prog 49 #[.slice ao A.length cap, .slice (some ⟨go, 0, none⟩) i i, .slice a5 i c5, .int .i64 (j : Int)] wr fun e w' => RdR wr w' A O j e) := fun _ => ready_any i go j _ _ A G R O wr (HA.out.1.keep HP.out.keep (Off.nil _)) HA.out.2.1 HP.out.out HP.out.wy hlt
              obtain ⟨oj, HOJ⟩ : ∃ oj : Int, Hid (oj = O.getD j (-1)) := ⟨_, show _ = _ from rfl⟩
              rw [← HOJ.out] at e1 HRg
              by_cases ho : oj < 0
              · have HO1 : Hid (O.getD j (-1) = -1) := by
                  show _ = _
                  rw [← HOJ.out]
                  rcases HRg.out with h | h
                  · exact h
                  · omega
                go_wp2_with fail
                refine (HRy.out trivial).mono ?_
                rintro e w2 ⟨b, rfl, hb, k2⟩
                have HP2 : Hid (P2 w go i A (.slice a5 i c5) G R O w2) := HP.out.step k2
                cases b with
                | true =>
                  have HQ : Hid (O.getD j (-1) = -1 ∧ Rdy (Ec A) (fun x => O.getD x (-1)) j ∧ ∀ x, x < j → O.getD x (-1) = -1 → ¬ Rdy (Ec A) (fun x => O.getD x (-1)) x) := ⟨HO1.out, hb.1 rfl, HN.out⟩
                  clear hb k2 HP HRy HN HRg e1
                  go_wp2
                  go_roundw
                  case rel => exact ⟨j + 1, by go_num, by omega, HP2, .inr ⟨j, rfl, hlt, HQ⟩⟩
                  case measure => simp [intOf]; omega
                | false =>
                  have HN2 : Hid (∀ x, x < j + 1 → O.getD x (-1) = -1 → ¬ Rdy (Ec A) (fun x => O.getD x (-1)) x) := fun x hx h1 h2 => by
                    by_cases e : x < j
                    · exact HN.out x e h1 h2
                    · have e2 : x = j := by omega
                      rw [e2] at h2
                      have := hb.2 h2
                      cases this
                  clear hb k2 HP HRy HN HRg e1
                  go_wp2
                  go_roundw
                  case rel => exact ⟨j + 1, by go_num, by omega, HP2, .inl ⟨rfl, HN2⟩⟩
                  case measure => simp [intOf]; omega
              · have HN2 : Hid (∀ x, x < j + 1 → O.getD x (-1) = -1 → ¬ Rdy (Ec A) (fun x => O.getD x (-1)) x) := fun x hx h1 h2 => by
                  by_cases e : x < j
                  · exact HN.out x e h1 h2
                  · have e2 : x = j := by omega
                    rw [e2, ← HOJ.out] at h1
                    omega
                clear HRy HN HRg HOJ
                go_wp2
                go_roundw
                case rel => exact ⟨j + 1, by go_num, by omega, HP, .inl ⟨rfl, HN2⟩⟩
                case measure => simp [intOf]; omega
            · have hlti : ¬ (j : Int) < (i : Int) := by omega
              have HE : Hid (DpR w wr (.slice (some ⟨go, 0, none⟩) i i) i A) := by
                have hno : ∀ x, x < i → O.getD x (-1) = -1 → ¬ Rdy (Ec A) (fun x => O.getD x (-1)) x := fun x hx => HN.out x (by omega)
                have hall := HI.out.2.1.all HA.out.2.2 hno
                have hnum := HI.out.2.1.numbered HA.out.2.2 hall
                have hl := HP.out.out.len
                have hg : ∀ x, x < i → (O.map Int.toNat).getD x 0 = (O.getD x (-1)).toNat := fun x hx => by
                  rw [List.getD_eq_getElem?_getD, List.getElem?_map, List.getD_eq_getElem?_getD, List.getElem?_eq_getElem (by omega)]
                  rfl
                refine ⟨go, O.map Int.toNat, rfl, HP.out.new, HP.out.out.nats hall, ?_, HP.out.keep⟩
                refine ⟨fun x y hx hy => ?_, fun x hx k hk => ?_, fun x y hxy => ?_, fun x z hx hz hxz hrd => ?_⟩
                · simp only [hg x hx, hg y hy]; exact hnum.same x y hx hy
                · simp only [hg x hx] at hk
                  obtain ⟨y, hy, e⟩ := hnum.full x hx k hk
                  exact ⟨y, hy, by simp only [hg y hy]; exact e⟩
                · have hb := HA.out.2.2 x y hxy
                  simp only [hg x hb.1, hg y hb.2]; exact hnum.down x y hxy
                · simp only [hg x hx, hg z hz] at hxz
                  obtain ⟨y, hy, e1, e2⟩ := hnum.least x z hx hz hxz (fun u v hu huv => by
                    have := hrd u v hu huv
                    simp only [hg v (HA.out.2.2 u v huv).2, hg x hx] at this
                    exact this)
                  exact ⟨y, hy, by simp only [hg x hx, hg y hy]; exact e1, e2⟩
              clear HP HI HN
              go_wp2
              go_ret
              exact ⟨_, rfl, HE.out⟩
          · have hqi : (q : Int) < (i : Int) := by omega
            have hq0 : ¬ (q : Int) < 0 := by omega
            obtain ⟨gw, ow, cw, ew, -⟩ := HP.out.wy.at q hq
            simp at ew
            obtain ⟨rfl, rfl⟩ := ew
            by_cases hlt : j < i
            · have hlti : (j : Int) < (i : Int) := by omega
              clear hlt
              go_wp2
              go_loopw [11] (fun xv wr => ∃ (x : Nat) (O' : List Int), xv = .int .i64 (x : Int) ∧ x ≤ i ∧ Hid (P2 w go i A (.slice (some ⟨gw, ow, none⟩) i c5) G R O' wr ∧ ∀ y, y < i → (y < x → Mut (Ec A) y q → O'.getD y (-1) = k) ∧ (¬ (y < x ∧ Mut (Ec A) y q) → O'.getD y (-1) = O.getD y (-1)))) (fun xv _ => i - (intOf xv).toNat)
              case atStart => exact ⟨0, O, rfl, Nat.zero_le _, HP.out, fun y _ => ⟨(fun h => by omega), fun _ => rfl⟩⟩
              case round =>
                clear HP hj
                obtain ⟨x, O', rfl, hx, HB⟩ := hrel
                by_cases hlt : x < i
                · have hlti : (x : Int) < (i : Int) := by omega
                  have q1 : wr.cell? ⟨gw, ow + q, none⟩ = some (.slice (some ⟨G.getD q 0, 0, none⟩) i i) := by
                    obtain ⟨b, o, c, e, qq⟩ := HB.out.1.wy.at q hq
                    simp at e
                    obtain ⟨⟨rfl, rfl⟩, rfl⟩ := e
                    exact qq
                  have q2 : wr.cell? ⟨gw, ow + x, none⟩ = some (.slice (some ⟨G.getD x 0, 0, none⟩) i i) := by
                    obtain ⟨b, o, c, e, qq⟩ := HB.out.1.wy.at x hlt
                    simp at e
                    obtain ⟨⟨rfl, rfl⟩, rfl⟩ := e
                    exact qq
                  have r1 := HB.out.1.wy.cell q x hq hlt
                  have r2 := HB.out.1.wy.cell x q hlt hq
                  have HMu : Hid ((R x q = true ∧ R q x = true) ↔ Mut (Ec A) x q) := HB.out.1.wy.mut hlt hq
                  have e9 : wr.cell? ⟨go, x, none⟩ = some (.int .i64 (O'.getD x 0)) := HB.out.1.out.cell 0 x hlt
                  have f9 := HB.out.1.out.free x
                  have HNo : Hid (¬ Mut (Ec A) x q → ∀ y, y < i → (y < x + 1 → Mut (Ec A) y q → O'.getD y (-1) = k) ∧ (¬ (y < x + 1 ∧ Mut (Ec A) y q) → O'.getD y (-1) = O.getD y (-1))) := fun hm y hy => by
                    have := HB.out.2 y hy
                    refine ⟨fun h1 h2 => this.1 (Nat.lt_of_le_of_ne (by omega) (fun e => hm (e ▸ h2))) h2, fun h1 => this.2 (fun h2 => h1 ⟨by omega, h2.2⟩)⟩
                  have HYes : Hid (Mut (Ec A) x q → ∀ y, y < i → (y < x + 1 → Mut (Ec A) y q → (O'.set x k).getD y (-1) = k) ∧ (¬ (y < x + 1 ∧ Mut (Ec A) y q) → (O'.set x k).getD y (-1) = O.getD y (-1))) := fun hm y hy => by
                    have := HB.out.2 y hy
                    have hl := HB.out.1.out.len
                    rw [getD_set _ _ _ _ _ (by omega)]
                    by_cases e : y = x
                    · rw [if_pos e]
                      exact ⟨fun _ _ => rfl, fun h => absurd ⟨by omega, e ▸ hm⟩ h⟩
                    · rw [if_neg e]
                      exact ⟨fun h1 h2 => this.1 (by omega) h2, fun h1 => this.2 (fun h2 => h1 ⟨by omega, h2.2⟩)⟩
                  have HPu : Hid (P2 w go i A (.slice (some ⟨gw, ow, none⟩) i c5) G R (O'.set x k) (wr.setCell ⟨go, x, none⟩ (.int .i64 (k : Int)))) := HB.out.1.put x k
                  have HPn : Hid (P2 w go i A (.slice (some ⟨gw, ow, none⟩) i c5) G R O' wr) := HB.out.1
                  clear HB
                  generalize R q x = x1 at r1 HMu
                  generalize R x q = x2 at r2 HMu
                  generalize G.getD q 0 = gq at *
                  generalize G.getD x 0 = gx at *
                  cases x1 with
                  | false =>
                    have HX := HNo.out (fun h => by have := HMu.out.2 h; simp at this)
                    have HX2 : Hid (type_of% HX) := HX
                    clear HX HNo HYes HPu HMu e9 f9
                    go_wp2
                    go_roundw
                    case rel => exact ⟨x + 1, O', by go_num, by omega, HPn.out, HX2.out⟩
                    case measure => simp [intOf]; omega
                  | true =>
                    cases x2 with
                    | false =>
                      have HX := HNo.out (fun h => by have := HMu.out.2 h; simp at this)
                      have HX2 : Hid (type_of% HX) := HX
                      clear HX HNo HYes HPu HMu e9 f9
                      go_wp2
                      go_roundw
                      case rel => exact ⟨x + 1, O', by go_num, by omega, HPn.out, HX2.out⟩
                      case measure => simp [intOf]; omega
                    | true =>
                      have HX := HYes.out (HMu.out.1 ⟨rfl, rfl⟩)
                      have HX2 : Hid (type_of% HX) := HX
                      clear HX HNo HYes HPn HMu
                      go_wp2
                      go_roundw
                      case rel => exact ⟨x + 1, O'.set x k, by go_num, by omega, HPu.out, HX2.out⟩
                      case measure => simp [intOf]; omega
                · have hlti : ¬ (x : Int) < (i : Int) := by omega
                  have HE : Hid ((P2 w go i A (.slice (some ⟨gw, ow, none⟩) i c5) G R O' wr ∧ Nb (Ec A) i (fun x => O'.getD x (-1)) (k + 1) ∧ k + 1 + lack i O' ≤ i) ∧ mz wr < mz0) := by
                    have hb := HB.out
                    have hm1 : ∀ y, y < i → Mut (Ec A) y q → O'.getD y (-1) = k := fun y hy hm => (hb.2 y hy).1 (by omega) hm
                    have hm2 : ∀ y, y < i → ¬ Mut (Ec A) y q → O'.getD y (-1) = O.getD y (-1) := fun y hy hm => (hb.2 y hy).2 (fun h => hm h.2)
                    have hless : lack i O' < lack i O := lack_less (q := q) (fun y hy e => by
                      by_cases hm : Mut (Ec A) y q
                      · have := hm1 y hy hm; omega
                      · rw [← hm2 y hy hm]; exact e) hq HQ.out.1 (by rw [hm1 q hq (Mut.refl q)]; omega)
                    refine ⟨⟨hb.1, HI.out.2.1.step HA.out.2.2 hq HQ.out.1 HQ.out.2.1 HQ.out.2.2 hm1 hm2, ?_⟩, ?_⟩
                    · have := HI.out.2.2
                      omega
                    · rw [HMZ.out _ _ hb.1.out, HM0.out]
                      exact hless
                  clear HB HI HQ
                  go_wp2
                  go_roundw
                  case rel => exact ⟨k + 1, O', by go_num, HE.out.1⟩
                  case measure => have := HE.out.2; rw [hz0] at this; exact this
            · have hlti : ¬ (j : Int) < (i : Int) := by omega
              clear hlt
              go_wp2
              go_loopw [11] (fun xv wr => ∃ (x : Nat) (O' : List Int), xv = .int .i64 (x : Int) ∧ x ≤ i ∧ Hid (P2 w go i A (.slice (some ⟨gw, ow, none⟩) i c5) G R O' wr ∧ ∀ y, y < i → (y < x → Mut (Ec A) y q → O'.getD y (-1) = k) ∧ (¬ (y < x ∧ Mut (Ec A) y q) → O'.getD y (-1) = O.getD y (-1)))) (fun xv _ => i - (intOf xv).toNat)
              case atStart => exact ⟨0, O, rfl, Nat.zero_le _, HP.out, fun y _ => ⟨(fun h => by omega), fun _ => rfl⟩⟩
              case round =>
                clear HP hj
                obtain ⟨x, O', rfl, hx, HB⟩ := hrel
                by_cases hlt : x < i
                · have hlti : (x : Int) < (i : Int) := by omega
                  have q1 : wr.cell? ⟨gw, ow + q, none⟩ = some (.slice (some ⟨G.getD q 0, 0, none⟩) i i) := by
                    obtain ⟨b, o, c, e, qq⟩ := HB.out.1.wy.at q hq
                    simp at e
                    obtain ⟨⟨rfl, rfl⟩, rfl⟩ := e
                    exact qq
                  have q2 : wr.cell? ⟨gw, ow + x, none⟩ = some (.slice (some ⟨G.getD x 0, 0, none⟩) i i) := by
                    obtain ⟨b, o, c, e, qq⟩ := HB.out.1.wy.at x hlt
                    simp at e
                    obtain ⟨⟨rfl, rfl⟩, rfl⟩ := e
                    exact qq
                  have r1 := HB.out.1.wy.cell q x hq hlt
                  have r2 := HB.out.1.wy.cell x q hlt hq
                  have HMu : Hid ((R x q = true ∧ R q x = true) ↔ Mut (Ec A) x q) := HB.out.1.wy.mut hlt hq
                  have e9 : wr.cell? ⟨go, x, none⟩ = some (.int .i64 (O'.getD x 0)) := HB.out.1.out.cell 0 x hlt
                  have f9 := HB.out.1.out.free x
                  have HNo : Hid (¬ Mut (Ec A) x q → ∀ y, y < i → (y < x + 1 → Mut (Ec A) y q → O'.getD y (-1) = k) ∧ (¬ (y < x + 1 ∧ Mut (Ec A) y q) → O'.getD y (-1) = O.getD y (-1))) := fun hm y hy => by
                    have := HB.out.2 y hy
                    refine ⟨fun h1 h2 => this.1 (Nat.lt_of_le_of_ne (by omega) (fun e => hm (e ▸ h2))) h2, fun h1 => this.2 (fun h2 => h1 ⟨by omega, h2.2⟩)⟩
                  have HYes : Hid (Mut (Ec A) x q → ∀ y, y < i → (y < x + 1 → Mut (Ec A) y q → (O'.set x k).getD y (-1) = k) ∧ (¬ (y < x + 1 ∧ Mut (Ec A) y q) → (O'.set x k).getD y (-1) = O.getD y (-1))) := fun hm y hy => by
                    have := HB.out.2 y hy
                    have hl := HB.out.1.out.len
                    rw [getD_set _ _ _ _ _ (by omega)]
                    by_cases e : y = x
                    · rw [if_pos e]
                      exact ⟨fun _ _ => rfl, fun h => absurd ⟨by omega, e ▸ hm⟩ h⟩
                    · rw [if_neg e]
                      exact ⟨fun h1 h2 => this.1 (by omega) h2, fun h1 => this.2 (fun h2 => h1 ⟨by omega, h2.2⟩)⟩
                  have HPu : Hid (P2 w go i A (.slice (some ⟨gw, ow, none⟩) i c5) G R (O'.set x k) (wr.setCell ⟨go, x, none⟩ (.int .i64 (k : Int)))) := HB.out.1.put x k
                  have HPn : Hid (P2 w go i A (.slice (some ⟨gw, ow, none⟩) i c5) G R O' wr) := HB.out.1
                  clear HB
                  generalize R q x = x1 at r1 HMu
                  generalize R x q = x2 at r2 HMu
                  generalize G.getD q 0 = gq at *
                  generalize G.getD x 0 = gx at *
                  cases x1 with
                  | false =>
                    have HX := HNo.out (fun h => by have := HMu.out.2 h; simp at this)
                    have HX2 : Hid (type_of% HX) := HX
                    clear HX HNo HYes HPu HMu e9 f9
                    go_wp2
                    go_roundw
                    case rel => exact ⟨x + 1, O', by go_num, by omega, HPn.out, HX2.out⟩
                    case measure => simp [intOf]; omega
                  | true =>
                    cases x2 with
                    | false =>
                      have HX := HNo.out (fun h => by have := HMu.out.2 h; simp at this)
                      have HX2 : Hid (type_of% HX) := HX
                      clear HX HNo HYes HPu HMu e9 f9
                      go_wp2
                      go_roundw
                      case rel => exact ⟨x + 1, O', by go_num, by omega, HPn.out, HX2.out⟩
                      case measure => simp [intOf]; omega
                    | true =>
                      have HX := HYes.out (HMu.out.1 ⟨rfl, rfl⟩)
                      have HX2 : Hid (type_of% HX) := HX
                      clear HX HNo HYes HPn HMu
                      go_wp2
                      go_roundw
                      case rel => exact ⟨x + 1, O'.set x k, by go_num, by omega, HPu.out, HX2.out⟩
                      case measure => simp [intOf]; omega
                · have hlti : ¬ (x : Int) < (i : Int) := by omega
                  have HE : Hid ((P2 w go i A (.slice (some ⟨gw, ow, none⟩) i c5) G R O' wr ∧ Nb (Ec A) i (fun x => O'.getD x (-1)) (k + 1) ∧ k + 1 + lack i O' ≤ i) ∧ mz wr < mz0) := by
                    have hb := HB.out
                    have hm1 : ∀ y, y < i → Mut (Ec A) y q → O'.getD y (-1) = k := fun y hy hm => (hb.2 y hy).1 (by omega) hm
                    have hm2 : ∀ y, y < i → ¬ Mut (Ec A) y q → O'.getD y (-1) = O.getD y (-1) := fun y hy hm => (hb.2 y hy).2 (fun h => hm h.2)
                    have hless : lack i O' < lack i O := lack_less (q := q) (fun y hy e => by
                      by_cases hm : Mut (Ec A) y q
                      · have := hm1 y hy hm; omega
                      · rw [← hm2 y hy hm]; exact e) hq HQ.out.1 (by rw [hm1 q hq (Mut.refl q)]; omega)
                    refine ⟨⟨hb.1, HI.out.2.1.step HA.out.2.2 hq HQ.out.1 HQ.out.2.1 HQ.out.2.2 hm1 hm2, ?_⟩, ?_⟩
                    · have := HI.out.2.2
                      omega
                    · rw [HMZ.out _ _ hb.1.out, HM0.out]
                      exact hless
                  clear HB HI HQ
                  go_wp2
                  go_roundw
                  case rel => exact ⟨k + 1, O', by go_num, HE.out.1⟩
                  case measure => have := HE.out.2; rw [hz0] at this; exact this
end Go.Proofs.Ytmlpkjeaieljfaa
