/- The order of the rings: numbers. -/
import Derived.Test.YtmlpkjeaieljfabNf
namespace Go.Proofs.Ytmlpkjeaieljfab
open Go.RowKit Go.PlainAid Go.Sort Go.Shelf
attribute [local go_sem] Oper.semAt_some

/-- the numbers of the rings -/
def NmR (w w' : World) (v : Value) (m : Nat) (P : List (Nat × Nat)) : Prop := ∃ g N T, v = .slice (some ⟨g, 0, none⟩) m m ∧ w.heap.size ≤ g ∧ Arr 3 eN w' g m N ∧ (T.length = m ∧ Ok P m T ∧ ∀ k, k < m → N.getD (T.getD k 0) 0 = k) ∧ Keep [] w w'

set_option maxRecDepth 1000000 in
set_option maxHeartbeats 8000000 in
theorem numbers_own (va vf : Value) (n m gr : Nat) (A : List Ar) (F R : List Nat) (w : World) (hg : Gph w va vf n A F) (hva : ∀ x, va.ownBlock = some x → x < w.heap.size) (hr : Arr 3 eN w gr n R) (hR : Rings (Ec A) n R m) (ha : Acy (prs R A)) :
    Calls Try.prog 32 #[.agg #[va, vf], .slice (some ⟨gr, 0, none⟩) n n, .int .i64 (m : Int)] w fun e w' => ∃ v, e = .returned v ∧ NmR w w' v m (prs R A) := by
  have hsf := store_func
  simp only [Go.stored] at hsf
  obtain ⟨a1, c1, rfl, -, -⟩ := hg.arcs.form
  obtain ⟨b2, o2, c2, rfl, -, -, -, -⟩ := hg.firstLen
  have hn := hg.big.2
  have hA := hg.big.1
  have hmn : m ≤ n := hR.le
  have HG : Hid (Gph w (.slice a1 A.length c1) (.slice (some ⟨b2, o2, none⟩) (n + 1) c2) n A F ∧ (∀ x, (Value.slice a1 A.length c1).ownBlock = some x → x < w.heap.size) ∧ Arr 3 eN w gr n R ∧ Rings (Ec A) n R m ∧ Acy (prs R A)) := ⟨hg, hva, hr, hR, ha⟩
  obtain ⟨i3, hi3, hz3, hs3, hy3⟩ := info_parts infoI
  obtain ⟨i26, hi26, hz26, hs26, hy26⟩ := info_parts infoS
  have HB2 : Hid (i3.bytes * m ≤ 281474976710656) := show i3.bytes * m ≤ 281474976710656 by rw [hy3]; omega
  have HB4 : Hid (i26.bytes * m ≤ 281474976710656) := show i26.bytes * m ≤ 281474976710656 by rw [hy26]; omega
  have HB3 : Hid (m ≤ maxLen) := show m ≤ maxLen by simp only [maxLen]; omega
  clear hg hva hr hR ha
  refine (callsIn_wide (n := 6)).1 ?_
  refine callsIn_of_wp_marks Try.func32 rfl trivial ?_ rfl
  simp only [Try.ntmps32, List.size_toArray, List.length_cons, List.length_nil, Nat.reduceAdd, Nat.reduceSub, Array.replicate_succ, Array.replicate_zero, List.push_toArray, List.append_toArray, List.nil_append, List.cons_append]
  refine wpIn_wide.2 ?_
  go_wp2_with (at_make; refine wpList_make_full _ rfl (.tmp 22) (.tmp 22) 28 rfl 0 3 i3 (.int .i64 0) 1 Try.underlying28 hi3 hz3 hs3 .i64 .i64 _ _ m rfl rfl rfl rfl HB2.out HB3.out (Nat.zero_le _) ?_)
  intro w1 r1 r2
  obtain ⟨h0, HH0⟩ : ∃ h0 : Nat, Hid (h0 = w.heap.size) := ⟨_, show _ = _ from rfl⟩
  obtain ⟨go, HGO⟩ : ∃ go : Nat, Hid (go = h0 + 1) := ⟨_, show _ = _ from rfl⟩
  have hsz : (w.alloc (.cells #[.slice a1 A.length c1, .slice (some ⟨b2, o2, none⟩) (n + 1) c2] 45)).heap.size = go := by rw [HGO.out, HH0.out]; simp
  rw [← HH0.out, ← HGO.out] at r1 ⊢
  have H1 : Hid (Arr 3 eN w1 go m (List.replicate m 0) ∧ Keep [] w w1 ∧ w1.cell? ⟨h0, 0, none⟩ = some (.slice a1 A.length c1) ∧ go < w1.heap.size) := by
    have k : Keep [] (w.alloc (.cells #[.slice a1 A.length c1, .slice (some ⟨b2, o2, none⟩) (n + 1) c2] 45)) w1 := Keep.mono (Keep.grown r2) (by simp)
    refine ⟨Arr.made (e := eN) (z := 0) r1, (Keep.alloc1 w _).trans' k, k.cell' ?_ (by simp), (Arr.made (e := eN) (z := 0) r1).lt⟩
    rw [HH0.out]
    simp only [World.cell?, heap_alloc_new w (.cells #[.slice a1 A.length c1, .slice (some ⟨b2, o2, none⟩) (n + 1) c2] 45)]
    rfl
  clear r1 r2 HB2 hi3 hz3 hs3 hy3 hsz
  go_wp2_with (at_make; refine wpList_make_full _ rfl (.tmp 24) (.tmp 24) 41 rfl 0 28 i26 (.slice none 0 0) 1 Try.underlying41 hi26 hz26 hs26 .i64 .i64 _ _ m rfl rfl rfl rfl HB4.out HB3.out (Nat.zero_le _) ?_)
  intro w2 r1 r2
  obtain ⟨gc, HGC⟩ : ∃ gc : Nat, Hid (gc = w1.heap.size) := ⟨_, show _ = _ from rfl⟩
  rw [← HGC.out] at r1 ⊢
  obtain ⟨B, HB⟩ : ∃ B : Nat, Hid (B = w2.heap.size) := ⟨_, show _ = _ from rfl⟩
  have k12 : Keep [] w1 w2 := Keep.mono (Keep.grown r2) (by simp)
  have HZ : Hid (w.heap.size = h0 ∧ h0 < go ∧ go < gc ∧ gc < B) := by
    have hl := (Arr.made (e := id) (z := Value.slice none 0 0) r1).lt
    rw [← HB.out] at hl
    exact ⟨HH0.out.symm, by rw [HGO.out]; omega, by rw [HGC.out]; exact H1.out.2.2.2, hl⟩
  have H2 : Hid (Gph w2 (.slice a1 A.length c1) (.slice (some ⟨b2, o2, none⟩) (n + 1) c2) n A F ∧ Arr 3 eN w2 gr n R ∧ Keep [] w w2 ∧ (∀ x, (Value.slice a1 A.length c1).ownBlock = some x → x < h0) ∧ gr < h0) := by
    have kk := H1.out.2.1.trans' k12
    have hz := HZ.out
    exact ⟨HG.out.1.keep kk (Off.nil _) (Off.nil _), HG.out.2.2.1.keep kk (by simp), kk, fun x hx => by rw [HH0.out]; exact HG.out.2.1 x hx, by rw [HH0.out]; exact HG.out.2.2.1.lt⟩
  have d0 : w2.cell? ⟨h0, 0, none⟩ = some (.slice a1 A.length c1) := k12.cell' H1.out.2.2.1 (by simp)
  have HN : Hid (N1 B go gc m R A w2 w2 (List.replicate m 0) 0) := by
    have hz := HZ.out
    refine ⟨H1.out.1.keep k12 (by simp), fun c hc => ?_, ?_, Kp.refl _ _ _, Nat.le_of_eq HB.out, by omega⟩
    · rw [getD_replicate]; rfl
    · exact Cm.start (Arr.made (e := id) (z := Value.slice none 0 0) r1)
  clear r1 r2 HB3 HB4 hi26 hz26 hs26 hy26 k12 H1
  go_wp2
  go_loopw [29] (fun iv wr => ∃ (i : Nat) (O : List Nat), iv = .int .i64 (i : Int) ∧ i ≤ A.length ∧ Hid (N1 B go gc m R A w2 wr O i)) (fun iv _ => A.length - (intOf iv).toNat)
  case atStart => exact ⟨0, _, rfl, Nat.zero_le _, HN⟩
  case round =>
    clear HN d0
    obtain ⟨i, O, rfl, hi, HN⟩ := hrel
    by_cases hlt : i < A.length
    · have hlti : (i : Int) < (A.length : Int) := by omega
      have HAR : Hid (Rd encA 3 wr (.slice a1 A.length c1) A ∧ Arr 3 eN wr gr n R) := by
        have hz := HZ.out
        have h2 := H2.out
        exact ⟨HN.out.kp.rd h2.1.arcs (fun x hx => by have := h2.2.2.2.1 x hx; simp; omega), HN.out.kp.arr h2.2.1 (by omega) (by simp; omega)⟩
      obtain ⟨b, o, c, he, hb, e0, e1, e2⟩ := HAR.out.1.arcA i hlt
      simp at he
      obtain ⟨rfl, rfl⟩ := he
      have hnd := H2.out.1.ok.node A[i] (List.getElem_mem hlt)
      obtain ⟨f, hf⟩ : ∃ f : Nat, f = A[i].f := ⟨_, rfl⟩
      obtain ⟨t, ht⟩ : ∃ t : Nat, t = A[i].t := ⟨_, rfl⟩
      obtain ⟨x, hx⟩ : ∃ x : Nat, x = R.getD f 0 := ⟨_, rfl⟩
      obtain ⟨y, hy⟩ : ∃ y : Nat, y = R.getD t 0 := ⟨_, rfl⟩
      rw [← hf] at e0
      rw [← ht] at e1
      rw [← hf, ← ht] at hnd
      have hfi : (f : Int) < (n : Int) := by omega
      have hti : (t : Int) < (n : Int) := by omega
      have g0 : wr.cell? ⟨gr, f, none⟩ = some (.int .i64 (x : Int)) := by rw [hx]; exact HAR.out.2.cell 0 f hnd.1
      have g1 : wr.cell? ⟨gr, t, none⟩ = some (.int .i64 (y : Int)) := by rw [hy]; exact HAR.out.2.cell 0 t hnd.2
      have HXY : Hid ((rp R A[i]).1 = x ∧ (rp R A[i]).2 = y ∧ x < m ∧ y < m) := ⟨by rw [hx, hf]; rfl, by rw [hy, ht]; rfl, by rw [hx]; exact HG.out.2.2.2.1.lt f hnd.1, by rw [hy]; exact HG.out.2.2.2.1.lt t hnd.2⟩
      have hgl : gr < wr.heap.size := HAR.out.2.lt
      generalize A[i].g = ag at e2
      clear hf ht hx hy HAR
      by_cases hxy : x = y
      · have hq : ((x : Int) != (y : Int)) = false := by simp [hxy]
        have HJ : Hid (∀ w', Keep [] wr w' → N1 B go gc m R A w2 w' O (i + 1)) := fun w' k => HN.out.same hlt (by rw [HXY.out.1, HXY.out.2.1]; exact hxy) k
        clear HN
        go_wp2
        go_quiet (fail)
        go_wp2
        go_roundw
        case rel => exact ⟨i + 1, O, by go_num, by omega, HJ.out _ (((Keep.refl [] wr).alloc _).drewN _)⟩
        case measure => simp [intOf]; omega
      · have hq : ((x : Int) != (y : Int)) = true := by simp; omega
        obtain ⟨vs, hv⟩ := HN.out.cm
        obtain ⟨v, hvv⟩ : ∃ v, v = vs.getD y nilS := ⟨_, rfl⟩
        obtain ⟨L, hL⟩ : ∃ L, L = comL (prs R (A.take i)) y := ⟨_, rfl⟩
        have hLl : L.length ≤ A.length := by rw [hL]; exact comL_le R A i y
        obtain ⟨ox, hox⟩ : ∃ ox : Nat, ox = O.getD x 0 := ⟨_, rfl⟩
        have hoxl : ox ≤ 262144 := by
          have := owe_le R A i x
          rw [hox, HN.out.cnt x HXY.out.2.2.1]
          omega
        have c0 : wr.cell? ⟨go, x, none⟩ = some (.int .i64 (ox : Int)) := by rw [hox]; exact HN.out.ow.cell 0 x HXY.out.2.2.1
        have f0 : wr.frozen? ⟨go, x, none⟩ = false := HN.out.ow.free x
        have c1 : wr.cell? ⟨gc, y, none⟩ = some v := by rw [hvv]; exact hv.arr.cell nilS y HXY.out.2.2.2
        have hgo : go < wr.heap.size := HN.out.ow.lt
        have hgc : gc < wr.heap.size := hv.arr.lt
        have hne1 : gc ≠ go := by have := HZ.out; omega
        have hxi : (x : Int) < (m : Int) := by have := HXY.out; omega
        have hyi : (y : Int) < (m : Int) := by have := HXY.out; omega
        have hrow : Rw 3 encN 1 wr v L := by rw [hvv, hL]; exact hv.row y HXY.out.2.2.2
        have HR : Hid (∀ w1 o2, Keep [] wr w1 → RowC ((w1.setCell ⟨go, x, none⟩ (.int .i64 ((ox : Int) + 1))).alloc o2) 3 1 v L.length (L.flatMap encN)) := fun w1 o2 k => by
          have hown := hv.own y HXY.out.2.2.2
          rw [← hvv] at hown
          exact RowC.keep (RowC.keep (RowC.keep hrow k (Off.nil _)) (Keep.set1 w1 ⟨go, x, none⟩ _) (fun z hz hm => by have := hown z hz; have := HZ.out; simp at hm; omega)) (Keep.alloc1 _ o2) (Off.nil _)
        have HS : Hid (∀ w1 : World, w1.heap.size = wr.heap.size + 1 → Src Try.prog 1 28 (.slice (some ⟨wr.heap.size + 1, 0, none⟩) 1 1) 1 [.int .i64 (x : Int)] ((w1.setCell ⟨go, x, none⟩ (.int .i64 ((ox : Int) + 1))).alloc (.cells #[.int .i64 (x : Int)] 3 (0, 0)))) := fun w1 h => by
          have := src_nat (w1.setCell ⟨go, x, none⟩ (.int .i64 ((ox : Int) + 1))) x
          rwa [show (w1.setCell ⟨go, x, none⟩ (.int .i64 ((ox : Int) + 1))).heap.size = wr.heap.size + 1 by simp [h]] at this
        have hal : Hid ((L.length + 1) * 8 ≤ 140737488355328 ∧ L.length + 1 ≤ maxLen) := by
          refine ⟨by omega, ?_⟩
          unfold maxLen; omega
        have HJ : Hid (∀ w1 o2 w9 v9, Keep [] wr w1 → RowC w9 3 1 v9 (L.length + 1) (L.flatMap encN ++ [.int .i64 (x : Int)]) → Keep v.ownBlock.toList ((w1.setCell ⟨go, x, none⟩ (.int .i64 ((ox : Int) + 1))).alloc o2) w9 → (v9.ownBlock = v.ownBlock ∨ Fresh ((w1.setCell ⟨go, x, none⟩ (.int .i64 ((ox : Int) + 1))).alloc o2) w9 v9) → N1 B go gc m R A w2 (w9.setCell ⟨gc, y, none⟩ v9) (O.set x (ox + 1)) (i + 1) ∧ Arr 28 id w9 gc m vs) := fun w1 o2 w9 v9 k h1 h2 h3 => by
          have hs := HN.out.step hlt HXY.out.1 HXY.out.2.1 hxy HXY.out.2.2.1 HXY.out.2.2.2 hv k o2
          rw [← hox, show ((ox + 1 : Nat) : Int) = (ox : Int) + 1 by omega, ← hL, ← hvv] at hs
          exact hs.2 w9 v9 h1 h2 h3
        obtain ⟨va9, vc9, hvf⟩ : ∃ a c, v = .slice a L.length c := by
          rcases hrow.cases encN_len with ⟨e1, e2⟩ | ⟨g, cap, e1, _⟩
          · exact ⟨none, 0, by rw [e2, e1]; rfl⟩
          · exact ⟨_, _, e1⟩
        have HV : Hid (vs.getD y nilS = v ∧ y < m) := ⟨hvv.symm, HXY.out.2.2.2⟩
        subst hvf
        clear HN hv hvv hL hox hrow
        go_wp2
        go_quiet (fail)
        go_wp2_with (at_builtin; refine wp_appC infoI rfl rfl (.tmp 57) (.tmp 59) 28 28 rfl Try.underlying28 (.slice va9 L.length vc9) L.length (L.flatMap encN) rfl (HR.out _ _ (((Keep.refl [] wr).alloc _).drewN _)) _ 1 _ rfl (HS.out _ (by simp)) hal.out.1 hal.out.2 ?_)
        intro v9 w9 R9 K9 F9 S9 _
        have h9 := HJ.out _ _ _ _ (((Keep.refl [] wr).alloc _).drewN _) R9 K9 F9
        obtain ⟨a9, c9, rfl⟩ := S9
        have q1 : w9.cell? ⟨gc, y, none⟩ = some (.slice va9 L.length vc9) := by rw [← HV.out.1]; exact h9.2.cell nilS y HV.out.2
        have q2 : w9.frozen? ⟨gc, y, none⟩ = false := h9.2.free y
        have H9 : Hid (N1 B go gc m R A w2 (w9.setCell ⟨gc, y, none⟩ (.slice a9 (L.length + 1) c9)) (O.set x (ox + 1)) (i + 1)) := h9.1
        clear h9 R9 K9 F9 HJ HR HS hal
        go_wp2
        go_roundw
        case rel => exact ⟨i + 1, _, by go_num, by omega, H9⟩
        case measure => simp [intOf]; omega
    · have hlti : ¬ (i : Int) < (A.length : Int) := by omega
      obtain ⟨bq, HBQ⟩ : ∃ bq : Nat, Hid (bq = wr.heap.size) := ⟨_, show _ = _ from rfl⟩
      have HP : Hid (Arr 3 eN wr go m O ∧ (∀ c, c < m → O.getD c 0 = owe (prs R A) [] c) ∧ Cm B wr gc m (comL (prs R A)) ∧ Kp B [go, gc] w2 wr ∧ B ≤ wr.heap.size) := by
        have h := HN.out
        have e : A.take i = A := List.take_of_length_le (by omega)
        have h1 := h.cnt
        have h2 := h.cm
        rw [e] at h1 h2
        exact ⟨h.ow, h1, h2, h.kp, h.size⟩
      have HQu : Hid (∀ (_ : True), Calls Try.prog 48 #[] wr fun e w' => e = .returned (.tuple #[.func (.func 69) #[] #[.pointer (some ⟨bq, 0, none⟩)], .func (.func 73) #[] #[.pointer (some ⟨bq, 0, none⟩)]]) ∧ w' = wr.alloc (.cells #[.slice none 0 0] 28)) := fun _ => by
        have h := queue_any wr
        rwa [← HBQ.out] at h
      clear HN hi hlti
      go_wp2_with fail
      refine (HQu.out trivial).mono ?_
      rintro e w4 ⟨rfl, hw4⟩
      have HW4 : Hid (w4 = wr.alloc (.cells #[.slice none 0 0] 28)) := hw4
      obtain ⟨bv, HBV⟩ : ∃ bv : Nat, Hid (bv = bq + 1) := ⟨_, show _ = _ from rfl⟩
      have hs4 : w4.heap.size = bv := by rw [hw4, HBV.out, HBQ.out]; simp
      clear hw4 HQu
      have HBk : Hid (∀ w', Calls Try.prog 49 #[.slice (some ⟨go, 0, none⟩) m m] w' fun e w2 => e = .returned (.func (.func 74) #[] #[.pointer (some ⟨w'.heap.size, 0, none⟩)]) ∧ w2 = w'.alloc (.cells #[.slice (some ⟨go, 0, none⟩) m m] 28)) := fun w' => backward_any _ m m w'
      go_wp2_with fail
      refine (HBk.out _).mono ?_
      rintro e w6 ⟨rfl, hw6⟩
      have HW6 : Hid (w6 = (w4.alloc (.cells #[.func (.func 69) #[] #[.pointer (some ⟨bq, 0, none⟩)]] 63)).alloc (.cells #[.slice (some ⟨go, 0, none⟩) m m] 28)) := hw6
      clear hw6 HBk
      obtain ⟨bb, HBB⟩ : ∃ bb : Nat, Hid (bb = bv + 1) := ⟨_, show _ = _ from rfl⟩
      rw [show (w4.alloc (.cells #[.func (.func 69) #[] #[.pointer (some ⟨bq, 0, none⟩)]] 63)).heap.size = bb by rw [HBB.out, ← hs4]; simp]
      obtain ⟨C, HC⟩ : ∃ C : Nat, Hid (C = w6.heap.size) := ⟨_, show _ = _ from rfl⟩
      have H6 : Hid (C = bb + 1 ∧ Keep [] wr w6 ∧ Bx w6 bq 28 (.slice none 0 0) ∧ w6.cell? ⟨bv, 0, none⟩ = some (.func (.func 69) #[] #[.pointer (some ⟨bq, 0, none⟩)]) ∧ w6.cell? ⟨bb, 0, none⟩ = some (.slice (some ⟨go, 0, none⟩) m m) ∧ B ≤ bq) := by
        have k4 : Keep [] wr w4 := by rw [HW4.out]; exact Keep.alloc1 wr _
        have k6 : Keep [] w4 w6 := by rw [HW6.out]; exact ((Keep.refl [] w4).alloc _).alloc _
        have b4 : Bx w4 bq 28 (.slice none 0 0) := by rw [HW4.out, HBQ.out]; exact heap_alloc_new wr _
        have e5 : (w4.alloc (.cells #[.func (.func 69) #[] #[.pointer (some ⟨bq, 0, none⟩)]] 63)).heap.size = bb := by rw [HBB.out, ← hs4]; simp
        refine ⟨?_, k4.trans' k6, b4.keep k6 (by simp), ?_, ?_, by rw [HBQ.out]; exact HP.out.2.2.2.2⟩
        · rw [HC.out, HW6.out, ← e5]; simp
        · have hb := blk_next (o' := .cells #[.slice (some ⟨go, 0, none⟩) m m] 28) (heap_alloc_new w4 (.cells #[.func (.func 69) #[] #[.pointer (some ⟨bq, 0, none⟩)]] 63))
          rw [hs4, ← HW6.out] at hb
          simp only [World.cell?, hb]
          rfl
        · have hb := heap_alloc_new (w4.alloc (.cells #[.func (.func 69) #[] #[.pointer (some ⟨bq, 0, none⟩)]] 63)) (.cells #[.slice (some ⟨go, 0, none⟩) m m] 28)
          rw [e5, ← HW6.out] at hb
          simp only [World.cell?, hb]
          rfl
      have hOl : O.length = m := HP.out.1.len
      have hOn : ∀ k ∈ O, k < 262145 := fun k hk => by
        obtain ⟨j, hj, rfl⟩ := List.mem_iff_getElem.1 hk
        have h1 := HP.out.2.1 j (by omega)
        have h2 := owe_le' R A j
        rw [List.getD_eq_getElem?_getD, List.getElem?_eq_getElem hj] at h1
        simp at h1
        omega
      have hbk : Bk bb (.slice (some ⟨go, 0, none⟩) O.length m) O w6 := by
        have ha := (HP.out.1.keep H6.out.2.1 (by simp)).rd
        rw [hOl]
        exact ⟨H6.out.2.2.2.2.1, ha⟩
      have hbs := back_stops 262145 5 (by omega) bb (some ⟨go, 0, none⟩) m O hOn w6 hbk (by omega)
      rw [hOl] at hbs
      have HBS : Hid (type_of% hbs) := hbs
      have HQ0 : Hid (Qq C bq m (prs R A) O w6 ([] <+: backL 262145 O hOn) 0 w6) := by
        have h6 := H6.out
        have h1 := HBV.out
        have h2 := HBB.out
        refine ⟨⟨[], ⟨_, h6.2.2.1, Rw.nil 3 encN 1 _, fun x hx => by simp [Value.ownBlock] at hx⟩, List.Pairwise.nil, Nat.le_refl _, fun _ => ⟨List.Pairwise.nil, fun x => ?_⟩⟩, fun _ _ _ => rfl, ⟨rfl, rfl, rfl, Nat.le_of_eq HC.out⟩, by omega⟩
        simp
        omega
      clear hbk hbs
      go_wp2
      refine (wpIn_wide (n := 6)).1 ?_
      refine wpIn_rangeFunc_ownG (w := w6) rfl (by omega) (gf := 74) (lb := #[.pointer (some ⟨bb, 0, none⟩)]) rfl trivial (enters_of Try.func74 (by kernel_rfl) rfl)
        HBS.out (fun h k => ⟨h.1.trans k.1, Nat.le_trans h.2 k.2⟩) ?kb (Below.refl _ _) (fun _ => rfl)
        (fun pre W => Qq C bq m (prs R A) O w6 (pre <+: backL 262145 O hOn) pre.length W) (fun _ _ _ => False)
        (fun s A B row hs hg hr => hs.grow hg (fun r e => by rw [HC.out]; exact hr r e)) (fun _ _ _ _ _ hs _ _ => hs) HQ0.out
        ?fr ?assign ?body ?done ?stop
      case assign =>
        intro l x W K hK
        simp only [encs2]
        gi_wp2
        exact hK
      case kb =>
        intro W l o o' hl ho _ _
        have hz := HZ.out
        have h6 := H6.out
        have h1 := HBV.out
        have h2 := HBB.out
        rw [← HC.out] at hl
        refine ⟨fun k hk => World.putObj_heap_other (fun e => ?_), by simp⟩
        rcases hk with rfl | hk
        · omega
        · simp [Value.ownBlock] at hk
          omega
      case stop =>
        rintro D c pre W _ _ h _
        exact h.elim
      case body =>
        rintro l pre x W hI hpl
        obtain ⟨Wl, wt, pf, pl, pq⟩ := hI.ex
        have hz := HZ.out
        have h6 := H6.out
        have h1 := HBV.out
        have h2 := HBB.out
        have hC := hI.oth.2.2.2
        have c1 : W.cell? ⟨bv, 0, none⟩ = some (.func (.func 69) #[] #[.pointer (some ⟨bq, 0, none⟩)]) := (World.cell?_of_block (w := w6) (hI.blk bv (by omega) (by omega))).trans h6.2.2.2.1
        have HJ : Hid (∀ w', Wt C w' bq (if x.1.2 = 0 then insW Wl x.1.1 else Wl) → Kp C [bq] W w' → Qq C bq m (prs R A) O w6 (pre ++ [x] <+: backL 262145 O hOn) (pre ++ [x]).length w' ∧ Kp C [bq] W w') := fun w' g1 g2 => ⟨hI.next hpl hOl pf pl pq g1 g2, g2⟩
        have HD : Hid (∀ k, k = bb ∨ (Value.slice (some ⟨go, 0, none⟩) m m).ownBlock = some k → k < C ∧ k ∉ [bq]) := fun k hk => by
          rcases hk with rfl | hk
          · simp; omega
          · simp [Value.ownBlock] at hk
            simp; omega
        by_cases hx0 : x.1.2 = 0
        · have hq : ((x.1.2 : Int) == 0) = true := by simp [hx0]
          have hq2 : (x.1.2 : Int) = 0 := by omega
          rw [if_pos hx0] at HJ
          have HSx : Hid (∀ (_ : True), Calls Try.prog 69 #[.int .i64 (x.1.1 : Int), .pointer (some ⟨bq, 0, none⟩)] W fun e w' => e = .returned (.tuple #[]) ∧ Wt C w' bq (insW Wl x.1.1) ∧ Kp C [bq] W w') := fun _ => wait_any x.1.1 Wl W wt pf (by omega) hI.bd hC
          clear hI wt pf pq h6 h1 h2 hz
          gi_wp2_with fail
          refine ⟨trivial, (CallsIn.inRound l (callsIn_wide.2 (HSx.out trivial))).mono ?_⟩
          rintro e w10 ⟨rfl, g1, g2⟩
          have hJ := HJ.out _ g1 g2
          have HJJ : Hid (type_of% hJ) := hJ
          clear hJ g1 g2 HSx HJ c1
          gi_wp2
          have kk := HJJ.out.2
          exact ⟨⟨kk.size, fun k o _ h1 h2 => kk.oth k o h1 h2⟩, ⟨fun i hi => kk.block _ (HD.out i hi).1 (HD.out i hi).2, kk.size⟩, HJJ.out.1⟩
        · have hq : ((x.1.2 : Int) == 0) = false := by simp; omega
          have hq2 : ¬ (x.1.2 : Int) = 0 := by omega
          rw [if_neg hx0] at HJ
          have hJ := HJ.out _ wt (Kp.refl _ _ _)
          have HJJ : Hid (type_of% hJ) := hJ
          clear hJ hI wt pf pq h6 h1 h2 hz HJ c1
          gi_wp2
          have kk := HJJ.out.2
          exact ⟨⟨kk.size, fun k o _ h1 h2 => kk.oth k o h1 h2⟩, ⟨fun i hi => kk.block _ (HD.out i hi).1 (HD.out i hi).2, kk.size⟩, HJJ.out.1⟩
      case done =>
        rintro Dd xs W hBd rfl hI hK
        obtain ⟨Wl, wt, pf, pl, pq⟩ := hI.ex
        obtain ⟨i3, hi3, hz3, hs3, hy3⟩ := info_parts infoI
        have HB2 : Hid (i3.bytes * m ≤ 281474976710656) := show i3.bytes * m ≤ 281474976710656 by rw [hy3]; omega
        have HB3 : Hid (m ≤ maxLen) := show m ≤ maxLen by simp only [maxLen]; omega
        have HQs : Hid (Qs (prs R A) m 0 O Wl) := by
          have := pq (List.prefix_refl _)
          rwa [backL_len, hOl, Nat.sub_self] at this
        have HI : Hid (Qq C bq m (prs R A) O w6 (backL 262145 O hOn <+: backL 262145 O hOn) (backL 262145 O hOn).length W ∧ Wt C W bq Wl) := ⟨hI, wt⟩
        have HK : Hid (type_of% hK) := hK
        have HDd : Hid (C ≤ Dd ∧ Dd < W.heap.size) := ⟨by rw [HC.out]; exact hBd, (Array.getElem?_eq_some_iff.1 hK).1⟩
        clear hI wt pf pl pq hBd hK
        go_wp2_with (at_make; refine wpList_make_full _ rfl (.tmp 76) (.tmp 76) 28 rfl 0 3 i3 (.int .i64 0) 1 Try.underlying28 hi3 hz3 hs3 .i64 .i64 _ _ m rfl rfl rfl rfl HB2.out HB3.out (Nat.zero_le _) ?_)
        intro w8 r1 r2
        obtain ⟨gn, HGN⟩ : ∃ gn : Nat, Hid (gn = W.heap.size) := ⟨_, show _ = _ from rfl⟩
        rw [← HGN.out] at r1 ⊢
        obtain ⟨vs, HCv⟩ : ∃ vs, Hid (Cv B wr gc m (comL (prs R A)) vs) := by
          obtain ⟨vs, h⟩ := HP.out.2.2.1
          exact ⟨vs, h⟩
        obtain ⟨od, hod⟩ : ∃ od, W.heap[Dd]? = some od := ⟨_, HK.out⟩
        obtain ⟨v0, HN3⟩ : ∃ v0, Hid (N3 w B C go gc bq gn bv Dd m od (prs R A) vs [] O (List.replicate m 0) v0 Wl w8 ∧ St (prs R A) m [] O Wl) := by
          have k8 : Keep [] W w8 := Keep.mono (Keep.grown r2) (by simp)
          obtain ⟨v0, q1, q2, q3⟩ := HI.out.2.ex
          have hz := HZ.out
          have h6 := H6.out
          have h1 := HBV.out
          have h2 := HBB.out
          have hq := HI.out.1
          have hp := HP.out
          have hbq := HBQ.out
          have hd := HDd.out
          have hg := HGN.out
          have k26 : ∀ x, x < C → x ≠ bq → w8.heap[x]? = w6.heap[x]? := fun x hx1 hx2 => (k8.block x (by have := hq.oth.2.2.2; omega) (by simp)).trans (hq.blk x hx1 hx2)
          have kk : Keep [bq] w6 w8 := ⟨k8.os.trans hq.oth.1, k8.tape.trans hq.oth.2.1, k8.output.trans hq.oth.2.2.1, by have := k8.size; have := hq.oth.2.2.2; have := HC.out; omega, fun x hx1 hx2 => k26 x (by rw [HC.out]; exact hx1) (by simpa using hx2)⟩
          have hcv := HCv.out
          have hrng : ∀ s, s < m → ∀ x, (vs.getD s nilS).ownBlock = some x → B ≤ x ∧ x < bq := fun s hs x hx => ⟨hcv.own s hs x hx, by rw [hbq]; exact (hcv.row s hs).lt x hx⟩
          have kw : Keep [] w w6 := by
            refine Keep.trans (Keep.trans H2.out.2.2.1 ⟨hp.2.2.2.1.os, hp.2.2.2.1.tape, hp.2.2.2.1.output, hp.2.2.2.1.size, fun x hx hn => ?_⟩ (F := []) (G := [go, gc]) (H := []) (by simp) (fun x hx => .inr ?_)) h6.2.1 (by simp) (by simp)
            · exact hp.2.2.2.1.block x (by rw [HB.out]; exact hx) hn
            · simp at hx; omega
          refine ⟨v0, ⟨⟨(hcv.arr.keep h6.2.1 (by simp)).keep kk (by simp; omega), fun s hs => ((hcv.row s hs).keep h6.2.1 (Off.nil _)).keep kk (fun x hx hm => by have := hrng s hs x hx; simp at hm; omega), hrng, kk.cell' h6.2.2.2.1 (by simp; omega), (k8.block Dd hd.2 (by simp)).trans hod, kw.more kk (fun x hx => .inr (by simp at hx; omega)), by omega⟩, ⟨q1.keep k8 (by simp), q2.keep k8 (Off.nil _), fun e => by have := q3 bq e; omega⟩, fun x hx => ?_, (hp.1.keep h6.2.1 (by simp)).keep kk (by simp; omega), Arr.made (e := eN) (z := 0) r1, fun k hk => by simp at hk⟩, HQs.out.start hOl hp.2.1⟩
          have h3 := q2.lt x hx
          refine ⟨q3 x hx, by omega, fun e => ?_⟩
          subst e
          exact notC_of hod (by have := HK.out; rw [hod] at this; cases this; rfl) (RowC.isC q2 x (by simpa using hx))
        have HOD : Hid (∀ w' : World, w'.heap[Dd]? = some od → w'.heap[Dd]? = W.heap[Dd]?) := fun w' h => h.trans hod.symm
        have HPm : Hid (∀ q ∈ prs R A, q.1 < m ∧ q.2 < m) := fun q hq => by
          obtain ⟨⟨a, ha, rfl⟩, _⟩ := prs_mem.1 hq
          have hnd := HG.out.1.ok.node a ha
          exact ⟨HG.out.2.2.2.1.lt _ hnd.1, HG.out.2.2.2.1.lt _ hnd.2⟩
        clear r1 r2 hi3 hz3 hs3 hy3 HB2 HB3 HQs HI HCv hod H6 HP HBS HQ0 HW4 HW6
        go_wp2
        go_loopw [79] (fun kv wr => ∃ (k : Nat) (T O N : List Nat) (v : Value) (Wl : List Nat), kv = .int .i64 (k : Int) ∧ k ≤ m ∧ Hid (T.length = k ∧ N3 w B C go gc bq gn bv Dd m od (prs R A) vs T O N v Wl wr ∧ St (prs R A) m T O Wl)) (fun kv _ => m - (intOf kv).toNat)
        case atStart => exact ⟨0, [], O, _, v0, Wl, rfl, Nat.zero_le _, rfl, HN3.out.1, HN3.out.2⟩
        case round =>
          clear HN3 hs4
          obtain ⟨k, T, O, N, v, Wl, rfl, hk, HS⟩ := hrel
          by_cases hlt : k < m
          · have hlti : (k : Int) < (m : Int) := by omega
            have hne := HS.out.2.2.some (fun q hq => (HPm.out q hq).2) HG.out.2.2.2.2 (by rw [HS.out.1]; exact hlt)
            obtain ⟨W', r, rfl⟩ : ∃ W' r, Wl = W' ++ [r] := by
              rcases List.eq_nil_or_concat Wl with h | ⟨W', r, h⟩
              · exact absurd h hne
              · exact ⟨W', r, by rw [h, List.concat_eq_append]⟩
            have hmid := HS.out.2.2.take
            have hrm := hmid.2
            have hri : (r : Int) < (m : Int) := by omega
            have HTk : Hid (∀ (_ : True), Calls Try.prog 73 #[.pointer (some ⟨bq, 0, none⟩)] wr fun e w' => e = .returned (.int .i64 (r : Int)) ∧ WvR bq v wr w' W') := fun _ => qtake_ex r v W' wr HS.out.2.1.wv
            have HT2 : Hid (∀ w', WvR bq v wr w' W' → ∃ v', N3 w B C go gc bq gn bv Dd m od (prs R A) vs T O N v' W' w') := fun w' h => HS.out.2.1.wvr h
            have HMi : Hid (Mid (prs R A) m T r 0 O W' ∧ T.length = k) := ⟨hmid.1, HS.out.1⟩
            clear HS hne hmid
            go_wp2_with fail
            refine (HTk.out trivial).mono ?_
            rintro e w9 ⟨rfl, hr9⟩
            obtain ⟨v9, h9⟩ := HT2.out _ hr9
            have c1 : w9.cell? ⟨gn, r, none⟩ = some (.int .i64 (N.getD r 0 : Int)) := h9.nm.cell 0 r hrm
            have f1 := h9.nm.free r
            obtain ⟨W10, HW10⟩ : ∃ W10 : World, Hid (W10 = w9.setCell ⟨gn, r, none⟩ (.int .i64 (k : Int))) := ⟨_, show _ = _ from rfl⟩
            have h10 : N3 w B C go gc bq gn bv Dd m od (prs R A) vs (T ++ [r]) O (N.set r k) v9 W' W10 := by
              have := h9.num hrm HMi.out.1.new
              rwa [HMi.out.2, ← HW10.out] at this
            have c2 : (w9.setCell ⟨gn, r, none⟩ (.int .i64 (k : Int))).cell? ⟨gc, r, none⟩ = some (vs.getD r nilS) := by
              rw [← HW10.out]
              exact h10.c.arr.cell nilS r hrm
            obtain ⟨L, hL⟩ : ∃ L, L = comL (prs R A) r := ⟨_, rfl⟩
            have hrow := h10.c.row r hrm
            rw [← hL] at hrow
            obtain ⟨la, lc, hlf⟩ : ∃ a c, vs.getD r nilS = .slice a L.length c := by
              rcases hrow.cases encN_len with ⟨e1, e2⟩ | ⟨g, cap, e1, _⟩
              · exact ⟨none, 0, by rw [e2, e1]; rfl⟩
              · exact ⟨_, _, e1⟩
            rw [hlf] at c2
            have HLF : Hid (vs.getD r nilS = .slice la L.length lc) := hlf
            have HLL : Hid (L = comL (prs R A) r) := hL
            have H10 : Hid (N3 w B C go gc bq gn bv Dd m od (prs R A) vs (T ++ [r]) O (N.set r k) v9 W' W10 ∧ Mid (prs R A) m T r 0 O W') := ⟨h10, HMi.out.1⟩
            have hLl : L.length ≤ 262144 := by
              have := comL_le R A A.length r
              rw [List.take_length, ← hL] at this
              omega
            clear h9 h10 hr9 hrow hlf hL HTk HT2
            go_wp2
            rw [← HW10.out]
            clear c1 f1 c2 HW10
            go_loopw [93] (fun jv wr => ∃ (j : Nat) (O : List Nat) (v : Value) (Wl : List Nat), jv = .int .i64 (j : Int) ∧ j ≤ L.length ∧ Hid (N3 w B C go gc bq gn bv Dd m od (prs R A) vs (T ++ [r]) O (N.set r k) v Wl wr ∧ Mid (prs R A) m T r j O Wl)) (fun jv _ => L.length - (intOf jv).toNat)
            case atStart => exact ⟨0, O, v9, W', rfl, Nat.zero_le _, H10⟩
            case round =>
              clear H10
              obtain ⟨j, O, v, Wl, rfl, hj, HM⟩ := hrel
              by_cases hjl : j < L.length
              · have hjli : (j : Int) < (L.length : Int) := by omega
                have hst := HM.out.2.step (fun q hq => (HPm.out q hq).1) (by rw [← HLL.out]; exact hjl)
                rw [← HLL.out] at hst
                obtain ⟨c, hc⟩ : ∃ c, c = L.getD j 0 := ⟨_, rfl⟩
                rw [← hc] at hst
                obtain ⟨hcm, hpos, hst⟩ := hst
                have hci : (c : Int) < (m : Int) := by omega
                obtain ⟨o1, ho1⟩ : ∃ o1 : Nat, O.getD c 0 - 1 = o1 := ⟨_, rfl⟩
                rw [ho1] at hst
                have h3 := HM.out.1
                have hrow : Rw 3 encN 1 wr (.slice la L.length lc) L := by
                  have := h3.c.row r hrm
                  rwa [HLF.out, ← HLL.out] at this
                obtain ⟨lg, hla, cl⟩ : ∃ lg, la = some ⟨lg, 0, none⟩ ∧ wr.cell? ⟨lg, j, none⟩ = some (.int .i64 (c : Int)) := by
                  rcases hrow.cases encN_len with ⟨e1, _⟩ | ⟨g, cap, e1, _, _, _, h7, _⟩
                  · rw [e1] at hjl; simp at hjl
                  · simp at e1
                    refine ⟨g, e1.1, ?_⟩
                    have := h7 j hjl 0 (by omega)
                    rw [Nat.mul_one, Nat.add_zero] at this
                    rw [this, hc, List.getD_eq_getElem?_getD, List.getElem?_eq_getElem hjl]
                    rfl
                subst hla
                have hlcap : L.length ≤ lc ∧ lc ≤ 9223372036854775807 := by
                  rcases hrow.cases encN_len with ⟨e1, _⟩ | ⟨g, cap, e1, h4, h5, _⟩
                  · rw [e1] at hjl; simp at hjl
                  · simp at e1
                    obtain ⟨_, rfl⟩ := e1
                    exact ⟨h4, h5⟩
                have hob : o1 ≤ 262144 := by
                  have h1 := HM.out.2.cnt c hcm
                  have h2 : owe (prs R A) T c ≤ (prs R A).length := List.countP_le_length
                  have h4 : (prs R A).length ≤ (A.map (rp R)).length := List.length_filter_le _ _
                  rw [List.length_map] at h4
                  omega
                have co : wr.cell? ⟨go, c, none⟩ = some (.int .i64 ((o1 : Int) + 1)) := by
                  rw [h3.ow.cell 0 c hcm, show O.getD c 0 = o1 + 1 by omega]; rfl
                have fo := h3.ow.free c
                have kx1 : IntKind.i64.wrap ((o1 : Int) + 1 - 1) = (o1 : Int) := by rw [wrap_ok _ (by omega) (by omega)]; omega
                have kx2 : IntKind.i64.wrap (o1 : Int) = (o1 : Int) := by rw [wrap_ok _ (by omega) (by omega)]
                obtain ⟨W11, HW11⟩ : ∃ W11 : World, Hid (W11 = wr.setCell ⟨go, c, none⟩ (.int .i64 (o1 : Int))) := ⟨_, show _ = _ from rfl⟩
                have h11 : N3 w B C go gc bq gn bv Dd m od (prs R A) vs (T ++ [r]) (O.set c o1) (N.set r k) v Wl W11 := by
                  rw [HW11.out]; exact h3.owe c o1
                have q1 : (wr.setCell ⟨go, c, none⟩ (.int .i64 (o1 : Int))).cell? ⟨go, c, none⟩ = some (.int .i64 (o1 : Int)) := by
                  rw [← HW11.out]
                  have hl := h3.ow.len
                  rw [h11.ow.cell 0 c hcm, getD_set _ _ _ _ _ (by omega), if_pos rfl]; rfl
                have q2 : (wr.setCell ⟨go, c, none⟩ (.int .i64 (o1 : Int))).cell? ⟨bv, 0, none⟩ = some (.func (.func 69) #[] #[.pointer (some ⟨bq, 0, none⟩)]) := by
                  rw [← HW11.out]; exact h11.c.fn
                by_cases ho0 : o1 = 0
                · have hq : ((o1 : Int) == 0) = true := by simp [ho0]
                  rw [if_pos ho0] at hst
                  have HWt : Hid (∀ (_ : True), Calls Try.prog 69 #[.int .i64 (c : Int), .pointer (some ⟨bq, 0, none⟩)] (wr.setCell ⟨go, c, none⟩ (.int .i64 (o1 : Int))) fun e w' => e = .returned (.tuple #[]) ∧ WvR bq v (wr.setCell ⟨go, c, none⟩ (.int .i64 (o1 : Int))) w' (insW Wl c)) := fun _ => by
                    rw [← HW11.out]
                    refine wait_ex c v Wl W11 h11.wv (HM.out.2.fall.imp (fun {a b} hab => Nat.le_of_lt hab)) ?_
                    have := fall_len HM.out.2.fall (fun x hx => ((HM.out.2.mem x).1 hx).1)
                    omega
                  have HJ : Hid (∀ w', WvR bq v (wr.setCell ⟨go, c, none⟩ (.int .i64 (o1 : Int))) w' (insW Wl c) → ∃ v', N3 w B C go gc bq gn bv Dd m od (prs R A) vs (T ++ [r]) (O.set c o1) (N.set r k) v' (insW Wl c) w' ∧ Mid (prs R A) m T r (j + 1) (O.set c o1) (insW Wl c)) := fun w' h => by
                    rw [← HW11.out] at h
                    obtain ⟨v', h'⟩ := h11.wvr h
                    exact ⟨v', h', hst⟩
                  clear HM hst h11 h3 hrow ho1 hpos HW11 hc ho0
                  go_wp2_with fail
                  refine (HWt.out trivial).mono ?_
                  rintro e w12 ⟨rfl, hr12⟩
                  obtain ⟨v12, h12⟩ := HJ.out _ hr12
                  have H12 : Hid (type_of% h12) := h12
                  clear h12 hr12 HWt HJ q1 q2 co fo cl
                  go_wp2
                  go_roundw
                  case rel => exact ⟨j + 1, _, v12, _, by go_num, by omega, H12⟩
                  case measure => simp [intOf]; omega
                · have hq : ((o1 : Int) == 0) = false := by simp; omega
                  have hq2 : ¬ (o1 : Int) = 0 := by omega
                  rw [if_neg ho0] at hst
                  have HJ : Hid (N3 w B C go gc bq gn bv Dd m od (prs R A) vs (T ++ [r]) (O.set c o1) (N.set r k) v Wl (wr.setCell ⟨go, c, none⟩ (.int .i64 (o1 : Int))) ∧ Mid (prs R A) m T r (j + 1) (O.set c o1) Wl) := by
                    rw [← HW11.out]
                    exact ⟨h11, hst⟩
                  clear HM hst h11 h3 hrow ho1 hpos HW11 hc
                  go_wp2
                  go_roundw
                  case rel => exact ⟨j + 1, _, v, _, by go_num, by omega, HJ⟩
                  case measure => simp [intOf]; omega
              · have hjli : ¬ (j : Int) < (L.length : Int) := by omega
                obtain rfl : j = L.length := by omega
                have HE : Hid ((T ++ [r]).length = k + 1 ∧ N3 w B C go gc bq gn bv Dd m od (prs R A) vs (T ++ [r]) O (N.set r k) v Wl wr ∧ St (prs R A) m (T ++ [r]) O Wl) := by
                  have h1 := HM.out.2
                  rw [HLL.out] at h1
                  exact ⟨by rw [List.length_append, List.length_singleton, HMi.out.2], HM.out.1, h1.done⟩
                clear HM
                go_wp2
                go_roundw
                case rel => exact ⟨k + 1, T ++ [r], O, _, v, Wl, by go_num, by omega, HE⟩
                case measure => simp [intOf]; omega
          · have hlti : ¬ (k : Int) < (m : Int) := by omega
            have HE : Hid (∀ W', wr.grownBy W' (some Dd) → NmR w W' (.slice (some ⟨gn, 0, none⟩) m m) m (prs R A)) := fun W' hg => by
              have h3 := HS.out.2.1
              have hT : T.length = m := by have := HS.out.1; omega
              have kk := Keep.grown hg
              have o := h3.c.ord
              refine ⟨gn, N, T, rfl, by omega, h3.nm.keep kk (by simp; omega), ⟨hT, HS.out.2.2.ok, fun j hj => h3.nu j (by omega)⟩, h3.c.keep.more kk (fun x hx => .inr (by simp at hx; omega))⟩
            have hdd := HOD.out _ HS.out.2.1.c.dd
            have hK := hdd.trans HK.out
            clear HS
            go_wp2
            refine ⟨by simp, .inl ⟨_, _, rfl, run_takeDeferred hK, ?_⟩⟩
            exact ⟨_, results_tmp rfl _ _ _, _, rfl, HE.out _ (grownBy_putObj' wr Dd _)⟩
end Go.Proofs.Ytmlpkjeaieljfab

