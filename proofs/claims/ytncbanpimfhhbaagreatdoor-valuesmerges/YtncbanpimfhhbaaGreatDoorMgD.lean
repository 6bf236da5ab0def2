/- copied; named and what it calls. -/
import Derived.Test.YtncbanpimfhhbaaGreatDoorMgB
namespace Go.Proofs.YtncbanpimfhhbaaGreatDoor
open Go.RowKit Go.PlainAid

theorem src_ts {w : World} {u : Value} {t : List ByteArray} (h : Ts w u t) : Src Tryz.prog 1 29 u t.length (strC t) w := by
  obtain ⟨ao, cap, rfl, h1, h2, h3, h4⟩ := h.ex
  cases ao with
  | none =>
    have ht : t = [] := by
      cases t with
      | nil => rfl
      | cons a b => obtain ⟨_, _, e, _⟩ := h4 (by simp); cases e
    subst ht
    exact Src.ofNil _ Tryz.underlying29 cap
  | some a =>
    refine Src.ofSlice _ Tryz.underlying29 a t.length cap (strC t) (by simp [strC]) (fun j x hj => ?_) (fun x hx => ?_)
    · obtain ⟨hj1, hj2⟩ := List.getElem?_eq_some_iff.1 hj
      have hj3 : j < t.length := by simpa [strC] using hj1
      obtain ⟨b, o, e, hc⟩ := h4 (by intro e; rw [e] at hj3; simp at hj3)
      simp at e
      subst e
      have := hc j hj3
      simp [strC] at hj2
      rw [← hj2]
      have e : (⟨b, o, none⟩ : Addr).add j = ⟨b, o + j, none⟩ := by unfold Addr.add; split <;> simp_all
      rw [e]
      exact this
    · simp [strC] at hx
      obtain ⟨s, _, rfl⟩ := hx
      rfl
set_option maxRecDepth 1000000 in
set_option maxHeartbeats 1600000 in
theorem copied_any (p : AD) (u : Value) (w : World) (hu : Ts w u p.val.texts) (hlen : p.val.texts.length ≤ 8796093021952) :
    Calls Tryz.prog 10 #[p.agg u] w fun e w' => ∃ a c, e = .returned (p.agg (.slice a p.val.texts.length c)) ∧ Ts w' (.slice a p.val.texts.length c) p.val.texts ∧ Keep [] w w' ∧ Fresh w w' (.slice a p.val.texts.length c) := by
  have hL := fun w1 k => src_ts (hu.keep (F := []) (w' := w1) k (Off.nil _))
  have HSZ : Hid (∀ s ∈ p.val.texts, s.size ≤ 9223372036854775807) := hu.sizes
  obtain ⟨ao, ca, rfl, _, _, _, _⟩ := hu.ex
  clear hu
  obtain ⟨m, kd, b, n, x, t, ts⟩ := p
  simp only [] at hL hlen HSZ ⊢
  have HS : Hid _ := hL _ ((Keep.alloc1 w (.cells #[.string m, .int .i64 kd, .bool b, .int .i64 n, .float .f32 x, .string t, .slice ao ts.length ca] 33)).alloc (.cells #[.string ByteArray.empty, .int .i64 0, .bool false, .int .i64 0, .float .f32 0, .string ByteArray.empty, .slice none 0 0] 33))
  have hal : Hid ((0 + ts.length) * 16 ≤ 140737488355328 ∧ 0 + ts.length ≤ maxLen) := by
    show _ ∧ _
    refine ⟨by omega, ?_⟩
    unfold maxLen; omega
  clear hL
  go_enter Tryz.func10, Tryz.ntmps10
  go_wp2_with (at_builtin; refine wp_appC infoS rfl rfl (.const (.slice none 0 0)) (.tmp 5) 29 29 rfl Tryz.underlying29 (.slice none 0 0) 0 [] rfl (World.ownsRow_nil _ 0 9 1) _ ts.length (strC ts) rfl HS.out hal.out.1 hal.out.2 ?_)
  intro v9 w1 R9 k1 F9 S9 _
  obtain ⟨a9, c9, rfl⟩ := S9
  simp only [Value.ownBlock, Option.toList_none] at k1
  obtain ⟨⟨c0, c1, c2, c3, c4, c5, c6⟩, ⟨d0, d1, d2, d3, d4, d5, d6⟩⟩ := two_cells7 k1
  have fz : w1.frozen? ⟨w.heap.size, 6, none⟩ = false := (k1.frozen (by simp; omega) (by simp)).trans (by simp)
  have g0 : w1.frozen? ⟨w.heap.size + 1, 0, none⟩ = false := (k1.frozen (by simp) (by simp)).trans (by simp)
  have g1 : w1.frozen? ⟨w.heap.size + 1, 1, none⟩ = false := (k1.frozen (by simp) (by simp)).trans (by simp)
  have g2 : w1.frozen? ⟨w.heap.size + 1, 2, none⟩ = false := (k1.frozen (by simp) (by simp)).trans (by simp)
  have g3 : w1.frozen? ⟨w.heap.size + 1, 3, none⟩ = false := (k1.frozen (by simp) (by simp)).trans (by simp)
  have g4 : w1.frozen? ⟨w.heap.size + 1, 4, none⟩ = false := (k1.frozen (by simp) (by simp)).trans (by simp)
  have g5 : w1.frozen? ⟨w.heap.size + 1, 5, none⟩ = false := (k1.frozen (by simp) (by simp)).trans (by simp)
  have g6 : w1.frozen? ⟨w.heap.size + 1, 6, none⟩ = false := (k1.frozen (by simp) (by simp)).trans (by simp)
  have HT : Hid (Ts w1 (.slice a9 ts.length c9) ts) := by
    have R8 : RowC w1 9 1 (.slice a9 ts.length c9) ts.length (strC ts) := by simpa using R9
    cases a9 with
    | none =>
      have ht : ts = [] := by
        rcases RowC.cases R8 with ⟨h0, -⟩ | ⟨g, cap, e, -⟩
        · exact List.eq_nil_of_length_eq_zero h0
        · simp at e
      subst ht
      rcases RowC.cases R8 with ⟨h0, h1, h2⟩ | ⟨g, cap, e, -⟩
      · rw [h2]; exact Ts.nil _
      · simp at e
    | some a =>
      rcases RowC.cases R8 with ⟨h0, h1, h2⟩ | ⟨g, cap, e, -⟩
      · simp at h2
      · simp at e
        obtain ⟨rfl, rfl⟩ := e
        exact Ts.ofRow R8 HSZ.out rfl
  have HK : Hid (Keep [] w w1) := ((Keep.alloc1 w _).alloc _).trans' k1
  have HG : Hid (∀ y, (Value.slice a9 ts.length c9).ownBlock = some y → w.heap.size + 2 ≤ y ∧ y < w1.heap.size) := fun y hy => by
    rcases F9 with e | e
    · rw [e] at hy
      simp [Value.ownBlock] at hy
    · have := e y hy
      simp at this
      exact ⟨by omega, this.2⟩
  clear R9 F9 k1 HS hal
  try rw [Nat.zero_add]
  have HQ : ∃ q, Hid (q = w.heap.size) := ⟨_, rfl⟩
  obtain ⟨q, HQ⟩ := HQ
  have hq := HQ.out
  rw [← hq] at c0 c1 c2 c3 c4 c5 c6 d0 d1 d2 d3 d4 d5 d6 fz g0 g1 g2 g3 g4 g5 g6 ⊢
  clear hq
  have hsf := store_f32
  simp only [Go.stored] at hsf
  go_wp2
  have hW := set_7 (w := (w1.setCell ⟨q, 6, none⟩ (.slice a9 ts.length c9))) (b := q + 1) (v0 := .string m) (v1 := .int .i64 kd) (v2 := .bool b) (v3 := .int .i64 n) (v4 := .float .f32 x) (v5 := .string t) (v6 := .slice a9 ts.length c9)
    (by rw [World.cell?_setCell_other _ _ _ _ (by simp)]; exact d0) (by rw [World.cell?_setCell_other _ _ _ _ (by simp)]; exact d1) (by rw [World.cell?_setCell_other _ _ _ _ (by simp)]; exact d2) (by rw [World.cell?_setCell_other _ _ _ _ (by simp)]; exact d3) (by rw [World.cell?_setCell_other _ _ _ _ (by simp)]; exact d4) (by rw [World.cell?_setCell_other _ _ _ _ (by simp)]; exact d5) (by rw [World.cell?_setCell_other _ _ _ _ (by simp)]; exact d6)
  have KS : Keep [q, q + 1] w1 ((((((((w1.setCell ⟨q, 6, none⟩ (.slice a9 ts.length c9)).setCell ⟨q + 1, 0, none⟩ (.string m)).setCell ⟨q + 1, 1, none⟩ (.int .i64 kd)).setCell ⟨q + 1, 2, none⟩ (.bool b)).setCell ⟨q + 1, 3, none⟩ (.int .i64 n)).setCell ⟨q + 1, 4, none⟩ (.float .f32 x)).setCell ⟨q + 1, 5, none⟩ (.string t)).setCell ⟨q + 1, 6, none⟩ (.slice a9 ts.length c9)) :=
    (((((((((Keep.refl [q, q + 1] w1).setCell (p := ⟨q, 6, none⟩) (.inl (by simp)) _).setCell (p := ⟨q + 1, 0, none⟩) (.inl (by simp)) _).setCell (p := ⟨q + 1, 1, none⟩) (.inl (by simp)) _).setCell (p := ⟨q + 1, 2, none⟩) (.inl (by simp)) _).setCell (p := ⟨q + 1, 3, none⟩) (.inl (by simp)) _).setCell (p := ⟨q + 1, 4, none⟩) (.inl (by simp)) _).setCell (p := ⟨q + 1, 5, none⟩) (.inl (by simp)) _).setCell (p := ⟨q + 1, 6, none⟩) (.inl (by simp)) _)
  generalize ((((((((w1.setCell ⟨q, 6, none⟩ (.slice a9 ts.length c9)).setCell ⟨q + 1, 0, none⟩ (.string m)).setCell ⟨q + 1, 1, none⟩ (.int .i64 kd)).setCell ⟨q + 1, 2, none⟩ (.bool b)).setCell ⟨q + 1, 3, none⟩ (.int .i64 n)).setCell ⟨q + 1, 4, none⟩ (.float .f32 x)).setCell ⟨q + 1, 5, none⟩ (.string t)).setCell ⟨q + 1, 6, none⟩ (.slice a9 ts.length c9)) = W at hW KS ⊢
  obtain ⟨r0, r1, r2, r3, r4, r5, r6⟩ := hW
  refine bodyPost_ret (v := .agg #[.string m, .int .i64 kd, .bool b, .int .i64 n, .float .f32 x, .string t, .slice a9 ts.length c9]) (by simp [results, Tryz.results10, go_sem, r0, r1, r2, r3, r4, r5, r6]) rfl ?_
  have hoff : Off (.slice a9 ts.length c9) [q, q + 1] := fun k hk hn => by
    have h1 := HG.out k hk
    have h2 := HQ.out
    simp at hn
    omega
  exact ⟨a9, c9, rfl, HT.out.keep KS hoff, HK.out.more KS (fun x hx => .inr (by have := HQ.out; simp at hx; omega)), fun y hy => ⟨by have := HG.out y hy; omega, Nat.lt_of_lt_of_le (HG.out y hy).2 KS.size⟩⟩

set_option maxRecDepth 1000000 in
theorem namedF_any (x : AD) (u : Value) (b : Nat) (s : ByteArray) (w : World) (hb : w.cell? ⟨b, 0, none⟩ = some (.string s)) (hu : ∃ a n c, u = .slice a n c) :
    Calls Tryz.prog 24 #[x.agg u, .pointer (some ⟨b, 0, none⟩)] w fun e w' => e = .returned (.bool (x.nm.toList == s.toList)) ∧ Keep [] w w' := by
  obtain ⟨a, n, c, rfl⟩ := hu
  have hb2 : ∀ X, (w.alloc X).cell? ⟨b, 0, none⟩ = some (.string s) := fun X => (Keep.alloc1 w X).cell' hb (by simp)
  go_enter Tryz.func24, Tryz.ntmps24
  go_wp2
  go_ret
  exact ⟨rfl, Keep.alloc1 w _⟩

set_option maxRecDepth 1000000 in
set_option maxHeartbeats 3200000 in
theorem indexF_any (v : Value) (l : List AD) (b : Nat) (s : ByteArray) (w : World) (hv : As w v l) (hb : w.cell? ⟨b, 0, none⟩ = some (.string s)) (rr : Bool) (hrr : l.any (fun x => x.nm.toList == s.toList) = rr) :
    Calls Tryz.prog 41 #[v, .func (.func 24) #[] #[.pointer (some ⟨b, 0, none⟩)]] w fun e w' => ∃ r : Int, e = .returned (.int .i64 r) ∧ ((0 ≤ r) ↔ rr = true) ∧ Keep [] w w' := by
  have HRR : Hid (l.any (fun x => x.nm.toList == s.toList) = rr) := hrr
  clear hrr
  have HV : Hid (As w v l) := hv
  have HB : Hid (∀ w1, Keep [] w w1 → w1.cell? ⟨b, 0, none⟩ = some (.string s)) := fun w1 k1 => k1.cell' hb (by simp)
  obtain ⟨ao, ca, rfl, -⟩ := hv.ex
  clear hv hb
  go_enter Tryz.func41, Tryz.ntmps41
  go_wp2
  go_loopw [8] (fun iv wr => ∃ k : Nat, iv = .int .i64 (k : Int) ∧ k ≤ l.length ∧ Hid (Keep [] w wr ∧ ∀ i (h : i < l.length), i < k → (l[i].nm.toList == s.toList) = false)) (fun iv _ => l.length - (intOf iv).toNat)
  case atStart => exact ⟨0, rfl, Nat.zero_le _, Keep.refl _ _, fun i _ h => absurd h (Nat.not_lt_zero i)⟩
  case round =>
    obtain ⟨k, rfl, hk, HI⟩ := hrel
    by_cases hlt : k < l.length
    · have hlti : (k : Int) < (l.length : Int) := by omega
      obtain ⟨bb, oo, _, u1, he, hoc1, hoc2, hA0, tA⟩ := (HV.out.keep0 HI.out.1).at k hlt
      simp at he
      obtain ⟨rfl, rfl⟩ := he
      have HC : Hid (Calls Tryz.prog 24 #[l[k].agg u1, .pointer (some ⟨b, 0, none⟩)] wr fun e w' => e = .returned (.bool (l[k].nm.toList == s.toList)) ∧ Keep [] wr w') := namedF_any l[k] u1 b s wr (HB.out wr HI.out.1) (by obtain ⟨a, c, e, -⟩ := tA.ex; exact ⟨a, _, c, e⟩)
      obtain ⟨a1, c1, rfl, -⟩ := tA.ex
      clear tA
      cases hq : (l[k].nm.toList == s.toList)
      · have HN : Hid (∀ i (h : i < l.length), i < k + 1 → (l[i].nm.toList == s.toList) = false) := fun i h hi => by
          by_cases e : i = k
          · subst e; exact hq
          · exact HI.out.2 i h (by omega)
        rw [hq] at HC
        clear hq
        generalize l[k].val.texts.length = n1 at hA0 HC
        generalize l[k] = x at hA0 HC
        obtain ⟨m0, m1, m2, m3, m4, m5, m6⟩ := hA0
        go_wp2_with fail
        refine HC.out.mono ?_
        rintro e9 w9 ⟨rfl, k9⟩
        have HK9 : Hid (Keep [] w w9) := HI.out.1.trans' k9
        clear HC k9 HI m0 m1 m2 m3 m4 m5 m6
        go_wp2
        go_roundw
        case rel => exact ⟨k + 1, by go_num, by omega, HK9.out, HN.out⟩
        case measure => simp [intOf]; omega
      · have HN : Hid (rr = true) := HRR.out ▸ List.any_eq_true.2 ⟨l[k], List.getElem_mem hlt, hq⟩
        rw [hq] at HC
        clear hq
        generalize l[k].val.texts.length = n1 at hA0 HC
        generalize l[k] = x at hA0 HC
        obtain ⟨m0, m1, m2, m3, m4, m5, m6⟩ := hA0
        go_wp2_with fail
        refine HC.out.mono ?_
        rintro e9 w9 ⟨rfl, k9⟩
        have HK9 : Hid (Keep [] w w9) := HI.out.1.trans' k9
        clear HC k9 HI m0 m1 m2 m3 m4 m5 m6
        go_wp2
        go_ret
        exact ⟨(k : Int), rfl, ⟨fun _ => HN.out, fun _ => by omega⟩, HK9.out⟩
    · have hlti : ¬ (k : Int) < (l.length : Int) := by omega
      go_wp2
      go_ret
      refine ⟨-1, rfl, ⟨fun h => absurd h (by omega), fun h => ?_⟩, HI.out.1⟩
      obtain ⟨x, hx, hx2⟩ := List.any_eq_true.1 (HRR.out.trans h)
      obtain ⟨i, hi, rfl⟩ := List.getElem_of_mem hx
      rw [HI.out.2 i hi (by omega)] at hx2
      cases hx2

set_option maxRecDepth 1000000 in
theorem named_any (v : Value) (l : List AD) (s : ByteArray) (w : World) (hv : As w v l) :
    Calls Tryz.prog 11 #[v, .string s] w fun e w' => e = .returned (.bool (l.any (fun x => x.nm.toList == s.toList))) ∧ Keep [] w w' := by
  have HC : Hid (∀ w1 b, Keep [] w w1 → w1.cell? ⟨b, 0, none⟩ = some (.string s) → Calls Tryz.prog 23 #[v, .func (.func 24) #[] #[.pointer (some ⟨b, 0, none⟩)]] w1 fun e w' => e = .returned (.bool (l.any (fun x => x.nm.toList == s.toList))) ∧ Keep [] w1 w') := fun w1 b k1 hb => by
    obtain ⟨r, hr⟩ : ∃ r, l.any (fun x => x.nm.toList == s.toList) = r := ⟨_, rfl⟩
    have hI := indexF_any v l b s w1 (hv.keep0 k1) hb r hr
    rw [hr]
    clear hr
    obtain ⟨ao, ca, rfl, -⟩ := hv.ex
    go_enter Tryz.func23, Tryz.ntmps23
    go_wp2_with fail
    refine hI.mono ?_
    rintro e9 w9 ⟨q, rfl, hq, k9⟩
    have HK9 : Hid (Keep [] w1 w9) := k9
    have HQ : Hid ((0 ≤ q) ↔ r = true) := hq
    clear hI k9 hq
    by_cases h0 : 0 ≤ q
    · go_wp2
      go_ret
      exact ⟨ret_bool ((HQ.out.1 h0).symm ▸ rfl), HK9.out⟩
    · go_wp2
      go_ret
      refine ⟨ret_bool ?_, HK9.out⟩
      cases r
      · exact decide_eq_false (by omega)
      · exact absurd (HQ.out.2 rfl) (by omega)
  obtain ⟨ao, ca, rfl, -⟩ := hv.ex
  clear hv
  generalize l.any (fun x => x.nm.toList == s.toList) = r at HC
  go_enter Tryz.func11, Tryz.ntmps11
  go_wp2_with fail
  refine (HC.out _ _ (Keep.alloc1 w _) (by simp [go_sem])).mono ?_
  rintro e9 w9 ⟨rfl, k9⟩
  have HK9 : Hid (Keep [] w w9) := (Keep.alloc1 w _).trans' k9
  clear HC k9
  go_wp2
  go_ret
  exact ⟨rfl, HK9.out⟩
end Go.Proofs.YtncbanpimfhhbaaGreatDoor

