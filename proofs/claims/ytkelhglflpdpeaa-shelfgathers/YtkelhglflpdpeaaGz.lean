/- Gather: the walk. -/
import Derived.Test.YtkelhglflpdpeaaGy

namespace Go.Proofs.Ytkelhglflpdpeaa
open Go.RowKit Go.PlainAid

open Go.Shelf
attribute [local go_sem] Oper.semAt_some
def GI (w : World) (s0 H : Nat) (most : Int) (p : List Pr) (W : World) : Prop := ∃ r c v pre, (p = pre ∧ pre.length ≤ most.toNat) ∧ Gb w s0 H most r c v pre W
def GX (w : World) (s0 H : Nat) (most : Int) (p : List Pr) (W : World) : Prop := ∃ r c v pre, ((∃ y, p = pre ++ [y]) ∧ pre.length = most.toNat ∧ r = v ∧ c = true) ∧ Gb w s0 H most r c v pre W

set_option maxRecDepth 100000 in
set_option maxHeartbeats 4000000 in
theorem gather_any {s0 B2 B3 : Nat} {vl : Value} {l : List Pr} {a0 a1 a2 : Nat} (most : Int) (w : World) (h : Ls s0 B2 B3 vl l a0 a1 a2 w) (hl : l.length ≤ 13194139532928) (ha : a0 ≤ 1099511627776 ∧ a1 ≤ 1099511627776 ∧ a2 ≤ 1000000000000000) (hm : most ≤ 9223372036854775807 ∧ -9223372036854775808 ≤ most) :
    Calls Try.prog 29 #[vLs B3 B2, .int .i64 most] w fun e w' => ∃ v, e = .returned (.tuple #[v, .bool (decide (most.toNat < l.length))]) ∧ Rw 29 encP 2 w' v (l.take most.toNat) ∧ (∀ g, v.ownBlock = some g → w.heap.size ≤ g) ∧ Keep [s0] w w' ∧ Ls s0 B2 B3 vl l (a0 + 1) (a1 + 1) (a2 + min (most.toNat + 1) l.length) w' := by
  obtain ⟨H, HH⟩ : ∃ H : Nat, Hid (H = w.heap.size) := ⟨_, show _ = _ from rfl⟩
  have z1 := (Array.getElem?_eq_some_iff.1 h.sn).1
  have z2 := (Array.getElem?_eq_some_iff.1 h.b2).1
  have z3 := (Array.getElem?_eq_some_iff.1 h.b3).1
  rw [← HH.out] at z1 z2 z3
  have HZ : Hid (s0 < H ∧ B2 < H ∧ B3 < H) := ⟨z1, z2, z3⟩
  have hG0 := Gb.new w s0 most (by have := HH.out; omega) (.cells #[vLs B3 B2] 44)
  rw [← HH.out] at hG0
  have HSt : Hid (∀ w9, Calls Try.prog 56 #[vLs B3 B2] w9 fun e w' => e = .returned (.func (.func 71) #[] #[.pointer (some ⟨w9.heap.size, 0, none⟩)]) ∧ w' = w9.alloc (.cells #[vLs B3 B2] 44)) := fun w9 => steady_any B3 B2 w9
  have k5 : Keep [] w (((((w.alloc (.cells #[.int .i64 most] 3)).alloc (.cells #[.slice none 0 0] 25)).alloc (.cells #[.bool false] 4)).alloc (.cells #[.slice none 0 0] 25)).alloc (.cells #[vLs B3 B2] 44)) := ((((Keep.alloc1 w _).alloc _).alloc _).alloc _).alloc _
  have hL := h.keep0 k5
  obtain ⟨w8, HW8⟩ : ∃ w8, Hid (w8 = ((((w.alloc (.cells #[.int .i64 most] 3)).alloc (.cells #[.slice none 0 0] 25)).alloc (.cells #[.bool false] 4)).alloc (.cells #[.slice none 0 0] 25)).alloc (.cells #[vLs B3 B2] 44)) := ⟨_, show _ = _ from rfl⟩
  have HB : Hid (H + 5 = w8.heap.size) := by show _ = _; rw [HW8.out]; simp; have := HH.out; omega
  have h44 : w8.heap[H + 4]? = some (.cells #[vLs B3 B2] 44 (0, 0)) := by
    have := heap_alloc_new ((((w.alloc (.cells #[.int .i64 most] 3)).alloc (.cells #[.slice none 0 0] 25)).alloc (.cells #[.bool false] 4)).alloc (.cells #[.slice none 0 0] 25)) (.cells #[vLs B3 B2] 44)
    rw [← HW8.out] at this
    simp only [World.size_alloc, ← HH.out] at this
    exact this
  rw [← HW8.out] at hG0 hL
  have HSq : Hid (SeqState 71 #[.pointer (some ⟨H + 4, 0, none⟩)] l [H + 4] s0 H (fun n W => Ls s0 B2 B3 vl l (a0 + 1) (a1 + 1) (a2 + n) W) w8) := steady_seq hL h44 z1 z2 z3 ⟨by omega, by omega, by omega⟩
  have HG0 : Hid (type_of% hG0) := hG0
  have HLen : Hid (l.length ≤ 13194139532928) := hl
  clear hG0 hL h44 k5 h hl ha z1 z2 z3
  refine (callsIn_wide (n := 6)).1 ?_
  refine callsIn_of_wp_marks Try.func29 rfl trivial ?_ rfl
  simp only [Try.ntmps29, List.size_toArray, List.length_cons, List.length_nil, Nat.reduceAdd, Nat.reduceSub, Array.replicate_succ, Array.replicate_zero, List.push_toArray, List.append_toArray, List.nil_append, List.cons_append]
  refine wpIn_wide.2 ?_
  go_wp2_with fail
  refine (HSt.out _).mono ?_
  rintro e w9 ⟨rfl, hw9⟩
  rw [← HW8.out] at hw9
  rw [hw9]
  simp only [World.size_alloc, ← HH.out, Nat.add_assoc, Nat.reduceAdd]
  clear hw9 HSt HW8
  go_wp2_with fail
  refine range_state (gf := 71) (lb := #[.pointer (some ⟨H + 4, 0, none⟩)]) (w := w8) (N := H) (X := [H + 1, H + 2, H + 3]) (Y := [H + 4]) (L := l) (s0 := s0) rfl (enters_of Try.func71 (by kernel_rfl) rfl) rfl HSq.out (by have := HB.out; simp; omega)
    (fun n W b o hq hb => hq.putObj b o (by have := HB.out; have := HZ.out; omega) (by have := HB.out; have := HZ.out; omega) (by have := HB.out; have := HZ.out; omega))
    (by have := HB.out; omega) (by have := HB.out; have := HZ.out; omega) (by have := HB.out; intro x hx; simp at hx; simp; omega)
    (GI w s0 H most) (GX w s0 H most) (Gb.abd w s0 H most (fun p r c v pre => p = pre ∧ pre.length ≤ most.toNat) _ (by have := HB.out; omega)) (Gb.abd w s0 H most (fun p r c v pre => (∃ y, p = pre ++ [y]) ∧ pre.length = most.toNat ∧ r = v ∧ c = true) _ (by have := HB.out; omega))
    (fun p W b o ⟨r, c, v, pre, hp, hg⟩ hb hc => ⟨r, c, v, pre, hp, hg.putObj b o (by have := HB.out; omega) hc⟩) (fun p W b o ⟨r, c, v, pre, hp, hg⟩ hb hc => ⟨r, c, v, pre, hp, hg.putObj b o (by have := HB.out; omega) hc⟩)
    (fun p W o ⟨r, c, v, pre, hp, hg⟩ => ⟨r, c, v, pre, hp, hg.keep (Keep.alloc1 W o) (by simp) (by simp)⟩) ⟨_, _, _, [], ⟨rfl, Nat.zero_le _⟩, HG0.out⟩
    (fun y Bx => { tmps := #[vLs B3 B2, .int .i64 most, undef, .pointer (some ⟨H, 0, none⟩), .pointer (some ⟨H + 1, 0, none⟩), .pointer (some ⟨H + 2, 0, none⟩), .pointer (some ⟨H + 3, 0, none⟩), .pointer (some ⟨Bx, 0, none⟩), vLs B3 B2, .func (.func 71) #[] #[.pointer (some ⟨H + 4, 0, none⟩)], vP y, undef, undef, undef, undef, undef, undef, undef, undef, undef, undef], defers := [] })
    ?assign ?body ?done ?ret
  case assign =>
    rintro l9 y W K Bx rfl hK
    gi_wp2
    exact hK
  case body =>
    rintro l9 p y W Bx ⟨r, c, v, pre, ⟨rfl, hple⟩, hG⟩ hBx hbx hpl
    obtain ⟨⟨c9, c10⟩, _, _⟩ := two_facts hbx
    obtain ⟨ao, cap, rfl, hc1, hc2⟩ := (hG.row.rd encP_len).form
    have HG : Hid (type_of% hG) := hG
    obtain ⟨⟨d0, d1, d2, d3⟩, f1, f2, f3⟩ := hG.cells
    have HPL : Hid (p.length < l.length) := hpl
    have HPN : Hid (p.length ≤ most.toNat) := hple
    have hpz : H + 4 ≤ W.heap.size := (Array.getElem?_eq_some_iff.1 hG.b3).1
    have hbW := HB.out
    clear hbx hple hG
    by_cases hle : most ≤ (p.length : Int)
    · have HLE : Hid (most ≤ (p.length : Int)) := hle
      gi_wp2
      have hr := HG.out.res true
      exact ⟨⟨_, _, _, p, ⟨⟨y, rfl⟩, by have := HLE.out; have := HPN.out; omega, rfl, rfl⟩, hr.1⟩, hr.2.frg (fun x hx => .inl (by simp at hx ⊢; omega))⟩
    · have HPN1 : Hid (p.length + 1 ≤ most.toNat) := by show _ ≤ _; omega
      have hgt : (p.length : Int) < most := by omega
      gi_wp2_with (gi_at_builtin; refine wpIn_appC infoP rfl rfl (.tmp 16) (.tmp 18) 25 25 rfl Try.underlying25 (.slice ao p.length cap) p.length (p.flatMap encP) rfl (RowC.keep HG.out.row (Keep.alloc1 W _) (Off.nil _)) (.slice (some ⟨W.heap.size, 0, none⟩) 1 1) 1 (encP y) rfl (src_pair W y) (by have := HPL.out; have := HLen.out; omega) (by have := HPL.out; have := HLen.out; simp only [maxLen]; omega) ?_; intro v' w1 a1 a2 a3 a4 a5; obtain ⟨ao', cap', rfl⟩ := a4; have hb1 := (a2.block (H + 3) (by simp; omega) (fun hm => by have := HG.out.ge (H + 3) (by simpa using hm); omega)).trans ((Below.heap_alloc _ _ _ (by omega)).trans HG.out.b3); have g1 : w1.cell? ⟨H + 3, 0, none⟩ = some (.slice ao p.length cap) := (box_cell hb1).1; have g2 : w1.frozen? ⟨H + 3, 0, none⟩ = false := (box_cell hb1).2)
      have k1 : Keep ((Value.slice ao p.length cap).ownBlock.toList ++ [H + 3]) W (w1.setCell ⟨H + 3, 0, none⟩ (.slice ao' (p.length + 1) cap')) :=
        (((Keep.alloc1 W _).mono (by simp)).trans (a2.mono (G := (Value.slice ao p.length cap).ownBlock.toList ++ [H + 3]) (fun x hx => .inl (by simp at hx; simp [hx]))) (fun x hx => .inl hx) (fun x hx => .inl hx)).setCell (.inl (by simp)) _
      have own : ∀ x ∈ (Value.slice ao p.length cap).ownBlock.toList, H + 5 ≤ x ∧ ∃ c, W.heap[x]? = some (.cells c 29 (0, 0)) := fun x hx => ⟨HG.out.ge x (by simpa using hx), RowC.blk HG.out.row (by simpa using hx)⟩
      have g : ∀ j o, j < 3 → W.heap[H + j]? = some o → (w1.setCell ⟨H + 3, 0, none⟩ (.slice ao' (p.length + 1) cap')).heap[H + j]? = some o := fun j o hj ho => (k1.block _ (Array.getElem?_eq_some_iff.1 ho).1 (fun hm => by
        rcases List.mem_append.1 hm with h1 | h1
        · have := (own _ h1).1; omega
        · simp at h1; omega)).trans ho
      refine ⟨⟨r, c, .slice ao' (p.length + 1) cap', p ++ [y], ⟨rfl, by rw [List.length_append]; exact HPN1.out⟩, g 0 _ (by omega) HG.out.b0, g 1 _ (by omega) HG.out.b1, g 2 _ (by omega) HG.out.b2, one_setCell hb1, ?_, ?_, ?_, HG.out.hH, HG.out.sl⟩, k1.frg (fun x hx => ?_)⟩
      · have e : (p ++ [y]).flatMap encP = p.flatMap encP ++ encP y := by simp
        show RowC _ _ _ _ _ _
        rw [e, List.length_append]
        refine RowC.keep a1 (Keep.set1 w1 ⟨H + 3, 0, none⟩ _) (fun g hg hm => ?_)
        simp at hm
        obtain ⟨c2, h2⟩ := RowC.blk a1 hg
        rw [hm, hb1] at h2
        cases h2
      · intro g hg
        rcases a3 with h1 | h1
        · exact HG.out.ge g (by rw [← h1]; exact hg)
        · have := (h1 g hg).1
          simp at this
          omega
      · refine HG.out.kp.more k1 (fun x hx => .inr ?_)
        have hw := HH.out
        rcases List.mem_append.1 hx with h1 | h1
        · have := (own _ h1).1; omega
        · simp at h1; omega
      · rcases List.mem_append.1 hx with h1 | h1
        · have := own _ h1; exact .inr ⟨by omega, this.2⟩
        · simp at h1; exact .inl (by simp [h1])
  case ret =>
    rintro p W hp ⟨r, c, v, pre, ⟨⟨y, rfl⟩, hlen, rfl, rfl⟩, hG⟩ hq hK
    have hbW := HB.out
    have hz := HZ.out
    go_wp2
    refine ⟨by simp, .inl ⟨_, _, rfl, run_takeDeferred hK, ?_⟩⟩
    have hQ := hG.putObj w8.heap.size (.deferred none) (by omega) ⟨_, hK, rfl⟩
    have hq2 := hq.putObj w8.heap.size (.deferred none) (by omega) (by omega) (by omega)
    obtain ⟨⟨c0, c1, c2, c3⟩, _⟩ := hQ.cells
    obtain ⟨t, ht⟩ := hp
    have hll : pre.length + 1 ≤ l.length := by rw [← ht]; simp
    refine ⟨.tuple #[r, .bool true], by simp [results, Try.results29, go_sem, c1, c2], r, ?_, ?_, ?_, hQ.kp, ?_⟩
    · rw [decide_eq_true (by omega)]
    · have e : l.take most.toNat = pre := by rw [← ht, ← hlen]; simp
      rw [e]; exact hQ.row
    · intro g hg; have := hQ.ge g hg; have := HH.out; omega
    · rw [List.length_append, List.length_singleton] at hq2
      rw [show min (most.toNat + 1) l.length = pre.length + 1 from by omega]
      exact hq2
  case done =>
    rintro W ⟨r, c, v, pre, ⟨rfl, hlen⟩, hG⟩ hq hK
    have hbW := HB.out
    have hz := HZ.out
    obtain ⟨ao, cap, rfl, hc1, hc2⟩ := (hG.row.rd encP_len).form
    have HG : Hid (type_of% hG) := hG
    have HQ : Hid (type_of% hq) := hq
    have HLn : Hid (l.length ≤ most.toNat) := hlen
    obtain ⟨⟨d0, d1, d2, d3⟩, f1, f2, f3⟩ := hG.cells
    have HK : Hid (type_of% hK) := hK
    clear hG hq hK hlen
    go_wp2
    have hr := HG.out.res false
    have hL := HQ.out.frg (hr.2.frg (X := [H + 1, H + 2]) (N := H) (fun x hx => .inl hx)) (by omega) (by omega) (by omega) (by simp)
    have hK := (hr.2.block _ (Array.getElem?_eq_some_iff.1 HK.out).1 (by simp; omega)).trans HK.out
    generalize ((W.setCell ⟨H + 1, 0, none⟩ (.slice ao l.length cap)).setCell ⟨H + 2, 0, none⟩ (.bool false)) = W3 at *
    refine ⟨by simp, .inl ⟨_, _, rfl, run_takeDeferred hK, ?_⟩⟩
    have hQ := hr.1.putObj w8.heap.size (.deferred none) (by omega) ⟨_, hK, rfl⟩
    have hq2 := hL.putObj w8.heap.size (.deferred none) (by omega) (by omega) (by omega)
    obtain ⟨⟨c0, c1, c2, c3⟩, _⟩ := hQ.cells
    have hll := HLn.out
    refine ⟨.tuple #[.slice ao l.length cap, .bool false], by simp [results, Try.results29, go_sem, c1, c2], .slice ao l.length cap, ?_, ?_, ?_, hQ.kp, ?_⟩
    · rw [decide_eq_false (by omega)]
    · rw [List.take_of_length_le hll]; exact hQ.row
    · intro g hg; have := hQ.ge g hg; have := HH.out; omega
    · rw [show min (most.toNat + 1) l.length = l.length from by omega]
      exact hq2

end Go.Proofs.Ytkelhglflpdpeaa
