/- ShelfGathers: the walk. -/
import Derived.Test.YtkelhglflpdpeaaHb
import Derived.Test.YtkelhglflpdpeaaAw

namespace Go.Proofs.Ytkelhglflpdpeaa
open Go.RowKit Go.PlainAid

open Go.Shelf
attribute [local go_sem] Oper.semAt_some
theorem Rd.first {w : World} {ao : Option Addr} {cap : Nat} {l : List Pr} (h : Rd encP 2 w (.slice ao l.length cap) l) (n : Nat) (hn : n ≤ l.length) : Rd encP 2 w (.slice ao n cap) (l.take n) := by
  obtain ⟨ao', cap', he, h1, h2, h3, h4⟩ := h.ex
  simp at he
  obtain ⟨rfl, rfl⟩ := he
  refine ⟨ao, cap, by rw [List.length_take, Nat.min_eq_left hn], by rw [List.length_take]; omega, h2, h3, fun hl => ?_⟩
  obtain ⟨b, o, hb, hb2, hc⟩ := h4 (fun e => hl (by rw [e]; simp))
  refine ⟨b, o, hb, hb2, fun j hj i hi => ?_⟩
  have := hc j (by rw [List.length_take] at hj; omega) i hi
  rw [List.getElem_take]
  exact this

theorem own_len (ao : Option Addr) (m n c d : Nat) : (Value.slice ao m c).ownBlock = (Value.slice ao n d).ownBlock := by cases ao <;> rfl
theorem Ls.cells {s0 B2 B3 : Nat} {vl : Value} {l : List Pr} {a0 a1 a2 : Nat} {W : World} (h : Ls s0 B2 B3 vl l a0 a1 a2 W) : W.cell? ⟨s0, 0, none⟩ = some (.int .i64 (a0 : Int)) ∧ W.cell? ⟨s0, 1, none⟩ = some (.int .i64 (a1 : Int)) ∧ W.cell? ⟨s0, 2, none⟩ = some (.int .i64 (a2 : Int)) :=
  ⟨by unfold World.cell?; rw [h.sn]; rfl, by unfold World.cell?; rw [h.sn]; rfl, by unfold World.cell?; rw [h.sn]; rfl⟩
theorem Ls.new {W : World} {s0 : Nat} {v : Value} {l : List Pr} {a0 a1 a2 : Nat} (hs : W.heap[s0]? = some (.cells [.int .i64 (a0 : Int), .int .i64 (a1 : Int), .int .i64 (a2 : Int)].toArray 54 (0, 0))) (hr : Rd encP 2 W v l) (ho : ∀ k, v.ownBlock = some k → l ≠ [] → k < s0) :
    Ls s0 W.heap.size (W.heap.size + 1) v l a0 a1 a2 ((W.alloc (.cells #[v] 25)).alloc (.cells #[.pointer (some ⟨s0, 0, none⟩)] 57)) := by
  have kk : Keep [] W ((W.alloc (.cells #[v] 25)).alloc (.cells #[.pointer (some ⟨s0, 0, none⟩)] 57)) := (Keep.alloc1 _ _).alloc _
  refine ⟨(kk.block _ (Array.getElem?_eq_some_iff.1 hs).1 (by simp)).trans hs, ?_, (Below.heap_alloc _ _ _ (by simp)).trans (heap_alloc_new W _), hr.keep kk (Off.nil _), ho⟩
  have := heap_alloc_new (W.alloc (.cells #[v] 25)) (.cells #[.pointer (some ⟨s0, 0, none⟩)] 57)
  rwa [World.size_alloc] at this

set_option maxRecDepth 100000 in
set_option maxHeartbeats 8000000 in
theorem gathers1 (v0 : Value) (l : List Pr) (most : Int) (m : Nat) (hmx0 : (if most < 0 then (0 : Int) else most) = (m : Int)) (hml0 : m ≤ l.length) (w : World) (h0 : Rd encP 2 w v0 l) (hob : ∀ k, v0.ownBlock = some k → l ≠ [] → k < w.heap.size) (hl : l.length ≤ 8796093021952) (hk : -9223372036854775808 ≤ most ∧ most ≤ 9223372036854775807) :
    Calls Try.prog 5 #[v0, .int .i64 most] w fun e w' => e = .returned (.bool true) ∧ Keep [] w w' := by
  obtain ⟨ao, cap, rfl, hc1, hc2⟩ := h0.form
  have hown : ∀ k, (Value.slice ao l.length cap).ownBlock = some k → l ≠ [] → k < w.heap.size := hob
  clear hob
  obtain ⟨H, HH⟩ : ∃ H : Nat, Hid (H = w.heap.size) := ⟨_, show _ = _ from rfl⟩
  have HV : Hid (Rd encP 2 w (.slice ao l.length cap) l) := h0
  have HLl : Hid (l.length ≤ 8796093021952) := hl
  have HK : Hid (-9223372036854775808 ≤ most ∧ most ≤ 9223372036854775807) := hk
  have hlz : (l.length : Int) ≤ 8796093021952 := by omega
  have hl0 : (0 : Int) ≤ (l.length : Int) := by omega
  have HMm : Hid (m = min most.toNat l.length) := by
    show _ = _
    split at hmx0 <;> omega
  have HT : Hid (l.take most.toNat = l.take m) := by
    show _ = _
    rw [HMm.out]
    simp [List.take_eq_take_iff]
  have HMl : Hid (m ≤ l.length) := by show _ ≤ _; rw [HMm.out]; omega
  have HD : Hid (decide (most.toNat < l.length) = decide ((m : Int) < (l.length : Int))) := by
    show _ = _
    have := HMm.out
    apply decide_eq_decide.2
    omega
  have HS : Hid (min (most.toNat + 1) l.length = min (m + 1) l.length) := by show _ = _; have := HMm.out; omega
  have HmL : Hid ((l.take m).length = m) := by show _ = _; rw [List.length_take]; have := HMl.out; omega
  have hml : (m : Int) ≤ (l.length : Int) := by have := HMl.out; omega
  have hm0 : (0 : Int) ≤ (m : Int) := by omega
  have HLs : Hid (∀ w9, Calls Try.prog 30 #[.slice ao l.length cap, .pointer (some ⟨H, 0, none⟩)] w9 fun e w' => e = .returned (vLs (w9.heap.size + 1) w9.heap.size) ∧ w' = (w9.alloc (.cells #[.slice ao l.length cap] 25)).alloc (.cells #[.pointer (some ⟨H, 0, none⟩)] 57)) := fun w9 => list_any ao l.length cap H w9
  have HAw : Hid (∀ w9, Calls Try.prog 23 #[] w9 fun e w' => e = .returned (.bool true) ∧ Keep [] w9 w') := fun w9 => awake_any w9
  have HSa : Hid (∀ v v2 w9, Rd encP 2 w9 v (l.take m) → Rd encP 2 w9 v2 (l.take m) → Calls Try.prog 20 #[v, v2] w9 fun e w' => e = .returned (.bool true) ∧ Keep [] w9 w') := fun v v2 w9 h1 h2 => rSame_yes v v2 _ w9 h1 h2 (by rw [HmL.out]; have := HMl.out; have := HLl.out; omega)
  have HOw : Hid (∀ k, (Value.slice ao l.length cap).ownBlock = some k → l ≠ [] → k < w.heap.size) := hown
  have HGa : Hid (∀ B2 B3 a0 a1 a2 w9, Ls H B2 B3 (.slice ao l.length cap) l a0 a1 a2 w9 → a0 ≤ 1000 → a1 ≤ 1000 → a2 ≤ 1000000000000000 → Calls Try.prog 29 #[vLs B3 B2, .int .i64 most] w9 fun e w' => ∃ a c, e = .returned (.tuple #[.slice a m c, .bool (decide ((m : Int) < (l.length : Int)))]) ∧ Rw 29 encP 2 w' (.slice a m c) (l.take m) ∧ (∀ g, (Value.slice a m c).ownBlock = some g → w9.heap.size ≤ g) ∧ Keep [H] w9 w' ∧ Ls H B2 B3 (.slice ao l.length cap) l (a0 + 1) (a1 + 1) (a2 + min (m + 1) l.length) w') := fun B2 B3 a0 a1 a2 w9 hL b0 b1 b2 => by
    refine (gather_any most w9 hL (by have := HLl.out; omega) ⟨by omega, by omega, b2⟩ ⟨HK.out.2, HK.out.1⟩).mono ?_
    rintro e w' ⟨v, rfl, r, g, k, q⟩
    rw [HT.out] at r
    rw [HS.out] at q
    rw [HD.out]
    obtain ⟨a, c, rfl, _, _⟩ := (r.rd encP_len).form
    rw [HmL.out] at r g ⊢
    exact ⟨a, c, rfl, r, g, k, q⟩
  have hmx : (if most < 0 then (0 : Int) else most) = (m : Int) := hmx0
  clear h0 hl hk hmx0
  clear hown
  go_enter Try.func5, Try.ntmps5
  go_wp2_with fail
  rw [← HH.out]
  refine (HLs.out _).mono ?_
  rintro e w3 ⟨rfl, hw3⟩
  simp only [World.size_alloc, ← HH.out, Nat.add_assoc, Nat.reduceAdd]
  have HL3 : Hid (Ls H (H + 1) (H + 2) (.slice ao l.length cap) l 0 0 0 w3 ∧ Keep [] w w3) := by
    have ks := Keep.alloc1 w (.cells #[.int .i64 0, .int .i64 0, .int .i64 0] 54)
    have h1 := Ls.new (W := w.alloc (.cells #[.int .i64 0, .int .i64 0, .int .i64 0] 54)) (s0 := H) (v := .slice ao l.length cap) (l := l) (a0 := 0) (a1 := 0) (a2 := 0) (by rw [HH.out]; exact heap_alloc_new _ _) (HV.out.keep ks (Off.nil _)) (fun k hk hl => by rw [HH.out]; exact HOw.out k hk hl)
    rw [← hw3, World.size_alloc, ← HH.out] at h1
    exact ⟨h1, by rw [hw3]; exact (ks.alloc _).alloc _⟩
  clear hw3
  go_wp2_with (go_at_call 29; refine (HGa.out _ _ _ _ _ _ HL3.out.1 (by omega) (by omega) (by omega)).mono ?_; rintro e w5 ⟨a1, c1, rfl, r1, g1, k1, l1⟩)
  have HG1 : Hid (Rw 29 encP 2 w5 (.slice a1 m c1) (l.take m) ∧ (∀ g, (Value.slice a1 m c1).ownBlock = some g → w.heap.size ≤ g ∧ g ≠ H) ∧ Keep [] w w5 ∧ Ls H (H + 1) (H + 2) (.slice ao l.length cap) l 1 1 (min (m + 1) l.length) w5) := ⟨r1, fun g hg => by have h2 := g1 g hg; have h3 := (Array.getElem?_eq_some_iff.1 HL3.out.1.sn).1; have := HL3.out.2.size; omega, HL3.out.2.more k1 (fun x hx => .inr (by simp at hx; rw [hx, HH.out]; omega)), by simpa using l1⟩
  clear r1 g1 k1 l1 HL3
  by_cases hlt : m < l.length
  · have HMin : Hid (min (m + 1) l.length = m + 1) := by show _ = _; omega
    have hlti : (m : Int) < (l.length : Int) := by omega
    have hle1 : (m : Int) + 1 ≤ (l.length : Int) := by omega
    refine (HSa.out _ _ _ (HG1.out.1.rd encP_len) ((HV.out.keep HG1.out.2.2.1 (Off.nil _)).first m HMl.out)).mono ?_
    rintro e w6 ⟨rfl, k6⟩
    have HK6 : Hid (type_of% k6) := k6
    obtain ⟨s0', s1', s2'⟩ := (HG1.out.2.2.2.keep0 k6).cells
    have t0 : w6.cell? ⟨H, 0, none⟩ = some (.int .i64 1) := s0'
    have t1 : w6.cell? ⟨H, 1, none⟩ = some (.int .i64 1) := s1'
    have t2 : w6.cell? ⟨H, 2, none⟩ = some (.int .i64 ((m : Int) + 1)) := by rw [s2', HMin.out]; rfl
    clear s0' s1' s2' k6
    go_wp2_with fail
    clear t0 t1 t2
    refine (HLs.out _).mono ?_
    rintro e w7 ⟨rfl, hw7⟩
    have HK06 : Hid (Keep [] w w6) := HG1.out.2.2.1.more HK6.out (by simp)
    have HL7 : Hid (Ls H w6.heap.size (w6.heap.size + 1) (.slice ao l.length cap) l 1 1 (min (m + 1) l.length) w7 ∧ Keep [] w6 w7) := by
      rw [hw7]
      exact ⟨Ls.new (HG1.out.2.2.2.keep0 HK6.out).sn (HV.out.keep HK06.out (Off.nil _)) HG1.out.2.2.2.off, (Keep.alloc1 _ _).alloc _⟩
    clear hw7
    go_wp2_with (go_at_call 29; refine (HGa.out _ _ _ _ _ _ HL7.out.1 (by omega) (by omega) (by have := HLl.out; omega)).mono ?_; rintro e w9 ⟨a2, c2, rfl, r2, g2, k2, l2⟩)
    have sz6 := HK06.out.size
    have sz7 := HL7.out.2.size
    have sz5 := HK6.out.size
    have Kw9 : Keep [] w w9 := (HK06.out.more HL7.out.2 (by simp)).more k2 (fun x hx => .inr (by simp at hx; rw [hx, HH.out]; omega))
    have u1 : Rw 29 encP 2 w9 (.slice a1 m c1) (l.take m) := ((HG1.out.1.keep HK6.out (Off.nil _)).keep HL7.out.2 (Off.nil _)).keep k2 (fun k hk hm => by simp at hm; exact (HG1.out.2.1 k hk).2 hm)
    have u3 : Rd encP 2 w9 (.slice ao m cap) (l.take m) := (HV.out.keep Kw9 (Off.nil _)).first m HMl.out
    have lne : l.take m ≠ [] → l ≠ [] := fun h e => h (by rw [e]; simp)
    have o12 : Off (.slice a1 m c1) (Value.slice a2 m c2).ownBlock.toList := fun k hk hm => by have h1 := HG1.out.1.lt k hk; have h2 := g2 k (by simpa using hm); omega
    have o1 : l.take m ≠ [] → Off (.slice ao m cap) (Value.slice a1 m c1).ownBlock.toList := fun hl k hk hm => by have h1 := HOw.out k (by rw [own_len ao l.length m cap cap]; exact hk) (lne hl); have h2 := (HG1.out.2.1 k (by simpa using hm)).1; omega
    have o2 : l.take m ≠ [] → Off (.slice ao m cap) (Value.slice a2 m c2).ownBlock.toList := fun hl k hk hm => by have h1 := HOw.out k (by rw [own_len ao l.length m cap cap]; exact hk) (lne hl); have h2 := g2 k (by simpa using hm); omega
    have ob : (l.take m).length ≤ 8796093021952 := by rw [HmL.out]; have := HMl.out; have := HLl.out; omega
    have hap := apart_any (.slice a1 m c1) (.slice a2 m c2) (.slice ao m cap) (l.take m) (l.take m) w9 u1 r2 u3 o12 o1 o2 rfl ob
    have HAp : Hid (type_of% hap) := hap
    clear o12 o1 o2 ob hap
    refine HAp.out.mono ?_
    rintro e w10 ⟨rfl, k10⟩
    have HK10 : Hid (Keep [] w w10) := Kw9.more k10 (fun x hx => .inr (by
      rcases List.mem_append.1 hx with h1 | h1
      · exact (HG1.out.2.1 x (by simpa using h1)).1
      · have := g2 x (by simpa using h1); omega))
    clear Kw9 k10 u1 u3 r2 g2 k2 l2 HAp
    go_wp2_with (go_at_call 23; refine (HAw.out _).mono ?_; rintro e w11 ⟨rfl, k11⟩)
    go_ret
    exact ⟨rfl, HK10.out.more k11 (by simp)⟩
  · obtain rfl : m = l.length := by omega
    have HMin : Hid (min (l.length + 1) l.length = l.length) := by show _ = _; omega
    have hnl1 : (l.length : Int) < (l.length : Int) + 1 := by omega
    refine (HSa.out _ _ _ (HG1.out.1.rd encP_len) ((HV.out.keep HG1.out.2.2.1 (Off.nil _)).first l.length HMl.out)).mono ?_
    rintro e w6 ⟨rfl, k6⟩
    have HK6 : Hid (type_of% k6) := k6
    obtain ⟨s0', s1', s2'⟩ := (HG1.out.2.2.2.keep0 k6).cells
    have t0 : w6.cell? ⟨H, 0, none⟩ = some (.int .i64 1) := s0'
    have t1 : w6.cell? ⟨H, 1, none⟩ = some (.int .i64 1) := s1'
    have t2 : w6.cell? ⟨H, 2, none⟩ = some (.int .i64 ((l.length : Int))) := by rw [s2', HMin.out]
    clear s0' s1' s2' k6
    go_wp2_with fail
    clear t0 t1 t2
    refine (HLs.out _).mono ?_
    rintro e w7 ⟨rfl, hw7⟩
    have HK06 : Hid (Keep [] w w6) := HG1.out.2.2.1.more HK6.out (by simp)
    have HL7 : Hid (Ls H w6.heap.size (w6.heap.size + 1) (.slice ao l.length cap) l 1 1 (min (l.length + 1) l.length) w7 ∧ Keep [] w6 w7) := by
      rw [hw7]
      exact ⟨Ls.new (HG1.out.2.2.2.keep0 HK6.out).sn (HV.out.keep HK06.out (Off.nil _)) HG1.out.2.2.2.off, (Keep.alloc1 _ _).alloc _⟩
    clear hw7
    go_wp2_with (go_at_call 29; refine (HGa.out _ _ _ _ _ _ HL7.out.1 (by omega) (by omega) (by have := HLl.out; omega)).mono ?_; rintro e w9 ⟨a2, c2, rfl, r2, g2, k2, l2⟩)
    have sz6 := HK06.out.size
    have sz7 := HL7.out.2.size
    have sz5 := HK6.out.size
    have Kw9 : Keep [] w w9 := (HK06.out.more HL7.out.2 (by simp)).more k2 (fun x hx => .inr (by simp at hx; rw [hx, HH.out]; omega))
    have u1 : Rw 29 encP 2 w9 (.slice a1 l.length c1) (l.take l.length) := ((HG1.out.1.keep HK6.out (Off.nil _)).keep HL7.out.2 (Off.nil _)).keep k2 (fun k hk hm => by simp at hm; exact (HG1.out.2.1 k hk).2 hm)
    have u3 : Rd encP 2 w9 (.slice ao l.length cap) (l.take l.length) := (HV.out.keep Kw9 (Off.nil _)).first l.length HMl.out
    have lne : l.take l.length ≠ [] → l ≠ [] := fun h e => h (by rw [e]; simp)
    have o12 : Off (.slice a1 l.length c1) (Value.slice a2 l.length c2).ownBlock.toList := fun k hk hm => by have h1 := HG1.out.1.lt k hk; have h2 := g2 k (by simpa using hm); omega
    have o1 : l.take l.length ≠ [] → Off (.slice ao l.length cap) (Value.slice a1 l.length c1).ownBlock.toList := fun hl k hk hm => by have h1 := HOw.out k (by rw [own_len ao l.length l.length cap cap]; exact hk) (lne hl); have h2 := (HG1.out.2.1 k (by simpa using hm)).1; omega
    have o2 : l.take l.length ≠ [] → Off (.slice ao l.length cap) (Value.slice a2 l.length c2).ownBlock.toList := fun hl k hk hm => by have h1 := HOw.out k (by rw [own_len ao l.length l.length cap cap]; exact hk) (lne hl); have h2 := g2 k (by simpa using hm); omega
    have ob : (l.take l.length).length ≤ 8796093021952 := by rw [HmL.out]; have := HMl.out; have := HLl.out; omega
    have hap := apart_any (.slice a1 l.length c1) (.slice a2 l.length c2) (.slice ao l.length cap) (l.take l.length) (l.take l.length) w9 u1 r2 u3 o12 o1 o2 rfl ob
    have HAp : Hid (type_of% hap) := hap
    clear o12 o1 o2 ob hap
    refine HAp.out.mono ?_
    rintro e w10 ⟨rfl, k10⟩
    have HK10 : Hid (Keep [] w w10) := Kw9.more k10 (fun x hx => .inr (by
      rcases List.mem_append.1 hx with h1 | h1
      · exact (HG1.out.2.1 x (by simpa using h1)).1
      · have := g2 x (by simpa using h1); omega))
    clear Kw9 k10 u1 u3 r2 g2 k2 l2 HAp
    go_wp2_with (go_at_call 23; refine (HAw.out _).mono ?_; rintro e w11 ⟨rfl, k11⟩)
    go_ret
    exact ⟨rfl, HK10.out.more k11 (by simp)⟩

set_option maxRecDepth 100000 in
set_option maxHeartbeats 8000000 in
theorem gathers2 (v0 : Value) (l : List Pr) (most : Int) (hmx0 : (l.length : Int) < most) (w : World) (h0 : Rd encP 2 w v0 l) (hob : ∀ k, v0.ownBlock = some k → l ≠ [] → k < w.heap.size) (hl : l.length ≤ 8796093021952) (hk : -9223372036854775808 ≤ most ∧ most ≤ 9223372036854775807) :
    Calls Try.prog 5 #[v0, .int .i64 most] w fun e w' => e = .returned (.bool true) ∧ Keep [] w w' := by
  obtain ⟨ao, cap, rfl, hc1, hc2⟩ := h0.form
  have hown : ∀ k, (Value.slice ao l.length cap).ownBlock = some k → l ≠ [] → k < w.heap.size := hob
  clear hob
  obtain ⟨H, HH⟩ : ∃ H : Nat, Hid (H = w.heap.size) := ⟨_, show _ = _ from rfl⟩
  have HV : Hid (Rd encP 2 w (.slice ao l.length cap) l) := h0
  have HLl : Hid (l.length ≤ 8796093021952) := hl
  have HK : Hid (-9223372036854775808 ≤ most ∧ most ≤ 9223372036854775807) := hk
  have hlz : (l.length : Int) ≤ 8796093021952 := by omega
  have hl0 : (0 : Int) ≤ (l.length : Int) := by omega
  have HMm : Hid (l.length = min most.toNat l.length) := by
    show _ = _
    omega
  have HT : Hid (l.take most.toNat = l.take l.length) := by
    show _ = _
    rw [HMm.out]
    simp [List.take_eq_take_iff]
  have HMl : Hid (l.length ≤ l.length) := by show _ ≤ _; rw [HMm.out]; omega
  have HD : Hid (decide (most.toNat < l.length) = decide ((l.length : Int) < (l.length : Int))) := by
    show _ = _
    have := HMm.out
    apply decide_eq_decide.2
    omega
  have HS : Hid (min (most.toNat + 1) l.length = min (l.length + 1) l.length) := by show _ = _; have := HMm.out; omega
  have HmL : Hid ((l.take l.length).length = l.length) := by show _ = _; rw [List.length_take]; have := HMl.out; omega
  have hml : (l.length : Int) ≤ (l.length : Int) := by have := HMl.out; omega
  have hm0 : (0 : Int) ≤ (l.length : Int) := by omega
  have HLs : Hid (∀ w9, Calls Try.prog 30 #[.slice ao l.length cap, .pointer (some ⟨H, 0, none⟩)] w9 fun e w' => e = .returned (vLs (w9.heap.size + 1) w9.heap.size) ∧ w' = (w9.alloc (.cells #[.slice ao l.length cap] 25)).alloc (.cells #[.pointer (some ⟨H, 0, none⟩)] 57)) := fun w9 => list_any ao l.length cap H w9
  have HAw : Hid (∀ w9, Calls Try.prog 23 #[] w9 fun e w' => e = .returned (.bool true) ∧ Keep [] w9 w') := fun w9 => awake_any w9
  have HSa : Hid (∀ v v2 w9, Rd encP 2 w9 v (l.take l.length) → Rd encP 2 w9 v2 (l.take l.length) → Calls Try.prog 20 #[v, v2] w9 fun e w' => e = .returned (.bool true) ∧ Keep [] w9 w') := fun v v2 w9 h1 h2 => rSame_yes v v2 _ w9 h1 h2 (by rw [HmL.out]; have := HMl.out; have := HLl.out; omega)
  have HOw : Hid (∀ k, (Value.slice ao l.length cap).ownBlock = some k → l ≠ [] → k < w.heap.size) := hown
  have HGa : Hid (∀ B2 B3 a0 a1 a2 w9, Ls H B2 B3 (.slice ao l.length cap) l a0 a1 a2 w9 → a0 ≤ 1000 → a1 ≤ 1000 → a2 ≤ 1000000000000000 → Calls Try.prog 29 #[vLs B3 B2, .int .i64 most] w9 fun e w' => ∃ a c, e = .returned (.tuple #[.slice a l.length c, .bool (decide ((l.length : Int) < (l.length : Int)))]) ∧ Rw 29 encP 2 w' (.slice a l.length c) (l.take l.length) ∧ (∀ g, (Value.slice a l.length c).ownBlock = some g → w9.heap.size ≤ g) ∧ Keep [H] w9 w' ∧ Ls H B2 B3 (.slice ao l.length cap) l (a0 + 1) (a1 + 1) (a2 + min (l.length + 1) l.length) w') := fun B2 B3 a0 a1 a2 w9 hL b0 b1 b2 => by
    refine (gather_any most w9 hL (by have := HLl.out; omega) ⟨by omega, by omega, b2⟩ ⟨HK.out.2, HK.out.1⟩).mono ?_
    rintro e w' ⟨v, rfl, r, g, k, q⟩
    rw [HT.out] at r
    rw [HS.out] at q
    rw [HD.out]
    obtain ⟨a, c, rfl, _, _⟩ := (r.rd encP_len).form
    rw [HmL.out] at r g ⊢
    exact ⟨a, c, rfl, r, g, k, q⟩
  have hmx : ¬ most < 0 := by omega
  have hmx2 : (l.length : Int) < most := hmx0
  have hmx3 : (if most < 0 then (0 : Int) else most) = most := if_neg hmx
  clear h0 hl hk hmx0
  clear hown
  go_enter Try.func5, Try.ntmps5
  go_wp2_with fail
  rw [← HH.out]
  refine (HLs.out _).mono ?_
  rintro e w3 ⟨rfl, hw3⟩
  simp only [World.size_alloc, ← HH.out, Nat.add_assoc, Nat.reduceAdd]
  have HL3 : Hid (Ls H (H + 1) (H + 2) (.slice ao l.length cap) l 0 0 0 w3 ∧ Keep [] w w3) := by
    have ks := Keep.alloc1 w (.cells #[.int .i64 0, .int .i64 0, .int .i64 0] 54)
    have h1 := Ls.new (W := w.alloc (.cells #[.int .i64 0, .int .i64 0, .int .i64 0] 54)) (s0 := H) (v := .slice ao l.length cap) (l := l) (a0 := 0) (a1 := 0) (a2 := 0) (by rw [HH.out]; exact heap_alloc_new _ _) (HV.out.keep ks (Off.nil _)) (fun k hk hl => by rw [HH.out]; exact HOw.out k hk hl)
    rw [← hw3, World.size_alloc, ← HH.out] at h1
    exact ⟨h1, by rw [hw3]; exact (ks.alloc _).alloc _⟩
  clear hw3
  go_wp2_with (go_at_call 29; refine (HGa.out _ _ _ _ _ _ HL3.out.1 (by omega) (by omega) (by omega)).mono ?_; rintro e w5 ⟨a1, c1, rfl, r1, g1, k1, l1⟩)
  have HG1 : Hid (Rw 29 encP 2 w5 (.slice a1 l.length c1) (l.take l.length) ∧ (∀ g, (Value.slice a1 l.length c1).ownBlock = some g → w.heap.size ≤ g ∧ g ≠ H) ∧ Keep [] w w5 ∧ Ls H (H + 1) (H + 2) (.slice ao l.length cap) l 1 1 (min (l.length + 1) l.length) w5) := ⟨r1, fun g hg => by have h2 := g1 g hg; have h3 := (Array.getElem?_eq_some_iff.1 HL3.out.1.sn).1; have := HL3.out.2.size; omega, HL3.out.2.more k1 (fun x hx => .inr (by simp at hx; rw [hx, HH.out]; omega)), by simpa using l1⟩
  clear r1 g1 k1 l1 HL3
  have HMin : Hid (min (l.length + 1) l.length = l.length) := by show _ = _; omega
  have hnl1 : (l.length : Int) < (l.length : Int) + 1 := by omega
  refine (HSa.out _ _ _ (HG1.out.1.rd encP_len) ((HV.out.keep HG1.out.2.2.1 (Off.nil _)).first l.length HMl.out)).mono ?_
  rintro e w6 ⟨rfl, k6⟩
  have HK6 : Hid (type_of% k6) := k6
  obtain ⟨s0', s1', s2'⟩ := (HG1.out.2.2.2.keep0 k6).cells
  have t0 : w6.cell? ⟨H, 0, none⟩ = some (.int .i64 1) := s0'
  have t1 : w6.cell? ⟨H, 1, none⟩ = some (.int .i64 1) := s1'
  have t2 : w6.cell? ⟨H, 2, none⟩ = some (.int .i64 ((l.length : Int))) := by rw [s2', HMin.out]
  clear s0' s1' s2' k6
  go_wp2_with fail
  clear t0 t1 t2
  refine (HLs.out _).mono ?_
  rintro e w7 ⟨rfl, hw7⟩
  have HK06 : Hid (Keep [] w w6) := HG1.out.2.2.1.more HK6.out (by simp)
  have HL7 : Hid (Ls H w6.heap.size (w6.heap.size + 1) (.slice ao l.length cap) l 1 1 (min (l.length + 1) l.length) w7 ∧ Keep [] w6 w7) := by
    rw [hw7]
    exact ⟨Ls.new (HG1.out.2.2.2.keep0 HK6.out).sn (HV.out.keep HK06.out (Off.nil _)) HG1.out.2.2.2.off, (Keep.alloc1 _ _).alloc _⟩
  clear hw7
  go_wp2_with (go_at_call 29; refine (HGa.out _ _ _ _ _ _ HL7.out.1 (by omega) (by omega) (by have := HLl.out; omega)).mono ?_; rintro e w9 ⟨a2, c2, rfl, r2, g2, k2, l2⟩)
  have sz6 := HK06.out.size
  have sz7 := HL7.out.2.size
  have sz5 := HK6.out.size
  have Kw9 : Keep [] w w9 := (HK06.out.more HL7.out.2 (by simp)).more k2 (fun x hx => .inr (by simp at hx; rw [hx, HH.out]; omega))
  have u1 : Rw 29 encP 2 w9 (.slice a1 l.length c1) (l.take l.length) := ((HG1.out.1.keep HK6.out (Off.nil _)).keep HL7.out.2 (Off.nil _)).keep k2 (fun k hk hm => by simp at hm; exact (HG1.out.2.1 k hk).2 hm)
  have u3 : Rd encP 2 w9 (.slice ao l.length cap) (l.take l.length) := (HV.out.keep Kw9 (Off.nil _)).first l.length HMl.out
  have lne : l.take l.length ≠ [] → l ≠ [] := fun h e => h (by rw [e]; simp)
  have o12 : Off (.slice a1 l.length c1) (Value.slice a2 l.length c2).ownBlock.toList := fun k hk hm => by have h1 := HG1.out.1.lt k hk; have h2 := g2 k (by simpa using hm); omega
  have o1 : l.take l.length ≠ [] → Off (.slice ao l.length cap) (Value.slice a1 l.length c1).ownBlock.toList := fun hl k hk hm => by have h1 := HOw.out k (by rw [own_len ao l.length l.length cap cap]; exact hk) (lne hl); have h2 := (HG1.out.2.1 k (by simpa using hm)).1; omega
  have o2 : l.take l.length ≠ [] → Off (.slice ao l.length cap) (Value.slice a2 l.length c2).ownBlock.toList := fun hl k hk hm => by have h1 := HOw.out k (by rw [own_len ao l.length l.length cap cap]; exact hk) (lne hl); have h2 := g2 k (by simpa using hm); omega
  have ob : (l.take l.length).length ≤ 8796093021952 := by rw [HmL.out]; have := HMl.out; have := HLl.out; omega
  have hap := apart_any (.slice a1 l.length c1) (.slice a2 l.length c2) (.slice ao l.length cap) (l.take l.length) (l.take l.length) w9 u1 r2 u3 o12 o1 o2 rfl ob
  have HAp : Hid (type_of% hap) := hap
  clear o12 o1 o2 ob hap
  refine HAp.out.mono ?_
  rintro e w10 ⟨rfl, k10⟩
  have HK10 : Hid (Keep [] w w10) := Kw9.more k10 (fun x hx => .inr (by
    rcases List.mem_append.1 hx with h1 | h1
    · exact (HG1.out.2.1 x (by simpa using h1)).1
    · have := g2 x (by simpa using h1); omega))
  clear Kw9 k10 u1 u3 r2 g2 k2 l2 HAp
  go_wp2_with (go_at_call 23; refine (HAw.out _).mono ?_; rintro e w11 ⟨rfl, k11⟩)
  go_ret
  exact ⟨rfl, HK10.out.more k11 (by simp)⟩

theorem gathers_law (v0 : Value) (l : List Pr) (most : Int) (w : World) (h0 : Rd encP 2 w v0 l) (hob : ∀ k, v0.ownBlock = some k → l ≠ [] → k < w.heap.size) (hl : l.length ≤ 8796093021952) (hk : -9223372036854775808 ≤ most ∧ most ≤ 9223372036854775807) :
    Calls Try.prog 5 #[v0, .int .i64 most] w fun e w' => e = .returned (.bool true) ∧ Keep [] w w' := by
  by_cases h : most ≤ (l.length : Int)
  · refine gathers1 v0 l most most.toNat ?_ (by omega) w h0 hob hl hk
    split <;> omega
  · exact gathers2 v0 l most (by omega) w h0 hob hl hk

end Go.Proofs.Ytkelhglflpdpeaa
