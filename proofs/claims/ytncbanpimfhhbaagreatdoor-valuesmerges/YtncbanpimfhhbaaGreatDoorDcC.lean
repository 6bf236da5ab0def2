/- Encode: a value's bytes. -/
import Derived.Test.YtncbanpimfhhbaaGreatDoorDcB
import Derived.Test.YtncbanpimfhhbaaGreatDoorOrdV
namespace Go.Proofs.YtncbanpimfhhbaaGreatDoor
open Go.RowKit Go.PlainAid Go.Lib

theorem may_short (p : VD) (h : p.mayB = true) : p.text.size ≤ 256 ∧ p.texts.length ≤ 32 ∧ ∀ s ∈ p.texts, s.size ≤ 256 := by
  unfold VD.mayB at h
  simp only [Bool.and_eq_true] at h
  have h2 := h.2
  unfold VD.shortB at h2
  simp only [Bool.and_eq_true, decide_eq_true_eq, Bool.not_eq_true'] at h2
  refine ⟨h2.1.1, h2.1.2, fun s hs => ?_⟩
  have h3 := h2.2
  unfold longB at h3
  rw [List.any_eq_false] at h3
  have := h3 s hs
  simp at this
  omega

/-- held and write together: what stands behind the kind is written -/
theorem hw_any (x : VD) (hx : x.Ok) (hm : x.mayB = true) (u : Value) (w : World) (hu : Ts w u x.texts) :
    ∃ T V, (∀ w1, Keep [] w w1 → Calls Tryz.prog 58 #[x.val u] w1 fun e w' => e = .returned (.iface T V) ∧ Keep [] w1 w') ∧
      ∀ (b o : Nat) (l : List UInt8) (rb : Option Nat) (w1 : World), Wr w1 b o l rb → Ts w1 u x.texts → (x.texts ≠ [] → Off u (b :: rb.toList)) → l.length ≤ 1000 →
        Calls Tryz.prog 66 #[.pointer (some ⟨b, o, none⟩), .iface T V] w1 fun e w' => e = .returned (.tuple #[]) ∧ Wrote w1 w' b o l (bodyL x) rb := by
  obtain ⟨h1, h2, h3⟩ := may_short x hm
  have hk := may_kind x hm
  have hc : x.kind = 1 ∨ x.kind = 2 ∨ x.kind = 3 ∨ x.kind = 4 ∨ x.kind = 5 := by omega
  have hs : ∃ a n c, u = .slice a n c := by
    obtain ⟨ao, ca, rfl, _⟩ := hu.ex
    exact ⟨ao, _, ca, rfl⟩
  unfold bodyL
  rcases hc with h | h | h | h | h
  · rw [if_pos h]
    exact ⟨4, _, fun w1 _ => held_1 x h u hs w1, fun b o l rb w1 hw _ _ hn => write_1 b o l rb x.bool w1 hw hn⟩
  · rw [if_neg (by omega), if_pos h]
    exact ⟨2, _, fun w1 _ => held_2 x h u hs w1, fun b o l rb w1 hw _ _ hn => write_2 b o l rb x.int hx.int0 hx.int1 w1 hw hn⟩
  · rw [if_neg (by omega), if_neg (by omega), if_pos h]
    exact ⟨28, _, fun w1 _ => held_3 x h u hs w1, fun b o l rb w1 hw _ _ hn => write_3 b o l rb x.real hx.real1 w1 hw hn⟩
  · rw [if_neg (by omega), if_neg (by omega), if_neg (by omega), if_pos h]
    exact ⟨9, _, fun w1 _ => held_4 x h u hs w1, fun b o l rb w1 hw _ _ hn => write_4 b o l rb x.text h1 w1 hw hn⟩
  · rw [if_neg (by omega), if_neg (by omega), if_neg (by omega), if_neg (by omega)]
    exact ⟨29, u, fun w1 _ => held_5 x h u hs w1, fun b o l rb w1 hw hT ho hn => write_5 b o l rb u x.texts w1 hw hT ho hn h2 h3⟩

theorem body_len (x : VD) (hx : x.Ok) (hm : x.mayB = true) : (bodyL x).length ≤ 8800 := by
  obtain ⟨h1, h2, h3⟩ := may_short x hm
  have e1 := uvarint_length64 (zigzag_lt hx.int0 hx.int1)
  have e2 := uvarint_length64 (x := x.texts.length) (by omega)
  have e3 := textB_len x.text h1
  have e4 := textsB_len x.texts h3
  unfold bodyL
  (repeat' split) <;> (try simp only [List.length_append, List.length_cons, List.length_nil]) <;> (try omega)
  simp [four]

theorem Ts.blt {w : World} {v : Value} {l : List ByteArray} (h : Ts w v l) (hl : l ≠ []) : ∀ k, v.ownBlock = some k → k < w.heap.size := by
  obtain ⟨ao, cap, rfl, _, _, _, h4⟩ := h.ex
  obtain ⟨b, o, rfl, hc⟩ := h4 hl
  intro k hk
  simp [Value.ownBlock] at hk
  subst hk
  have h0 : 0 < l.length := List.length_pos_iff.2 hl
  exact World.block_lt_of_cell? w _ (hc 0 h0)

theorem six_cells {F : List Nat} {w w1 : World} {v0 v1 v2 v3 v4 v5 : Value} {t : TypeId} (k : Keep F (w.alloc (.cells #[v0, v1, v2, v3, v4, v5] t)) w1) (hn : w.heap.size ∉ F) :
    (w1.cell? ⟨w.heap.size, 0, none⟩ = some v0 ∧ w1.cell? ⟨w.heap.size, 1, none⟩ = some v1 ∧ w1.cell? ⟨w.heap.size, 2, none⟩ = some v2 ∧ w1.cell? ⟨w.heap.size, 3, none⟩ = some v3 ∧ w1.cell? ⟨w.heap.size, 4, none⟩ = some v4 ∧ w1.cell? ⟨w.heap.size, 5, none⟩ = some v5) ∧ ∀ j, w1.frozen? ⟨w.heap.size, j, none⟩ = false := by
  refine ⟨⟨k.cell' ?_ hn, k.cell' ?_ hn, k.cell' ?_ hn, k.cell' ?_ hn, k.cell' ?_ hn, k.cell' ?_ hn⟩, fun j => ?_⟩
  case refine_7 => rw [k.frozen (by simp) hn]; simp [go_sem]
  all_goals simp [go_sem]

set_option maxRecDepth 1000000 in
set_option maxHeartbeats 400000 in
theorem encode_yes (x : VD) (hx : x.Ok) (hm : x.mayB = true) (u : Value) (w : World) (hu : Ts w u x.texts) :
    Calls Tryz.prog 32 #[x.val u] w fun e w' => ∃ v, e = .returned (.tuple #[v, .int .i64 0]) ∧ (Row w' v (encL x) ∧ Fresh w w' v ∧ Sl v (encL x).length) ∧ Keep [] w w' := by
  have hk := may_kind x hm
  have hbl := body_len x hx hm
  obtain ⟨T, V, hH, hWr⟩ := hw_any x hx hm u w hu
  have hC := fun w1 (k : Keep [] w w1) => check_yes x hx u w1 (hu.keep k (Off.nil _)) hm
  have HU : Hid (Ts w u x.texts) := hu
  obtain ⟨n, hn⟩ : ∃ n : Nat, x.kind = (n : Int) := ⟨x.kind.toNat, by omega⟩
  have HE : Hid (encL x = [n.toUInt8] ++ bodyL x) := show encL x = [n.toUInt8] ++ bodyL x by unfold encL; rw [hn]; rfl
  have hn5 : n ≤ 5 := by omega
  obtain ⟨ao, ca, rfl, _, _, _, _⟩ := hu.ex
  have HH : Hid _ := hH
  have HWr : Hid _ := hWr
  have HCk : Hid _ := hC
  have HNk : Hid (x.kind = (n : Int)) := hn
  have hni : (n : Int) ≤ 5 := by omega
  have hw8 : IntKind.u8.wrap (n : Int) = (n : Int) := by rw [IntKind.wrap_u8]; omega
  clear hu hk hx hm hH hWr hC hn hn5
  have K0 : Hid (Keep [] w (w.alloc (x.blk (.slice ao x.texts.length ca)))) := Keep.alloc1 w _
  have HB : Hid ((bodyL x).length ≤ 8800) := hbl
  clear hbl
  go_enter Tryz.func32, Tryz.ntmps32
  go_wp2_with fail
  refine (HCk.out _ K0.out).mono ?_
  rintro e9 w1 ⟨rfl, k1⟩
  obtain ⟨⟨c0, c1, c2, c3, c4, c5⟩, _⟩ := six_cells k1 (by simp)
  rw [HNk.out] at c0
  have HK1 : Hid (Keep [] (w.alloc (x.blk (.slice ao x.texts.length ca))) w1) := k1
  clear HCk k1
  have hq : w.heap.size < w1.heap.size := by have := HK1.out.size; simp at this; omega
  have HQ : Hid (w.heap.size < w1.heap.size) := hq
  have kz : Keep [] w1 (w1.alloc (.cells #[.slice none 0 0] 97)) := Keep.alloc1 w1 _
  have d0 := kz.cell' c0 (by simp)
  have HZ : Hid (Wr (w1.alloc (.cells #[.slice none 0 0] 97)) w1.heap.size 0 [] none ∧ Keep [] (w.alloc (x.blk (.slice ao x.texts.length ca))) (w1.alloc (.cells #[.slice none 0 0] 97))) := ⟨Wr.zero _ _ _ (by simp) (by simp), HK1.out.trans' kz⟩
  have hB := wByte_any w1.heap.size 0 [] none n (by omega) _ HZ.out.1 (by simp)
  clear kz c0 c1 c2 c3 c4 c5 HK1
  go_wp2_with fail
  refine hB.mono ?_
  rintro e9 w2 ⟨rfl, rb2, b1, b2, b3⟩
  have K2 : Keep [w1.heap.size] (w.alloc (x.blk (.slice ao x.texts.length ca))) w2 := (HZ.out.2.mono (fun _ h => by cases h)).trans' (by simpa using b2)
  have HK2 : Hid (Keep [] w w2) := K0.out.more K2 (fun y hy => .inr (by simp at hy; omega))
  obtain ⟨⟨c0, c1, c2, c3, c4, c5⟩, _⟩ := six_cells K2 (by simp; omega)
  have HW2 : Hid (Wr w2 w1.heap.size 0 [n.toUInt8] rb2 ∧ (∀ k, rb2 = some k → w1.heap.size ≤ k)) := ⟨by simpa using b1, fun k hk => by
    rcases b3 with h | h
    · rw [h] at hk; cases hk
    · have := (h k hk).1; simp at this; omega⟩
  clear b1 b2 b3 K2 hB d0 HZ hq
  go_wp2_with fail
  refine (HH.out _ HK2.out).mono ?_
  rintro e9 w3 ⟨rfl, k3⟩
  have HK3 : Hid (Keep [] w w3) := HK2.out.trans' k3
  have hW3 := HWr.out w1.heap.size 0 [n.toUInt8] rb2 w3 (HW2.out.1.keep k3 (by simp) (fun _ _ => by simp)) (HU.out.keep HK3.out (Off.nil _)) (fun hne k hk hmem => by
    have h1 := HU.out.blt hne k hk
    have h2 := HQ.out
    rcases List.mem_cons.1 hmem with h | h
    · omega
    · have := HW2.out.2 k (by simpa using h)
      omega) (by simp)
  clear k3 HWr HH HK2 c0 c1 c2 c3 c4 c5
  go_wp2_with fail
  refine hW3.mono ?_
  rintro e9 w4 ⟨rfl, rb4, g1, g2, g3⟩
  have HK4 : Hid (Keep [] w w4) := HK3.out.more g2 (fun y hy => .inr (by
    have h2 := HQ.out
    rcases List.mem_cons.1 hy with h | h
    · omega
    · have := HW2.out.2 y (by simpa using h)
      omega))
  have hY := wBytes_any w1.heap.size 0 ([n.toUInt8] ++ bodyL x) rb4 w4 g1 (by have := HB.out; simp; omega)
  clear g1 g2 g3 hW3 HW2 HK3
  go_wp2_with fail
  refine hY.mono ?_
  rintro e9 w5 ⟨v, rfl, y1, y2, y3, y4⟩
  have HF : Hid ((Row w5 v (encL x) ∧ Fresh w w5 v ∧ Sl v (encL x).length) ∧ Keep [] w w5) := by
    show (Row w5 v (encL x) ∧ Fresh w w5 v ∧ Sl v (encL x).length) ∧ Keep [] w w5
    rw [HE.out]
    exact ⟨⟨y1, y2.earlier HK4.out.size, y4⟩, HK4.out.trans' y3⟩
  obtain ⟨a9, c9, rfl⟩ := y4
  clear y1 y2 y3 hY HK4
  go_wp2
  go_ret2
  exact ⟨_, rfl, HF.out⟩
theorem encode_no (x : VD) (hx : x.Ok) (hm : x.mayB = false) (u : Value) (w : World) (hu : Ts w u x.texts) :
    Calls Tryz.prog 32 #[x.val u] w fun e w' => e = .returned (.tuple #[.slice none 0 0, .int .i64 40]) ∧ Keep [] w w' := by
  have hC := fun w1 (k : Keep [] w w1) => check_no x hx u w1 (hu.keep k (Off.nil _)) hm
  obtain ⟨ao, ca, rfl, _, _, _, _⟩ := hu.ex
  clear hu hx hm
  have K0 : Hid (Keep [] w (w.alloc (x.blk (.slice ao x.texts.length ca)))) := Keep.alloc1 w _
  go_enter Tryz.func32, Tryz.ntmps32
  go_wp2_with fail
  refine (hC _ K0.out).mono ?_
  rintro e1 w1 ⟨rfl, k1⟩
  have HK1 : Hid (Keep [] w w1) := K0.out.trans' k1
  clear k1 hC
  go_wp2
  go_ret2
  exact ⟨rfl, HK1.out⟩
end Go.Proofs.YtncbanpimfhhbaaGreatDoor

