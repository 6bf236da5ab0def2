/- Encode: a value's bytes. -/
import Derived.Test.YtfpcpociejefaaaGreatDoorJRefB
import Derived.Test.YtfpcpociejefaaaGreatDoorLentW
import Derived.Test.YtfpcpociejefaaaGreatDoorTxQ
import Derived.Test.YtfpcpociejefaaaGreatDoorNearW
import Derived.Test.YtfpcpociejefaaaGreatDoorNgR
import Derived.Test.YtfpcpociejefaaaGreatDoorNgA

namespace Go.Proofs.YtfpcpociejefaaaGreatDoor
open Go.RowKit Go.PlainAid Go.Lib
theorem may_short (p : VD) (h : p.mayB = true) : p.text.size ≤ 256 ∧ p.texts.length ≤ 32 ∧ ∀ s ∈ p.texts, s.size ≤ 256 := by
 unfold VD.mayB at h
 simp only [Bool.and_eq_true] at h
 have h2 := h.2
 unfold VD.shortB at h2
 simp only [Bool.and_eq_true, decide_eq_true_eq, Bool.not_eq_true'] at h2
 refine ⟨h2.1.1, h2.1.2, fun s hs => ?_⟩
 have h3 := h2.2
 unfold longB at h3
 rw [List.any_eq_false] at h3
 have := h3 s hs
 simp at this
 omega
/-- held and write together: what stands behind the kind is written -/
theorem hw_any (x : VD) (hx : x.Ok) (hm : x.mayB = true) (u : Value) (w : World) (hu : Ts w u x.texts) :
  ∃ T V, (∀ w1, Keep [] w w1 → Calls Tryz.prog 44 #[x.val u] w1 fun e w' => e = .returned (.iface T V) ∧ Keep [] w1 w') ∧
   ∀ (b o : Nat) (l : List UInt8) (rb : Option Nat) (w1 : World), Wr w1 b o l rb → Ts w1 u x.texts → (x.texts ≠ [] → Off u (b :: rb.toList)) → l.length ≤ 1000 →
    Calls Tryz.prog 43 #[.pointer (some ⟨b, o, none⟩), .iface T V] w1 fun e w' => e = .returned (.tuple #[]) ∧ Wrote w1 w' b o l (bodyL x) rb := by
 obtain ⟨h1, h2, h3⟩ := may_short x hm
 have hk := may_kind x hm
 have hc : x.kind = 1 ∨ x.kind = 2 ∨ x.kind = 3 ∨ x.kind = 4 ∨ x.kind = 5 := by omega
 have hs : ∃ a n c, u = .slice a n c := by
  obtain ⟨ao, ca, rfl, _⟩ := hu.ex
  exact ⟨ao, _, ca, rfl⟩
 unfold bodyL
 rcases hc with h | h | h | h | h
 ·rw [if_pos h]
  exact ⟨4, _, fun w1 _ => held_1 x h u hs w1, fun b o l rb w1 hw _ _ hn => write_1 b o l rb x.bool w1 hw hn⟩
 ·rw [if_neg (by omega), if_pos h]
  exact ⟨2, _, fun w1 _ => held_2 x h u hs w1, fun b o l rb w1 hw _ _ hn => write_2 b o l rb x.int hx.int0 hx.int1 w1 hw hn⟩
 ·rw [if_neg (by omega), if_neg (by omega), if_pos h]
  exact ⟨58, _, fun w1 _ => held_3 x h u hs w1, fun b o l rb w1 hw _ _ hn => write_3 b o l rb x.real hx.real1 w1 hw hn⟩
 ·rw [if_neg (by omega), if_neg (by omega), if_neg (by omega), if_pos h]
  exact ⟨9, _, fun w1 _ => held_4 x h u hs w1, fun b o l rb w1 hw _ _ hn => write_4 b o l rb x.text h1 w1 hw hn⟩
 ·rw [if_neg (by omega), if_neg (by omega), if_neg (by omega), if_neg (by omega)]
  exact ⟨59, u, fun w1 _ => held_5 x h u hs w1, fun b o l rb w1 hw hT ho hn => write_5 b o l rb u x.texts w1 hw hT ho hn h2 h3⟩
theorem body_len (x : VD) (hx : x.Ok) (hm : x.mayB = true) : (bodyL x).length ≤ 8800 := by
 obtain ⟨h1, h2, h3⟩ := may_short x hm
 have e1 := uvarint_length64 (zigzag_lt hx.int0 hx.int1)
 have e2 := uvarint_length64 (x := x.texts.length) (by omega)
 have e3 := textB_len x.text h1
 have e4 := textsB_len x.texts h3
 unfold bodyL
 (repeat' split) <;> (try simp only [List.length_append, List.length_cons, List.length_nil]) <;> (try omega)
 simp [four]
theorem Ts.blt {w : World} {v : Value} {l : List ByteArray} (h : Ts w v l) (hl : l ≠ []) : ∀ k, v.ownBlock = some k → k < w.heap.size := by
 obtain ⟨ao, cap, rfl, _, _, _, h4⟩ := h.ex
 obtain ⟨b, o, rfl, hc⟩ := h4 hl
 intro k hk
 simp [Value.ownBlock] at hk
 subst hk
 have h0 : 0 < l.length := List.length_pos_iff.2 hl
 exact World.block_lt_of_cell? w _ (hc 0 h0)
theorem six_cells {F : List Nat} {w w1 : World} {v0 v1 v2 v3 v4 v5 : Value} {t : TypeId} (k : Keep F (w.alloc (.cells #[v0, v1, v2, v3, v4, v5] t)) w1) (hn : w.heap.size ∉ F) :
  (w1.cell? ⟨w.heap.size, 0, none⟩ = some v0 ∧ w1.cell? ⟨w.heap.size, 1, none⟩ = some v1 ∧ w1.cell? ⟨w.heap.size, 2, none⟩ = some v2 ∧ w1.cell? ⟨w.heap.size, 3, none⟩ = some v3 ∧ w1.cell? ⟨w.heap.size, 4, none⟩ = some v4 ∧ w1.cell? ⟨w.heap.size, 5, none⟩ = some v5) ∧ ∀ j, w1.frozen? ⟨w.heap.size, j, none⟩ = false := by
 refine ⟨⟨k.cell' ?_ hn, k.cell' ?_ hn, k.cell' ?_ hn, k.cell' ?_ hn, k.cell' ?_ hn, k.cell' ?_ hn⟩, fun j => ?_⟩
 case refine_7 => rw [k.frozen (by simp) hn]; simp [go_sem]
 all_goals simp [go_sem]
set_option maxRecDepth 1000000 in
set_option maxHeartbeats 400000 in
theorem encode_yes (x : VD) (hx : x.Ok) (hm : x.mayB = true) (u : Value) (w : World) (hu : Ts w u x.texts) :
  Calls Tryz.prog 19 #[x.val u] w fun e w' => ∃ v, e = .returned (.tuple #[v, .int .i64 0]) ∧ (Row w' v (encL x) ∧ Fresh w w' v ∧ Sl v (encL x).length) ∧ Keep [] w w' := by
 have hk := may_kind x hm
 have hbl := body_len x hx hm
 obtain ⟨T, V, hH, hWr⟩ := hw_any x hx hm u w hu
 have hC := fun w1 (k : Keep [] w w1) => check_yes x hx u w1 (hu.keep k (Off.nil _)) hm
 have HU : Hid (Ts w u x.texts) := hu
 obtain ⟨n, hn⟩ : ∃ n : Nat, x.kind = (n : Int) := ⟨x.kind.toNat, by omega⟩
 have HE : Hid (encL x = [n.toUInt8] ++ bodyL x) := show encL x = [n.toUInt8] ++ bodyL x by unfold encL; rw [hn]; rfl
 have hn5 : n ≤ 5 := by omega
 obtain ⟨ao, ca, rfl, _, _, _, _⟩ := hu.ex
 have HH : Hid _ := hH
 have HWr : Hid _ := hWr
 have HCk : Hid _ := hC
 have HNk : Hid (x.kind = (n : Int)) := hn
 have hni : (n : Int) ≤ 5 := by omega
 have hw8 : IntKind.u8.wrap (n : Int) = (n : Int) := by rw [IntKind.wrap_u8]; omega
 clear hu hk hx hm hH hWr hC hn hn5
 have K0 : Hid (Keep [] w (w.alloc (x.blk (.slice ao x.texts.length ca)))) := Keep.alloc1 w _
 have HB : Hid ((bodyL x).length ≤ 8800) := hbl
 clear hbl
 go_enter Tryz.func19, Tryz.ntmps19
 go_wp2_with fail
 refine (HCk.out _ K0.out).mono ?_
 rintro e9 w1 ⟨rfl, k1⟩
 obtain ⟨⟨c0, c1, c2, c3, c4, c5⟩, _⟩ := six_cells k1 (by simp)
 rw [HNk.out] at c0
 have HK1 : Hid (Keep [] (w.alloc (x.blk (.slice ao x.texts.length ca))) w1) := k1
 clear HCk k1
 have hq : w.heap.size < w1.heap.size := by have := HK1.out.size; simp at this; omega
 have HQ : Hid (w.heap.size < w1.heap.size) := hq
 have kz : Keep [] w1 (w1.alloc (.cells #[.slice none 0 0] 53)) := Keep.alloc1 w1 _
 have d0 := kz.cell' c0 (by simp)
 have HZ : Hid (Wr (w1.alloc (.cells #[.slice none 0 0] 53)) w1.heap.size 0 [] none ∧ Keep [] (w.alloc (x.blk (.slice ao x.texts.length ca))) (w1.alloc (.cells #[.slice none 0 0] 53))) := ⟨Wr.zero _ _ _ (by simp) (by simp), HK1.out.trans' kz⟩
 have hB := wByte_any w1.heap.size 0 [] none n (by omega) _ HZ.out.1 (by simp)
 clear kz c0 c1 c2 c3 c4 c5 HK1
 go_wp2_with fail
 refine hB.mono ?_
 rintro e9 w2 ⟨rfl, rb2, b1, b2, b3⟩
 have K2 : Keep [w1.heap.size] (w.alloc (x.blk (.slice ao x.texts.length ca))) w2 := (HZ.out.2.mono (fun _ h => by cases h)).trans' (by simpa using b2)
 have HK2 : Hid (Keep [] w w2) := K0.out.more K2 (fun y hy => .inr (by simp at hy; omega))
 obtain ⟨⟨c0, c1, c2, c3, c4, c5⟩, _⟩ := six_cells K2 (by simp; omega)
 have HW2 : Hid (Wr w2 w1.heap.size 0 [n.toUInt8] rb2 ∧ (∀ k, rb2 = some k → w1.heap.size ≤ k)) := ⟨by simpa using b1, fun k hk => by
  rcases b3 with h | h
  ·rw [h] at hk; cases hk
  ·have := (h k hk).1; simp at this; omega⟩
 clear b1 b2 b3 K2 hB d0 HZ hq
 go_wp2_with fail
 refine (HH.out _ HK2.out).mono ?_
 rintro e9 w3 ⟨rfl, k3⟩
 have HK3 : Hid (Keep [] w w3) := HK2.out.trans' k3
 have hW3 := HWr.out w1.heap.size 0 [n.toUInt8] rb2 w3 (HW2.out.1.keep k3 (by simp) (fun _ _ => by simp)) (HU.out.keep HK3.out (Off.nil _)) (fun hne k hk hmem => by
  have h1 := HU.out.blt hne k hk
  have h2 := HQ.out
  rcases List.mem_cons.1 hmem with h | h
  ·omega
  ·have := HW2.out.2 k (by simpa using h)
   omega) (by simp)
 clear k3 HWr HH HK2 c0 c1 c2 c3 c4 c5
 go_wp2_with fail
 refine hW3.mono ?_
 rintro e9 w4 ⟨rfl, rb4, g1, g2, g3⟩
 have HK4 : Hid (Keep [] w w4) := HK3.out.more g2 (fun y hy => .inr (by
  have h2 := HQ.out
  rcases List.mem_cons.1 hy with h | h
  ·omega
  ·have := HW2.out.2 y (by simpa using h)
   omega))
 have hY := wBytes_any w1.heap.size 0 ([n.toUInt8] ++ bodyL x) rb4 w4 g1 (by have := HB.out; simp; omega)
 clear g1 g2 g3 hW3 HW2 HK3
 go_wp2_with fail
 refine hY.mono ?_
 rintro e9 w5 ⟨v, rfl, y1, y2, y3, y4⟩
 have HF : Hid ((Row w5 v (encL x) ∧ Fresh w w5 v ∧ Sl v (encL x).length) ∧ Keep [] w w5) := by
  show (Row w5 v (encL x) ∧ Fresh w w5 v ∧ Sl v (encL x).length) ∧ Keep [] w w5
  rw [HE.out]
  exact ⟨⟨y1, y2.earlier HK4.out.size, y4⟩, HK4.out.trans' y3⟩
 obtain ⟨a9, c9, rfl⟩ := y4
 clear y1 y2 y3 hY HK4
 go_wp2
 go_ret2
 exact ⟨_, rfl, HF.out⟩
end Go.Proofs.YtfpcpociejefaaaGreatDoor

/- The program's Text, of every float32. -/
namespace Go.Proofs.YtfpcpociejefaaaGreatDoor
open Go.RowKit Go.PlainAid
/-- the text of the real of number n: 0, one above it, the infinite one -/
def textU (n : Nat) : List UInt8 := if n = 0 then [48, 46, 48] else if n = 2139095040 then [105, 110, 102] else textB n
/-- the text of any real -/
def textR (x : Nat) : List UInt8 := if nanB x = true then [110, 97, 110] else if belowB x = true then 45 :: textU (x - 2147483648) else textU x
theorem plainB_len (l : List UInt8) (k : Int) (hl : l.length ≤ 20) (hk : -100 ≤ k ∧ k ≤ 100) : (plainB l k).length ≤ 300 := by
 unfold plainB
 split
 ·simp only [List.length_append, List.length_replicate, List.length_cons, List.length_nil]
  omega
 ·split
  ·simp only [List.length_append, List.length_replicate, List.length_cons, List.length_nil]
   omega
  ·simp only [List.length_append, List.length_take, List.length_drop, List.length_cons, List.length_nil]
   omega
theorem textU_len (n : Nat) (h2 : n ≤ 2139095040) : (textU n).length ≤ 300 := by
 unfold textU
 split
 ·decide
 ·split
  ·decide
  ·have h1 : 1 ≤ n := by omega
   have h3 : n < 2139095040 := by omega
   have hl := digs_len n h1 h3
   have hb := ndF_le n h1 h3
   have hE := exF_bounds n h1 h3
   have hi := itoa_len (exF n) hE
   unfold textB
   split
   ·have ho := orB_len ((digs n).drop 1)
    rw [List.length_drop] at ho
    simp only [List.length_append, List.length_take, List.length_cons, List.length_nil]
    omega
   ·exact plainB_len _ _ (by omega) (by omega)
set_option maxRecDepth 1000000 in
theorem textAbove_all (n : Nat) (h2 : n ≤ 2139095040) (w : World) (hT : TabV w) : Calls Tryz.prog 107 #[.float .f32 n] w fun e w' => (∃ T : ByteArray, e = .returned (.string T) ∧ T.data.toList = textU n) ∧ Below w.heap.size w w' := by
 by_cases h0 : n = 0
 ·subst h0
  have k1 : (FloatKind.f32.format.order 0 0 == some Ordering.eq) = true := by decide
  go_enter Tryz.func107, Tryz.ntmps107
  go_wp2
  go_ret
  exact ⟨⟨_, rfl, rfl⟩, Below.refl _ _⟩
 ·by_cases h1 : n = 2139095040
  ·subst h1
   have k1 : (FloatKind.f32.format.order 2139095040 0 == some Ordering.eq) = false := by decide
   have k2 : (FloatKind.f32.format.order 2139095040 2139095040 == some Ordering.eq) = true := by decide
   have hI := infinite_any false
   simp only [Bool.false_eq_true, if_false] at hI
   go_enter Tryz.func107, Tryz.ntmps107
   go_wp2_with (first
    | (go_at_call 123; refine (hI _).mono ?_; rintro e9 w9 ⟨rfl, hw9⟩; obtain rfl := hw9.symm))
   go_ret
   exact ⟨⟨_, rfl, rfl⟩, Below.refl _ _⟩
  ·have e : textU n = textB n := by unfold textU; rw [if_neg h0, if_neg h1]
   rw [e]
   exact textAbove_any n (by omega) (by omega) w hT
set_option maxRecDepth 1000000 in
theorem text_any (x : Nat) (hx : x < 4294967296) (w : World) (hT : TabV w) : Calls Tryz.prog 87 #[.float .f32 x] w fun e w' => (∃ T : ByteArray, e = .returned (.string T) ∧ T.data.toList = textR x) ∧ Below w.heap.size w w' := by
 have hN := isNan_any x
 have hB := below0_any x hx
 by_cases hn : nanB x = true
 ·have hR : textR x = [110, 97, 110] := by unfold textR; rw [if_pos hn]
  rw [hn] at hN
  rw [hR]
  clear hB
  go_enter Tryz.func87, Tryz.ntmps87
  go_wp2_with (first
   | (go_at_call 105; refine (hN _).mono ?_; rintro e9 w9 ⟨rfl, hw9⟩; obtain rfl := hw9.symm))
  go_ret
  exact ⟨⟨_, rfl, rfl⟩, Below.refl _ _⟩
 ·have hn0 : nanB x = false := by simpa using hn
  have hle : x % 2147483648 ≤ 2139095040 := by
   unfold nanB at hn0
   have := of_decide_eq_false hn0
   omega
  rw [hn0] at hN
  by_cases hb : belowB x = true
  ·have hx31 : 2147483648 ≤ x := by
    unfold belowB at hb
    simp at hb
    omega
   have hR : Hid (textR x = 45 :: textU (x - 2147483648)) := by show _ = _; unfold textR; rw [if_neg hn, if_pos hb]
   have hng : ∀ w, (Op.unary .neg (.float .f32 x)).run Tryz.prog w = .ok (.float .f32 (x - 2147483648)) w := fun w => by
    show Sem.run Tryz.prog (pure (Value.float .f32 (Op.negFloat .f32 x))) w = _
    rw [neg_high x hx31 hx]
    rfl
   have hle2 : x - 2147483648 ≤ 2139095040 := by omega
   have hA := textAbove_all (x - 2147483648) hle2 w hT
   have hlen := textU_len (x - 2147483648) hle2
   rw [hb] at hB
   generalize x - 2147483648 = y at *
   have HL : Hid (∀ T : ByteArray, T.data.toList = textU y → T.size ≤ 300) := fun T h => by
    have h3 : T.data.toList.length = T.size := Array.length_toList
    rw [← h3, h]
    exact hlen
   clear hlen hx31 hle hn hle2
   go_enter Tryz.func87, Tryz.ntmps87
   go_wp2_with (first
    | (go_at_call 105; refine (hN _).mono ?_; rintro e9 w9 ⟨rfl, hw9⟩; obtain rfl := hw9.symm)
    | (go_at_call 106; refine (hB _).mono ?_; rintro e9 w9 ⟨rfl, hw9⟩; obtain rfl := hw9.symm)
    | (go_at_call 107; refine hA.mono ?_; rintro e9 w1 ⟨⟨T, rfl, hT1⟩, hb1⟩; have HT1 : Hid (T.data.toList = textU y) := hT1; have hts := HL.out T hT1; clear hT1))
   go_ret
   exact ⟨⟨_, rfl, by rw [hR.out, ba_app, HT1.out]; rfl⟩, hb1⟩
  ·have hb0 : belowB x = false := by simpa using hb
   have hx31 : x < 2147483648 := by
    unfold belowB at hb0
    rw [hn0] at hb0
    simp at hb0
    omega
   have hR : textR x = textU x := by unfold textR; rw [if_neg hn, if_neg hb]
   have hA := textAbove_all x (by omega) w hT
   rw [hb0] at hB
   rw [hR]
   clear hx31 hle hn hb hR hn0 hb0 hx
   go_enter Tryz.func87, Tryz.ntmps87
   go_wp2_with (first
    | (go_at_call 105; refine (hN _).mono ?_; rintro e9 w9 ⟨rfl, hw9⟩; obtain rfl := hw9.symm)
    | (go_at_call 106; refine (hB _).mono ?_; rintro e9 w9 ⟨rfl, hw9⟩; obtain rfl := hw9.symm)
    | (go_at_call 107; refine hA.mono ?_; rintro e9 w1 ⟨⟨T, rfl, hT1⟩, hb1⟩))
   go_ret
   exact ⟨⟨_, rfl, hT1⟩, hb1⟩
end Go.Proofs.YtfpcpociejefaaaGreatDoor

/- A value's literal, as the program writes it. -/
namespace Go.Proofs.YtfpcpociejefaaaGreatDoor
open Go.RowKit Go.PlainAid
/-- a value's literal -/
def litL (x : VD) : List UInt8 := if x.kind = 1 then (if x.bool then [116, 114, 117, 101] else [102, 97, 108, 115, 101]) else if x.kind = 2 then Lib.itoa x.int else if x.kind = 3 then textR x.real else if x.kind = 4 then quoL x.text.data.toList else listL x.texts
theorem boolText_any (t : Bool) (w : World) : Calls Tryz.prog 86 #[.bool t] w fun e w' => e = .returned (.string (ba (if t then [116, 114, 117, 101] else [102, 97, 108, 115, 101]))) ∧ w' = w := by
 cases t
 all_goals
  go_enter Tryz.func86, Tryz.ntmps86
  go_wp2
  go_ret
  exact ⟨rfl, rfl⟩
theorem format_any (n : Int) (h0 : -9223372036854775808 ≤ n) (h1 : n ≤ 9223372036854775807) (w : World) (hT : TabV w) : Calls Tryz.prog 76 #[.int .i64 n, .int .i64 10] w fun e w' => e = .returned (.string (ba (Lib.itoa n))) ∧ Keep [] w w' := by
 refine (Go.Proofs.Any.strconv_FormatInt_10 Tryz.laysM173 n h0 h1 w hT.p).mono ?_
 rintro e w' ⟨rfl, k, os, rfl⟩
 exact ⟨rfl, Keep.ofBelow (Lib.below_grow _ w (Nat.le_refl _) k os)⟩
theorem textR_ba (T : ByteArray) (l : List UInt8) (h : T.data.toList = l) : T = ba l := by rw [← h]; exact (ba_self T).symm
set_option maxRecDepth 1000000 in
theorem lit_1 (t : Bool) (w : World) : Calls Tryz.prog 63 #[.iface 4 (.bool t)] w fun e w' => e = .returned (.string (ba (if t then [116, 114, 117, 101] else [102, 97, 108, 115, 101]))) ∧ Keep [] w w' := by
 have hC := boolText_any t w
 generalize ba (if t then [116, 114, 117, 101] else [102, 97, 108, 115, 101]) = S at *
 have ta0 := ta_4_4
 go_enter Tryz.func63, Tryz.ntmps63
 go_wp2_with fail
 refine hC.mono ?_
 rintro e9 w9 ⟨rfl, rfl⟩
 have k9 : Keep [] w9 w9 := Keep.refl [] w9
 go_wp2
 go_ret
 exact ⟨rfl, k9⟩
set_option maxRecDepth 1000000 in
theorem lit_2 (t : Int) (h0 : -9223372036854775808 ≤ t) (h1 : t ≤ 9223372036854775807) (w : World) (hT : TabV w) : Calls Tryz.prog 63 #[.iface 2 (.int .i64 t)] w fun e w' => e = .returned (.string (ba (Lib.itoa t))) ∧ Keep [] w w' := by
 have hC := format_any t h0 h1 w hT
 generalize ba (Lib.itoa t) = S at *
 have ta0 := ta_2_4
 have ta1 := ta_2_2
 go_enter Tryz.func63, Tryz.ntmps63
 go_wp2_with fail
 refine hC.mono ?_
 rintro e9 w9 ⟨rfl, k9⟩
 go_wp2
 go_ret
 exact ⟨rfl, k9⟩
set_option maxRecDepth 1000000 in
theorem lit_3 (t : Nat) (ht : t < 4294967296) (w : World) (hT : TabV w) : Calls Tryz.prog 63 #[.iface 58 (.float .f32 t)] w fun e w' => e = .returned (.string (ba (textR t))) ∧ Keep [] w w' := by
 have hC := (text_any t ht w hT).mono (fun e w1 h => (show e = .returned (.string (ba (textR t))) ∧ Keep [] w w1 from by obtain ⟨⟨T, he, hT⟩, hb⟩ := h; exact ⟨by rw [he, textR_ba T _ hT], Keep.ofBelow hb⟩))
 generalize ba (textR t) = S at *
 have ta0 := ta_26_4
 have ta1 := ta_26_2
 have ta2 := ta_26_26
 go_enter Tryz.func63, Tryz.ntmps63
 go_wp2_with fail
 refine hC.mono ?_
 rintro e9 w9 ⟨rfl, k9⟩
 go_wp2
 go_ret
 exact ⟨rfl, k9⟩
set_option maxRecDepth 1000000 in
theorem lit_4 (t : ByteArray) (ht : t.size ≤ 256) (w : World) : Calls Tryz.prog 63 #[.iface 9 (.string t)] w fun e w' => e = .returned (.string (ba (quoL t.data.toList))) ∧ Keep [] w w' := by
 have hC := quoted_all t.data.toList w (by rw [ba_len]; omega)
 rw [ba_self] at hC
 generalize ba (quoL t.data.toList) = S at *
 have ta0 := ta_9_4
 have ta1 := ta_9_2
 have ta2 := ta_9_26
 have ta3 := ta_9_9
 go_enter Tryz.func63, Tryz.ntmps63
 go_wp2_with fail
 refine hC.mono ?_
 rintro e9 w9 ⟨rfl, k9⟩
 go_wp2
 go_ret
 exact ⟨rfl, k9⟩
set_option maxRecDepth 1000000 in
theorem lit_5 (u : Value) (ts : List ByteArray) (hn : ts.length ≤ 32) (hs : ∀ t ∈ ts, t.size ≤ 256) (w : World) (hu : Ts w u ts) : Calls Tryz.prog 63 #[.iface 59 (u)] w fun e w' => e = .returned (.string (ba (listL ts))) ∧ Keep [] w w' := by
 have hC := listed_all ts u w hu hn hs
 generalize ba (listL ts) = S at *
 have ta0 := ta_24_4
 have ta1 := ta_24_2
 have ta2 := ta_24_26
 have ta3 := ta_24_9
 have ta4 := ta_24_24
 go_enter Tryz.func63, Tryz.ntmps63
 go_wp2_with fail
 refine hC.mono ?_
 rintro e9 w9 ⟨rfl, k9⟩
 go_wp2
 go_ret
 exact ⟨rfl, k9⟩
end Go.Proofs.YtfpcpociejefaaaGreatDoor

/- What the document's Text asks: noughts below nought, the digits and their text, the power's text. -/
namespace Go.Proofs.YtfpcpociejefaaaGreatDoor
open Go.RowKit Go.PlainAid
set_option maxRecDepth 1000000 in
theorem noughts_neg (k : Int) (hk : k < 0) (w : World) : Calls Tryz.prog 102 #[.int .i64 k] w fun e w' => e = .returned (.string ⟨#[]⟩) ∧ w' = w := by
 have h : ¬ (0 : Int) < k := by omega
 go_enter Tryz.func102, Tryz.ntmps102
 go_wp2
 refine wp_loop_rounds 1 ?_
 rw [rounds_succ]
 go_wp2
 go_ret
 exact ⟨rfl, rfl⟩
theorem few_text (n : Nat) (h1 : 1 ≤ n) (h2 : n < 2139095040) (m : Nat) (L : Int) (hm : ndF n = m) (hL : exF n - (m : Int) + 1 = L) (w : World) : Calls Tryz.prog 100 #[.int .u32 (n : Int)] w fun e w' => ∃ q : Nat, (∀ w : World, Calls Tryz.prog 101 #[.int .i64 (q : Int)] w fun e w' => (∃ T : ByteArray, e = .returned (.string T) ∧ T.data.toList = digs n) ∧ Below w.heap.size w w') ∧ e = .returned (.tuple #[.int .i64 (q : Int), .int .i64 (m : Int), .int .i64 L]) ∧ Keep [] w w' := by
 refine (fewest_any n h1 h2 w).mono ?_
 rintro e w' ⟨q, s, P, ⟨hD, hs⟩, rfl, hk⟩
 obtain ⟨t1, t2⟩ := isD_told n q s P h1 h2 hD
 obtain ⟨d1, d2, d3, _⟩ := hD
 have hsm : s = m := by
  have := digs_len n h1 h2
  rw [t1, decL_len] at this
  omega
 subst hsm
 refine ⟨q, fun w => ?_, by rw [show (P : Int) - 60 = L by omega], hk⟩
 rw [t1]
 exact decimal_any s q d1 (by omega) (.inl d2) d3 w
theorem itoa_pos : ∀ x, x < 100 → Lib.itoa ((x : Nat) : Int) = decL x (if x < 10 then 1 else 2) := by decide +kernel
theorem itoa_neg : ∀ x, x < 100 → 1 ≤ x → Lib.itoa (-((x : Nat) : Int)) = 45 :: decL x (if x < 10 then 1 else 2) := by decide +kernel
theorem power_text (x : Nat) (hx : x < 100) (w : World) : Calls Tryz.prog 101 #[.int .i64 (x : Int)] w fun e w' => (∃ T : ByteArray, e = .returned (.string T) ∧ T.data.toList = decL x (if x < 10 then 1 else 2)) ∧ Below w.heap.size w w' := by
 by_cases h : x < 10
 ·rw [if_pos h]
  exact decimal_any 1 x (by decide) (by decide) (.inr rfl) (by simpa using h) w
 ·rw [if_neg h]
  exact decimal_any 2 x (by decide) (by decide) (.inl (by simp; omega)) (by simpa using hx) w
end Go.Proofs.YtfpcpociejefaaaGreatDoor

/- The document's Text. -/
namespace Go.Proofs.YtfpcpociejefaaaGreatDoor
open Go.RowKit Go.PlainAid
theorem ext_drop (T : ByteArray) (i m : Nat) (h : T.size = m) : (T.extract i m).data.toList = T.data.toList.drop i := by
 subst h
 exact ba_drop T i
end Go.Proofs.YtfpcpociejefaaaGreatDoor

/- The document's Text.  Way mid, any, below 0. -/
namespace Go.Proofs.YtfpcpociejefaaaGreatDoor
open Go.RowKit Go.PlainAid
set_option maxRecDepth 1000000 in
set_option maxHeartbeats 1600000 in
theorem rText_en (x n m : Nat) (k : Int) (hx : x < 4294967296) (hn : nanB x = false) (hb : belowB x = true) (hr : rungN x = n) (h1 : 1 ≤ n) (h2 : n < 2139095040) (hm : ndF n = m) (hkE : exF n = k) (hk1 : -4 ≤ k) (hk2 : k < 0)  (w : World) :
  Calls Tryz.prog 77 #[.float .f32 x] w fun e w' => (∃ T : ByteArray, e = .returned (.string T) ∧ T.data.toList = 45 :: textB n) ∧ Below w.heap.size w w' := by
 have hN := rIsNan_any x
 have hB := rBelow_any x hx
 have hU := number_any x hx hn
 rw [hr] at hU
 rw [hn] at hN
 rw [hb] at hB
 obtain ⟨L, hL⟩ : ∃ L : Int, k - (m : Int) + 1 = L := ⟨_, rfl⟩
 have hF := fun w => few_text n h1 h2 m L hm (by rw [hkE]; exact hL) w
 have hdl := digs_len n h1 h2
 have hnd := ndF_le n h1 h2
 have hE := exF_bounds n h1 h2
 rw [hm] at hdl hnd
 rw [hkE] at hE
 have hm10 : m ≤ 10 := by omega
 have hm0 : 1 ≤ m := hnd.1
 have hLk : L + (m : Int) - 1 = k := by omega
 have hTB : Hid (textB n = if exF n < -4 ∨ 8 < exF n then (digs n).take 1 ++ [46] ++ orB ((digs n).drop 1) ++ [101] ++ Lib.itoa (exF n) else plainB (digs n) (exF n)) := rfl
 have HKE : Hid (exF n = k) := hkE
 have HDL : Hid ((digs n).length = m) := hdl
 have t0 : ((n : Int) == 2139095040) = false := beq_eq_false_iff_ne.2 (by omega)
 have t1 : ((n : Int) == 0) = false := beq_eq_false_iff_ne.2 (by omega)
 have HS : Hid (∀ T : ByteArray, T.data.toList = digs n → T.size = m) := fun T h => by
  have h3 : T.data.toList.length = T.size := Array.length_toList
  rw [← h3, h]
  exact hdl
 obtain ⟨hE1, hE2⟩ := hE
 have hL1 : -120 ≤ L := by omega
 have hL2 : L ≤ 120 := by omega
 have hmi : (m : Int) ≤ 10 := by omega
 have hm0i : 1 ≤ (m : Int) := by omega
 clear hL hm hkE hnd hdl hn hb hr hx h2
 obtain ⟨X, hX⟩ : ∃ X : Nat, -k - 1 = (X : Int) := ⟨(-k - 1).toNat, by omega⟩
 have hX3 : (X : Int) ≤ 3 := by omega
 have hP := fun w => noughts_any X (by omega) w
 have HX : Hid (textB n = [48, 46] ++ List.replicate X 48 ++ digs n) := by
  show _ = _
  rw [hTB.out, HKE.out, if_neg (by omega)]
  unfold plainB
  rw [if_pos hk2, show (-k - 1).toNat = X by omega]
 have HZ : Hid (∀ U : ByteArray, U.data.toList = List.replicate X 48 → U.size = X) := fun U h => by
  have h3 : U.data.toList.length = U.size := Array.length_toList
  rw [← h3, h, List.length_replicate]
 clear hTB
 go_enter Tryz.func77, Tryz.ntmps77
 go_wp2_with (first
  | (go_at_call 97; refine (hN _).mono ?_; rintro e9 w9 ⟨rfl, hw9⟩; obtain rfl := hw9.symm)
  | (go_at_call 98; refine (hB _).mono ?_; rintro e9 w9 ⟨rfl, hw9⟩; obtain rfl := hw9.symm)
  | (go_at_call 99; refine (hU _).mono ?_; rintro e9 w9 ⟨rfl, hw9⟩; obtain rfl := hw9.symm)
  | (go_at_call 100; refine (hF _).mono ?_; rintro e9 w1 ⟨q, hq, rfl, hk1⟩; have HQ : Hid _ := hq; clear hq; have HK1 : Hid (Keep [] w w1) := hk1; clear hk1)
  | (go_at_call_of 101 (Value.int IntKind.i64 ((q : Nat) : Int)); refine (HQ.out _).mono ?_; rintro e9 w2 ⟨⟨T, rfl, hT⟩, hb2⟩; have hts := HS.out T hT; have HT : Hid (T.data.toList = digs n) := hT; have HK2 : Hid (Keep [] w w2) := HK1.out.trans' (Keep.ofBelow hb2); clear hb2 hT; skip)
  | (go_at_call 102; refine (hP _).mono ?_; rintro e9 w3 ⟨⟨U, rfl, hU2⟩, hw3⟩; obtain rfl := hw3.symm; have hus := HZ.out U hU2; have HU : Hid (U.data.toList = List.replicate X 48) := hU2; clear hU2))
 go_ret
 exact ⟨⟨_, rfl, by rw [HX.out]; simp only [ba_app, HT.out, HU.out]; rfl⟩, HK2.out.below⟩
end Go.Proofs.YtfpcpociejefaaaGreatDoor

/- The document's Text.  Way pos, long, below 0. -/
namespace Go.Proofs.YtfpcpociejefaaaGreatDoor
open Go.RowKit Go.PlainAid
set_option maxRecDepth 1000000 in
set_option maxHeartbeats 1600000 in
theorem rText_gn (x n m : Nat) (k : Int) (hx : x < 4294967296) (hn : nanB x = false) (hb : belowB x = true) (hr : rungN x = n) (h1 : 1 ≤ n) (h2 : n < 2139095040) (hm : ndF n = m) (hkE : exF n = k) (hk1 : 0 ≤ k) (hk2 : k ≤ 8) (hm1 : k + 1 < (m : Int)) (w : World) :
  Calls Tryz.prog 77 #[.float .f32 x] w fun e w' => (∃ T : ByteArray, e = .returned (.string T) ∧ T.data.toList = 45 :: textB n) ∧ Below w.heap.size w w' := by
 have hN := rIsNan_any x
 have hB := rBelow_any x hx
 have hU := number_any x hx hn
 rw [hr] at hU
 rw [hn] at hN
 rw [hb] at hB
 obtain ⟨L, hL⟩ : ∃ L : Int, k - (m : Int) + 1 = L := ⟨_, rfl⟩
 have hF := fun w => few_text n h1 h2 m L hm (by rw [hkE]; exact hL) w
 have hdl := digs_len n h1 h2
 have hnd := ndF_le n h1 h2
 have hE := exF_bounds n h1 h2
 rw [hm] at hdl hnd
 rw [hkE] at hE
 have hm10 : m ≤ 10 := by omega
 have hm0 : 1 ≤ m := hnd.1
 have hLk : L + (m : Int) - 1 = k := by omega
 have hTB : Hid (textB n = if exF n < -4 ∨ 8 < exF n then (digs n).take 1 ++ [46] ++ orB ((digs n).drop 1) ++ [101] ++ Lib.itoa (exF n) else plainB (digs n) (exF n)) := rfl
 have HKE : Hid (exF n = k) := hkE
 have HDL : Hid ((digs n).length = m) := hdl
 have t0 : ((n : Int) == 2139095040) = false := beq_eq_false_iff_ne.2 (by omega)
 have t1 : ((n : Int) == 0) = false := beq_eq_false_iff_ne.2 (by omega)
 have HS : Hid (∀ T : ByteArray, T.data.toList = digs n → T.size = m) := fun T h => by
  have h3 : T.data.toList.length = T.size := Array.length_toList
  rw [← h3, h]
  exact hdl
 obtain ⟨hE1, hE2⟩ := hE
 have hL1 : -120 ≤ L := by omega
 have hL2 : L ≤ 120 := by omega
 have hmi : (m : Int) ≤ 10 := by omega
 have hm0i : 1 ≤ (m : Int) := by omega
 clear hL hm hkE hnd hdl hn hb hr hx h2
 obtain ⟨K, hK⟩ : ∃ K : Nat, k + 1 = (K : Int) := ⟨(k + 1).toNat, by omega⟩
 have hK1 : (K : Int) ≤ 9 := by omega
 have hK0 : 1 ≤ (K : Int) := by omega
 obtain ⟨c, hc⟩ : ∃ c : Int, (K : Int) - (m : Int) = c := ⟨_, rfl⟩
 have hc0 : c < 0 := by omega
 have hcl : -20 ≤ c := by omega
 have hP : ∀ w, Calls Tryz.prog 102 #[.int .i64 c] w fun e w' => (∃ U : ByteArray, e = .returned (.string U) ∧ U.data.toList = []) ∧ w' = w := fun w => (noughts_neg c hc0 w).mono (by rintro e w' ⟨rfl, rfl⟩; exact ⟨⟨_, rfl, rfl⟩, rfl⟩)
 have HZ : Hid (∀ U : ByteArray, U.data.toList = [] → U.size = 0) := fun U h => by
  have h3 : U.data.toList.length = U.size := Array.length_toList
  rw [← h3, h]
  rfl
 have HZ2 : Hid (∀ T U : ByteArray, T.size = m → U.data.toList = [] → (T ++ U).size = m) := fun T U h1 h2 => by
  rw [ByteArray.size_append, HZ.out U h2]
  omega
 have HX : Hid (textB n = (digs n).take K ++ [46] ++ (digs n).drop K) := by
  show _ = _
  rw [hTB.out, HKE.out, if_neg (by omega)]
  unfold plainB
  rw [if_neg (by omega), HDL.out, if_neg (by omega), show (k + 1).toNat = K by omega]
 have HNE : Hid ((digs n).drop K ≠ []) := show (digs n).drop K ≠ [] from fun h => by
  have := congrArg List.length h
  rw [List.length_drop, HDL.out] at this
  simp at this
  omega
 clear hTB
 go_enter Tryz.func77, Tryz.ntmps77
 go_wp2_with (first
  | (go_at_call 97; refine (hN _).mono ?_; rintro e9 w9 ⟨rfl, hw9⟩; obtain rfl := hw9.symm)
  | (go_at_call 98; refine (hB _).mono ?_; rintro e9 w9 ⟨rfl, hw9⟩; obtain rfl := hw9.symm)
  | (go_at_call 99; refine (hU _).mono ?_; rintro e9 w9 ⟨rfl, hw9⟩; obtain rfl := hw9.symm)
  | (go_at_call 100; refine (hF _).mono ?_; rintro e9 w1 ⟨q, hq, rfl, hk1⟩; have HQ : Hid _ := hq; clear hq; have HK1 : Hid (Keep [] w w1) := hk1; clear hk1)
  | (go_at_call_of 101 (Value.int IntKind.i64 ((q : Nat) : Int)); refine (HQ.out _).mono ?_; rintro e9 w2 ⟨⟨T, rfl, hT⟩, hb2⟩; have hts := HS.out T hT; have HT : Hid (T.data.toList = digs n) := hT; have HK2 : Hid (Keep [] w w2) := HK1.out.trans' (Keep.ofBelow hb2); clear hb2 hT; skip)
  | (go_at_call 102; refine (hP _).mono ?_; rintro e9 w3 ⟨⟨U, rfl, hU2⟩, hw3⟩; obtain rfl := hw3.symm; have htu := HZ2.out T U hts hU2; have HU : Hid (U.data.toList = []) := hU2; have hus : U.size = 0 := HZ.out U hU2; have hre : (((T ++ U).extract K m).toList == []) = false := (by rw [Lib.toList_data, ext_drop (T ++ U) K m htu, ba_app, HT.out, HU.out, List.append_nil]; exact beq_eq_false_iff_ne.2 (fun h => HNE.out h)); clear hU2))
 go_ret
 exact ⟨⟨_, rfl, by rw [HX.out]; simp only [ba_app, ba_take, ext_drop (T ++ U) K _ htu, HT.out, HU.out, List.append_nil]; rfl⟩, HK2.out.below⟩
end Go.Proofs.YtfpcpociejefaaaGreatDoor
