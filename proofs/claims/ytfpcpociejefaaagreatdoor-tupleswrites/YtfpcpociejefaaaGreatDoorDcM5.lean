/- values.Text, of every value. -/
import Derived.Test.YtfpcpociejefaaaGreatDoorNgWgn
import Derived.Test.YtfpcpociejefaaaGreatDoorNgWgn
import Derived.Test.YtfpcpociejefaaaGreatDoorLentW
import Derived.Test.YtfpcpociejefaaaGreatDoorNgWgn
import Derived.Test.YtfpcpociejefaaaGreatDoorSaA

namespace Go.Proofs.YtfpcpociejefaaaGreatDoor
open Go.RowKit Go.PlainAid
theorem TabV.keep {w w' : World} (h : TabV w) (k : Keep [] w w') : TabV w' := h.below k.below
theorem lit_any (x : VD) (hx : x.Ok) (hm : x.mayB = true) (u : Value) (w : World) (hu : Ts w u x.texts) (hT : TabV w) : ∃ (T : TypeId) (V : Value), (∀ w1, Keep [] w w1 → Calls Tryz.prog 44 #[x.val u] w1 fun e w' => e = .returned (.iface T V) ∧ Keep [] w1 w') ∧
  (∀ w1, Keep [] w w1 → Calls Tryz.prog 63 #[.iface T V] w1 fun e w' => e = .returned (.string (ba (litL x))) ∧ Keep [] w1 w') := by
 have hk := may_kind x hm
 obtain ⟨h1, h2, h3⟩ := may_short x hm
 obtain ⟨ao, ca, hsl, _⟩ := hu.ex
 have hs : ∃ a n c, u = .slice a n c := ⟨ao, _, ca, hsl⟩
 unfold litL
 by_cases c1 : x.kind = 1
 ·rw [if_pos c1]
  exact ⟨4, _, fun w1 _ => held_1 x c1 u hs w1, fun w1 _ => lit_1 x.bool w1⟩
 ·by_cases c2 : x.kind = 2
  ·rw [if_neg c1, if_pos c2]
   exact ⟨2, _, fun w1 _ => held_2 x c2 u hs w1, fun w1 k => lit_2 x.int hx.int0 hx.int1 w1 (hT.keep k)⟩
  ·by_cases c3 : x.kind = 3
   ·rw [if_neg c1, if_neg c2, if_pos c3]
    exact ⟨58, _, fun w1 _ => held_3 x c3 u hs w1, fun w1 k => lit_3 x.real hx.real1 w1 (hT.keep k)⟩
   ·by_cases c4 : x.kind = 4
    ·rw [if_neg c1, if_neg c2, if_neg c3, if_pos c4]
     exact ⟨9, _, fun w1 _ => held_4 x c4 u hs w1, fun w1 _ => lit_4 x.text h1 w1⟩
    ·rw [if_neg c1, if_neg c2, if_neg c3, if_neg c4]
     exact ⟨59, u, fun w1 _ => held_5 x (by omega) u hs w1, fun w1 k => lit_5 u x.texts h2 h3 w1 (hu.keep k (Off.nil _))⟩
set_option maxRecDepth 1000000 in
set_option maxHeartbeats 400000 in
theorem text_yes (x : VD) (hx : x.Ok) (hm : x.mayB = true) (u : Value) (w : World) (hu : Ts w u x.texts) (hT : TabV w) :
  Calls Tryz.prog 38 #[x.val u] w fun e w' => e = .returned (.tuple #[.string (ba (litL x)), .int .i64 0]) ∧ Keep [] w w' := by
 obtain ⟨T, V, hH, hL⟩ := lit_any x hx hm u w hu hT
 have hC := fun w1 (k : Keep [] w w1) => check_yes x hx u w1 (hu.keep k (Off.nil _)) hm
 obtain ⟨ao, ca, rfl, _, _, _, _⟩ := hu.ex
 have HH : Hid _ := hH
 have HL : Hid _ := hL
 have HCk : Hid _ := hC
 clear hu hx hm hH hL hC hT
 have K0 : Hid (Keep [] w (w.alloc (x.blk (.slice ao x.texts.length ca)))) := Keep.alloc1 w _
 generalize ba (litL x) = S at *
 go_enter Tryz.func38, Tryz.ntmps38
 go_wp2_with fail
 refine (HCk.out _ K0.out).mono ?_
 rintro e9 w1 ⟨rfl, k1⟩
 obtain ⟨⟨c0, c1, c2, c3, c4, c5⟩, _⟩ := six_cells k1 (by simp)
 have HK1 : Hid (Keep [] w w1) := K0.out.trans' k1
 clear HCk k1
 go_wp2_with fail
 refine (HH.out _ HK1.out).mono ?_
 rintro e9 w2 ⟨rfl, k2⟩
 have HK2 : Hid (Keep [] w w2) := HK1.out.trans' k2
 clear k2 c0 c1 c2 c3 c4 c5
 go_wp2_with fail
 refine (HL.out _ HK2.out).mono ?_
 rintro e9 w3 ⟨rfl, k3⟩
 have HK3 : Hid (Keep [] w w3) := HK2.out.trans' k3
 clear k3
 go_wp2
 go_ret2
 exact ⟨rfl, HK3.out⟩
end Go.Proofs.YtfpcpociejefaaaGreatDoor

/- The document's Text.  Way pos, short, below 0. -/
namespace Go.Proofs.YtfpcpociejefaaaGreatDoor
open Go.RowKit Go.PlainAid
set_option maxRecDepth 1000000 in
set_option maxHeartbeats 1600000 in
theorem rText_fn (x n m : Nat) (k : Int) (hx : x < 4294967296) (hn : nanB x = false) (hb : belowB x = true) (hr : rungN x = n) (h1 : 1 ≤ n) (h2 : n < 2139095040) (hm : ndF n = m) (hkE : exF n = k) (hk1 : 0 ≤ k) (hk2 : k ≤ 8) (hm1 : (m : Int) ≤ k + 1) (w : World) :
  Calls Tryz.prog 77 #[.float .f32 x] w fun e w' => (∃ T : ByteArray, e = .returned (.string T) ∧ T.data.toList = 45 :: textB n) ∧ Below w.heap.size w w' := by
 have hN := rIsNan_any x
 have hB := rBelow_any x hx
 have hU := number_any x hx hn
 rw [hr] at hU
 rw [hn] at hN
 rw [hb] at hB
 obtain ⟨L, hL⟩ : ∃ L : Int, k - (m : Int) + 1 = L := ⟨_, rfl⟩
 have hF := fun w => few_text n h1 h2 m L hm (by rw [hkE]; exact hL) w
 have hdl := digs_len n h1 h2
 have hnd := ndF_le n h1 h2
 have hE := exF_bounds n h1 h2
 rw [hm] at hdl hnd
 rw [hkE] at hE
 have hm10 : m ≤ 10 := by omega
 have hm0 : 1 ≤ m := hnd.1
 have hLk : L + (m : Int) - 1 = k := by omega
 have hTB : Hid (textB n = if exF n < -4 ∨ 8 < exF n then (digs n).take 1 ++ [46] ++ orB ((digs n).drop 1) ++ [101] ++ Lib.itoa (exF n) else plainB (digs n) (exF n)) := rfl
 have HKE : Hid (exF n = k) := hkE
 have HDL : Hid ((digs n).length = m) := hdl
 have t0 : ((n : Int) == 2139095040) = false := beq_eq_false_iff_ne.2 (by omega)
 have t1 : ((n : Int) == 0) = false := beq_eq_false_iff_ne.2 (by omega)
 have HS : Hid (∀ T : ByteArray, T.data.toList = digs n → T.size = m) := fun T h => by
  have h3 : T.data.toList.length = T.size := Array.length_toList
  rw [← h3, h]
  exact hdl
 obtain ⟨hE1, hE2⟩ := hE
 have hL1 : -120 ≤ L := by omega
 have hL2 : L ≤ 120 := by omega
 have hmi : (m : Int) ≤ 10 := by omega
 have hm0i : 1 ≤ (m : Int) := by omega
 clear hL hm hkE hnd hdl hn hb hr hx h2
 obtain ⟨K, hK⟩ : ∃ K : Nat, k + 1 = (K : Int) := ⟨(k + 1).toNat, by omega⟩
 have hK1 : (K : Int) ≤ 9 := by omega
 have hK0 : 1 ≤ (K : Int) := by omega
 obtain ⟨c, hc⟩ : ∃ c : Nat, (K : Int) - (m : Int) = (c : Int) := ⟨K - m, by omega⟩
 have hP := fun w => noughts_any c (by omega) w
 have hc9 : (c : Int) ≤ 9 := by omega
 have HX : Hid (textB n = digs n ++ List.replicate c 48 ++ [46, 48]) := by
  show _ = _
  rw [hTB.out, HKE.out, if_neg (by omega)]
  unfold plainB
  rw [if_neg (by omega), HDL.out, if_pos (by omega), show (k + 1 - (m : Int)).toNat = c by omega]
 have HZ : Hid (∀ U : ByteArray, U.data.toList = List.replicate c 48 → U.size = c) := fun U h => by
  have h3 : U.data.toList.length = U.size := Array.length_toList
  rw [← h3, h, List.length_replicate]
 have HZ2 : Hid (∀ T U : ByteArray, T.size = m → U.size = c → (T ++ U).size = K) := fun T U h1 h2 => by
  rw [ByteArray.size_append]
  omega
 clear hTB
 go_enter Tryz.func77, Tryz.ntmps77
 go_wp2_with (first
  | (go_at_call 97; refine (hN _).mono ?_; rintro e9 w9 ⟨rfl, hw9⟩; obtain rfl := hw9.symm)
  | (go_at_call 98; refine (hB _).mono ?_; rintro e9 w9 ⟨rfl, hw9⟩; obtain rfl := hw9.symm)
  | (go_at_call 99; refine (hU _).mono ?_; rintro e9 w9 ⟨rfl, hw9⟩; obtain rfl := hw9.symm)
  | (go_at_call 100; refine (hF _).mono ?_; rintro e9 w1 ⟨q, hq, rfl, hk1⟩; have HQ : Hid _ := hq; clear hq; have HK1 : Hid (Keep [] w w1) := hk1; clear hk1)
  | (go_at_call_of 101 (Value.int IntKind.i64 ((q : Nat) : Int)); refine (HQ.out _).mono ?_; rintro e9 w2 ⟨⟨T, rfl, hT⟩, hb2⟩; have hts := HS.out T hT; have HT : Hid (T.data.toList = digs n) := hT; have HK2 : Hid (Keep [] w w2) := HK1.out.trans' (Keep.ofBelow hb2); clear hb2 hT; skip)
  | (go_at_call 102; refine (hP _).mono ?_; rintro e9 w3 ⟨⟨U, rfl, hU2⟩, hw3⟩; obtain rfl := hw3.symm; have hus := HZ.out U hU2; have htu := HZ2.out T U hts hus; have HU : Hid (U.data.toList = List.replicate c 48) := hU2; clear hU2))
 go_ret
 exact ⟨⟨_, rfl, by rw [HX.out]; simp only [ba_app, ba_take, HT.out, HU.out]; rw [List.take_of_length_le (by rw [List.length_append, List.length_replicate, HDL.out]; omega)]; simp⟩, HK2.out.below⟩
end Go.Proofs.YtfpcpociejefaaaGreatDoor

/- The document's way of writing: Uint, bytes. -/
namespace Go.Proofs.YtfpcpociejefaaaGreatDoor
open Go.RowKit Go.PlainAid Go.Lib
set_option maxRecDepth 1000000 in
set_option maxHeartbeats 1600000 in
theorem dUint_any (x : Nat) (hx : x < 18446744073709551616) (v : Value) (l : List UInt8) (hl : l.length ≤ 10000000) (w w0 : World) (hv : Row w0 v l) (hk0 : Keep [] w w0) (hf0 : Fresh w w0 v) :
  Calls Tryz.prog 51 #[v, .int .u64 (x : Int)] w0 fun e w' => ∃ v', e = .returned v' ∧ Row w' v' (l ++ uvarint x) ∧ Fresh w w' v' ∧ Keep [] w w' ∧ Sl v' (l ++ uvarint x).length := by
 have hlen := uvarint_length64 hx
 go_enter Tryz.func51, Tryz.ntmps51
 go_wp2
 go_loopw [1, 0] (fun xv ov wr => ∃ (y : Nat) (acc : List UInt8), xv = .int .u64 (y : Int) ∧ y < 18446744073709551616 ∧ l ++ uvarint x = acc ++ uvarint y ∧ Row wr ov acc ∧ Keep [] w wr ∧ Fresh w wr ov)
  (fun xv _ _ => (RowKit.intOf xv).toNat)
 case atStart => exact ⟨x, l, rfl, hx, rfl, hv, hk0, hf0⟩
 case round =>
  obtain ⟨y, acc, rfl, hy, hu, hrow, hk, hf⟩ := hrel
  have hal : acc.length ≤ 10000010 := by have h9 := congrArg List.length hu; simp only [List.length_append] at h9; omega
  clear hv hk0 hf0
  by_cases hy1 : 128 ≤ y
  ·have hyi : (128 : Int) ≤ (y : Int) := by omega
   have HU : Hid (l ++ uvarint x = acc ++ [(y % 128 + 128).toUInt8] ++ uvarint (y / 128)) := by
    show l ++ uvarint x = acc ++ [(y % 128 + 128).toUInt8] ++ uvarint (y / 128)
    rw [hu, uvarint_big hy1]
    simp
   have hsrc := (Bs.one wr (y % 128 + 128) (by omega)).src
   have hr2 : Row (wr.alloc (.cells #[.int .u8 ((y % 128 + 128 : Nat) : Int)] TB)) u0 acc := hrow.keep (Keep.alloc1 wr _) (Off.nil _)
   have he : ((y % 128 + 128 : Nat) : Int) = (y : Int) % 128 + 128 := by omega
   rw [he] at hsrc hr2
   have HB : Hid (acc.length + [(y % 128 + 128).toUInt8].length ≤ 140737488355328) := by
    show acc.length + [(y % 128 + 128).toUInt8].length ≤ 140737488355328
    simp; omega
   have HKF : Hid (Keep [] w wr ∧ Fresh w wr u0) := ⟨hk, hf⟩
   clear hu hrow hk hf he
   generalize (y % 128 + 128).toUInt8 = cb at hsrc HB HU
   go_wp2_with (at_builtin; refine wp_app rfl (.tmp 7) (.tmp 12) 33 33 rfl underS _ acc rfl hr2 _ [cb] rfl hsrc HB.out ?_)
   intro v' w1 g1 g2 g3 g4
   have HA : Hid (Keep [] w w1 ∧ Fresh w w1 v') := app_fresh HKF.out.1 HKF.out.2 g2 g3
   have HR : Hid (Row w1 v' (acc ++ [cb])) := g1
   clear g1 g2 g3 g4 hsrc hr2
   go_wp2
   go_roundw
   case rel => exact ⟨y / 128, _, by go_num, by omega, HU.out, HR.out, HA.out.1, HA.out.2⟩
   case measure => simp [RowKit.intOf]; omega
  ·have hyi : ¬ ((128 : Int) ≤ (y : Int)) := by omega
   have HU : Hid (l ++ uvarint x = acc ++ [y.toUInt8]) := by
    show l ++ uvarint x = acc ++ [y.toUInt8]
    rw [hu, uvarint_small (by omega)]
   have hsrc := (Bs.one wr y (by omega)).src
   have hr2 : Row (wr.alloc (.cells #[.int .u8 (y : Int)] TB)) u0 acc := hrow.keep (Keep.alloc1 wr _) (Off.nil _)
   have HB : Hid (acc.length + [y.toUInt8].length ≤ 140737488355328) := by
    show acc.length + [y.toUInt8].length ≤ 140737488355328
    simp; omega
   have HKF : Hid (Keep [] w wr ∧ Fresh w wr u0) := ⟨hk, hf⟩
   clear hu hrow hk hf
   generalize y.toUInt8 = cb at hsrc HB HU
   go_wp2_with (at_builtin; refine wp_app rfl (.tmp 16) (.tmp 19) 33 33 rfl underS _ acc rfl hr2 _ [cb] rfl hsrc HB.out ?_)
   intro v' w1 g1 g2 g3 g4
   have HA : Hid (Keep [] w w1 ∧ Fresh w w1 v') := app_fresh HKF.out.1 HKF.out.2 g2 g3
   have HR : Hid (Row w1 v' (l ++ uvarint x) ∧ Sl v' (l ++ uvarint x).length) := by
    show Row w1 v' (l ++ uvarint x) ∧ Sl v' (l ++ uvarint x).length
    rw [HU.out]; exact ⟨g1, by simpa using g4⟩
   clear g1 g2 g3 g4 hsrc hr2
   go_wp2
   go_ret
   exact ⟨_, rfl, HR.out.1, HA.out.2, HA.out.1, HR.out.2⟩
set_option maxRecDepth 1000000 in
set_option maxHeartbeats 1600000 in
theorem dBytes_any (s : ByteArray) (hs : s.size ≤ 256) (v : Value) (l : List UInt8) (hl : l.length ≤ 50000) (w w0 : World) (hv : Row w0 v l) (hk0 : Keep [] w w0) (hf0 : Fresh w w0 v) :
  Calls Tryz.prog 80 #[v, .string s] w0 fun e w' => ∃ v', e = .returned v' ∧ Row w' v' (l ++ vtextB s) ∧ Fresh w w' v' ∧ Keep [] w w' ∧ Sl v' (l ++ vtextB s).length := by
 have hU := dUint_any s.size (by omega) v l (by omega) w w0 hv hk0 hf0
 have hlen := uvarint_length64 (x := s.size) (by omega)
 have hss : s.data.toList.length = s.size := by simp
 have hbt := get_bt s
 have hbt2 : ∀ i, i < s.size → bt s i = ((s.data.toList.getD i 0).toNat : Int) := by
  intro i hi
  rw [← hbt i hi, List.getD_eq_getElem?_getD, List.getElem?_eq_getElem (by rw [hss]; exact hi)]
  rfl
 clear hv hk0 hf0
 go_enter Tryz.func80, Tryz.ntmps80
 go_wp2_with fail
 refine hU.mono ?_
 rintro e1 w1 ⟨v1, rfl, r1, f1, k1, s1⟩
 have HI : Hid (Row w1 v1 (l ++ uvarint s.size) ∧ Fresh w w1 v1 ∧ Keep [] w w1 ∧ Sl v1 (l ++ uvarint s.size).length) := ⟨r1, f1, k1, s1⟩
 clear hU r1 f1 k1 s1
 go_wp2
 go_loopw [0, 5] (fun ov iv wr => ∃ (i : Nat), iv = .int .i64 (i : Int) ∧ i ≤ s.size ∧ Row wr ov (l ++ uvarint s.size ++ s.data.toList.take i) ∧ Keep [] w wr ∧ Fresh w wr ov ∧ Sl ov (l ++ uvarint s.size ++ s.data.toList.take i).length)
  (fun _ iv _ => s.size - (RowKit.intOf iv).toNat)
 case atStart => exact ⟨0, rfl, Nat.zero_le _, by simpa using HI.out.1, HI.out.2.2.1, HI.out.2.1, by simpa using HI.out.2.2.2⟩
 case round =>
  obtain ⟨i, rfl, hi, hrow, hk, hf, hsl⟩ := hrel
  clear HI
  by_cases hil : i < s.size
  ·have hili : (i : Int) < (s.size : Int) := by omega
   have hx := take_snoc s.data.toList i (by omega)
   have hb2 := hbt2 i hil
   generalize s.data.toList.getD i 0 = x at hx hb2
   have hsrc := (Bs.byte wr x).src
   have hr2 : Row (wr.alloc (.cells #[.int .u8 (x.toNat : Int)] TB)) u0 (l ++ uvarint s.size ++ s.data.toList.take i) := hrow.keep (Keep.alloc1 wr _) (Off.nil _)
   have HB : Hid ((l ++ uvarint s.size ++ s.data.toList.take i).length + [x].length ≤ 140737488355328) := by
    show (l ++ uvarint s.size ++ s.data.toList.take i).length + [x].length ≤ 140737488355328
    simp; omega
   have HX : Hid (l ++ uvarint s.size ++ s.data.toList.take (i + 1) = (l ++ uvarint s.size ++ s.data.toList.take i) ++ [x]) := by
    show l ++ uvarint s.size ++ s.data.toList.take (i + 1) = (l ++ uvarint s.size ++ s.data.toList.take i) ++ [x]
    rw [hx, List.append_assoc (l ++ uvarint s.size)]
   have HKF : Hid (Keep [] w wr ∧ Fresh w wr u0) := ⟨hk, hf⟩
   clear hx hrow hk hf hbt2 hsl
   generalize l ++ uvarint s.size ++ s.data.toList.take i = acc at hr2 HB HX
   go_wp2_with (at_builtin; refine wp_app rfl (.tmp 17) (.tmp 21) 33 33 rfl underS _ acc rfl hr2 _ [x] rfl hsrc HB.out ?_)
   intro v' w2 g1 g2 g3 g4
   have HA : Hid (Keep [] w w2 ∧ Fresh w w2 v') := app_fresh HKF.out.1 HKF.out.2 g2 g3
   have HR : Hid (Row w2 v' (l ++ uvarint s.size ++ s.data.toList.take (i + 1)) ∧ Sl v' (l ++ uvarint s.size ++ s.data.toList.take (i + 1)).length) := by
    show Row w2 v' (l ++ uvarint s.size ++ s.data.toList.take (i + 1)) ∧ Sl v' (l ++ uvarint s.size ++ s.data.toList.take (i + 1)).length
    rw [HX.out]; exact ⟨g1, by simpa using g4⟩
   clear g1 g2 g3 g4 hsrc hr2
   go_wp2
   go_roundw
   case rel => exact ⟨i + 1, by go_num, by omega, HR.out.1, HA.out.1, HA.out.2, HR.out.2⟩
   case measure => simp [RowKit.intOf]; omega
  ·have hili : ¬ ((i : Int) < (s.size : Int)) := by omega
   rw [List.take_of_length_le (by omega), List.append_assoc] at hrow hsl
   have HL : Hid (Row wr u0 (l ++ vtextB s) ∧ Fresh w wr u0 ∧ Keep [] w wr ∧ Sl u0 (l ++ vtextB s).length) := ⟨hrow, hf, hk, hsl⟩
   clear hrow hk hf hsl hbt2 hbt hss
   go_wp2
   go_ret
   exact ⟨u0, rfl, by simpa using HL.out⟩
end Go.Proofs.YtfpcpociejefaaaGreatDoor

/- The document's Encode: a value's bytes. -/
namespace Go.Proofs.YtfpcpociejefaaaGreatDoor
open Go.RowKit Go.PlainAid Go.Lib
/-- what Encode says of a value that may be -/
def EncA (x : VD) (w : World) (e : Ending) (w' : World) : Prop := ∃ v, e = .returned (.tuple #[v, .int .i64 0]) ∧ (Row w' v (encL x) ∧ Fresh w w' v ∧ Sl v (encL x).length) ∧ Keep [] w w'
theorem Row.one (w : World) (c : Nat) (hc : c < 256) : Row (w.alloc (.cells #[.int .u8 (c : Int)] TB)) (.slice (some ⟨w.heap.size, 0, none⟩) 1 1) [c.toUInt8] := by
 have e : (c : Int) = ((c.toUInt8).toNat : Int) := by simp; omega
 rw [e]
 exact World.ownsRow_lit w #[.int .u8 ((c.toUInt8).toNat : Int)] 1 (Nat.zero_le _) (by unfold maxLen; omega) rfl
set_option maxRecDepth 1000000 in
set_option maxHeartbeats 1600000 in
theorem dEncode_4 (x : VD) (hx : x.Ok) (hm : x.mayB = true) (hkd : x.kind = 4) (u : Value) (w : World) (hu : Ts w u x.texts) :
  Calls Tryz.prog 52 #[x.val u] w fun e w' => EncA x w e w' := by
 have hC := fun w1 (k : Keep [] w w1) => rMay_any x hx u w1 (hu.keep k (Off.nil _))
 rw [hm] at hC
 have HOK : Hid (x.Ok ∧ x.mayB = true) := ⟨hx, hm⟩
 have HU : Hid (Ts w u x.texts) := hu
 have HE : Hid (encL x = [4] ++ bodyL x) := show encL x = [4] ++ bodyL x by unfold encL; rw [hkd]; rfl
 have HKD : Hid (x.kind = 4) := hkd
 obtain ⟨ao, ca, rfl, hl1, hl2, _, _⟩ := hu.ex
 clear hu hx hm hkd
 have K0 : Hid (Keep [] w (w.alloc (x.blk (.slice ao x.texts.length ca)))) := Keep.alloc1 w _
 go_enter Tryz.func52, Tryz.ntmps52
 go_wp2_with fail
 refine (hC _ K0.out).mono ?_
 rintro e1 w1 ⟨rfl, k1⟩
 obtain ⟨⟨c0, c1, c2, c3, c4, c5⟩, _⟩ := six_cells k1 (by simp)
 rw [HKD.out] at c0
 have HK1 : Hid (Keep [] w w1) := K0.out.trans' k1
 have hs1 : w.heap.size < w1.heap.size := by have := k1.size; simp at this; omega
 have HR : Hid (Row (w1.alloc (.cells #[.int .u8 4] TB)) (.slice (some ⟨w1.heap.size, 0, none⟩) 1 1) [4] ∧ Fresh w (w1.alloc (.cells #[.int .u8 4] TB)) (.slice (some ⟨w1.heap.size, 0, none⟩) 1 1) ∧ Keep [] w (w1.alloc (.cells #[.int .u8 4] TB))) := by
  refine ⟨Row.one w1 4 (by omega), ?_, HK1.out.alloc _⟩
  intro k hk
  simp [Value.ownBlock] at hk
  subst hk
  exact ⟨by omega, by simp⟩
 have kz : Keep [] w1 (w1.alloc (.cells #[.int .u8 4] TB)) := Keep.alloc1 w1 _
 have d0 := kz.cell' c0 (by simp)
 have d1 := kz.cell' c1 (by simp)
 have d2 := kz.cell' c2 (by simp)
 have d3 := kz.cell' c3 (by simp)
 have d4 := kz.cell' c4 (by simp)
 have d5 := kz.cell' c5 (by simp)
 clear k1 hC kz
 have hB := dBytes_any x.text (may_short x HOK.out.2).1 _ [4] (by simp) w _ HR.out.1 HR.out.2.2 HR.out.2.1
 go_wp2_with fail
 refine hB.mono ?_
 rintro e2 w2 ⟨v2, rfl, g1, g2, g3, g4⟩
 have HF : Hid ((Row w2 v2 (encL x) ∧ Fresh w w2 v2 ∧ Sl v2 (encL x).length) ∧ Keep [] w w2) := by
  show (Row w2 v2 (encL x) ∧ Fresh w w2 v2 ∧ Sl v2 (encL x).length) ∧ Keep [] w w2
  have hb : bodyL x = vtextB x.text := by unfold bodyL; rw [HKD.out]; rfl
  rw [HE.out, hb]
  exact ⟨⟨g1, g2, g4⟩, g3⟩
 obtain ⟨a9, c9, rfl⟩ := g4
 clear g1 g2 g3 hB
 go_wp2
 go_ret2
 exact ⟨_, rfl, HF.out⟩
end Go.Proofs.YtfpcpociejefaaaGreatDoor

/- The document's Encode, further kinds. -/
namespace Go.Proofs.YtfpcpociejefaaaGreatDoor
open Go.RowKit Go.PlainAid Go.Lib
set_option maxRecDepth 1000000 in
set_option maxHeartbeats 1600000 in
theorem dEncode_3 (x : VD) (hx : x.Ok) (hm : x.mayB = true) (hkd : x.kind = 3) (u : Value) (w : World) (hu : Ts w u x.texts) :
  Calls Tryz.prog 52 #[x.val u] w fun e w' => EncA x w e w' := by
 have hC := fun w1 (k : Keep [] w w1) => rMay_any x hx u w1 (hu.keep k (Off.nil _))
 rw [hm] at hC
 have HOK : Hid (x.Ok ∧ x.mayB = true) := ⟨hx, hm⟩
 have HU : Hid (Ts w u x.texts) := hu
 have HE : Hid (encL x = [3] ++ bodyL x) := show encL x = [3] ++ bodyL x by unfold encL; rw [hkd]; rfl
 have HKD : Hid (x.kind = 3) := hkd
 obtain ⟨ao, ca, rfl, hl1, hl2, _, _⟩ := hu.ex
 clear hu hx hm hkd
 have K0 : Hid (Keep [] w (w.alloc (x.blk (.slice ao x.texts.length ca)))) := Keep.alloc1 w _
 go_enter Tryz.func52, Tryz.ntmps52
 go_wp2_with fail
 refine (hC _ K0.out).mono ?_
 rintro e1 w1 ⟨rfl, k1⟩
 obtain ⟨⟨c0, c1, c2, c3, c4, c5⟩, _⟩ := six_cells k1 (by simp)
 rw [HKD.out] at c0
 have HK1 : Hid (Keep [] w w1) := K0.out.trans' k1
 have hs1 : w.heap.size < w1.heap.size := by have := k1.size; simp at this; omega
 have HR : Hid (Row (w1.alloc (.cells #[.int .u8 3] TB)) (.slice (some ⟨w1.heap.size, 0, none⟩) 1 1) [3] ∧ Fresh w (w1.alloc (.cells #[.int .u8 3] TB)) (.slice (some ⟨w1.heap.size, 0, none⟩) 1 1) ∧ Keep [] w (w1.alloc (.cells #[.int .u8 3] TB))) := by
  refine ⟨Row.one w1 3 (by omega), ?_, HK1.out.alloc _⟩
  intro k hk
  simp [Value.ownBlock] at hk
  subst hk
  exact ⟨by omega, by simp⟩
 have kz : Keep [] w1 (w1.alloc (.cells #[.int .u8 3] TB)) := Keep.alloc1 w1 _
 have d0 := kz.cell' c0 (by simp)
 have d1 := kz.cell' c1 (by simp)
 have d2 := kz.cell' c2 (by simp)
 have d3 := kz.cell' c3 (by simp)
 have d4 := kz.cell' c4 (by simp)
 have d5 := kz.cell' c5 (by simp)
 clear k1 hC kz
 have hr1 := HOK.out.1.real1
 have hkl := keyN_lt x.real hr1
 have hKy := rKey_any x.real hr1
 have HBO : Hid (bodyL x = four (keyN x.real)) := show bodyL x = four (keyN x.real) by unfold bodyL; rw [HKD.out]; rfl
 generalize keyN x.real = k at *
 go_wp2_with fail
 refine (hKy _).mono ?_
 rintro e5 w5 ⟨rfl, hw5⟩
 obtain rfl := hw5.symm
 have hb4 := (Bs.four (w1.alloc (.cells #[.int .u8 3] TB)) k).src
 rw [show ((k / 16777216 % 256 : Nat) : Int) = (k : Int) / 16777216 by omega, show ((k / 65536 % 256 : Nat) : Int) = (k : Int) / 65536 % 256 by omega, show ((k / 256 % 256 : Nat) : Int) = (k : Int) / 256 % 256 by omega, show ((k % 256 : Nat) : Int) = (k : Int) % 256 by omega] at hb4
 have hsrc := hb4
 rw [show (w1.alloc (.cells #[.int .u8 3] TB)).heap.size = w1.heap.size + 1 by simp] at hsrc
 have hr2 : Row ((w1.alloc (.cells #[.int .u8 3] TB)).alloc (.cells #[.int .u8 ((k : Int) / 16777216), .int .u8 ((k : Int) / 65536 % 256), .int .u8 ((k : Int) / 256 % 256), .int .u8 ((k : Int) % 256)] TB)) (.slice (some ⟨w1.heap.size, 0, none⟩) 1 1) [3] := HR.out.1.keep (Keep.alloc1 _ _) (Off.nil _)
 go_wp2_with (at_builtin; refine wp_app rfl (.tmp 51) (.tmp 63) 33 33 rfl underS _ [3] rfl hr2 _ (four k) rfl hsrc (by simp [four]) ?_)
 intro v2 w2 g1 g2' g3' g4
 obtain ⟨g3, g2⟩ := app_fresh HR.out.2.2 HR.out.2.1 g2' g3'
 clear g2' g3' hsrc hr2
 clear hb4 hKy
 have HF : Hid ((Row w2 v2 (encL x) ∧ Fresh w w2 v2 ∧ Sl v2 (encL x).length) ∧ Keep [] w w2) := by
  show (Row w2 v2 (encL x) ∧ Fresh w w2 v2 ∧ Sl v2 (encL x).length) ∧ Keep [] w w2
  rw [HE.out, HBO.out]
  exact ⟨⟨g1, g2, g4⟩, g3⟩
 obtain ⟨a9, c9, rfl⟩ := g4
 clear g1 g2 g3
 go_wp2
 go_ret2
 exact ⟨_, rfl, HF.out⟩
end Go.Proofs.YtfpcpociejefaaaGreatDoor

/- The document's Encode, further kinds. -/
namespace Go.Proofs.YtfpcpociejefaaaGreatDoor
open Go.RowKit Go.PlainAid Go.Lib
set_option maxRecDepth 1000000 in
set_option maxHeartbeats 1600000 in
theorem dEncode_5 (x : VD) (hx : x.Ok) (hm : x.mayB = true) (hkd : x.kind = 5) (u : Value) (w : World) (hu : Ts w u x.texts) :
  Calls Tryz.prog 52 #[x.val u] w fun e w' => EncA x w e w' := by
 have hC := fun w1 (k : Keep [] w w1) => rMay_any x hx u w1 (hu.keep k (Off.nil _))
 rw [hm] at hC
 have HOK : Hid (x.Ok ∧ x.mayB = true) := ⟨hx, hm⟩
 have HU : Hid (Ts w u x.texts) := hu
 have HE : Hid (encL x = [5] ++ bodyL x) := show encL x = [5] ++ bodyL x by unfold encL; rw [hkd]; rfl
 have HKD : Hid (x.kind = 5) := hkd
 obtain ⟨ao, ca, rfl, hl1, hl2, _, _⟩ := hu.ex
 clear hu hx hm hkd
 have K0 : Hid (Keep [] w (w.alloc (x.blk (.slice ao x.texts.length ca)))) := Keep.alloc1 w _
 go_enter Tryz.func52, Tryz.ntmps52
 go_wp2_with fail
 refine (hC _ K0.out).mono ?_
 rintro e1 w1 ⟨rfl, k1⟩
 obtain ⟨⟨c0, c1, c2, c3, c4, c5⟩, _⟩ := six_cells k1 (by simp)
 rw [HKD.out] at c0
 have HK1 : Hid (Keep [] w w1) := K0.out.trans' k1
 have hs1 : w.heap.size < w1.heap.size := by have := k1.size; simp at this; omega
 have HR : Hid (Row (w1.alloc (.cells #[.int .u8 5] TB)) (.slice (some ⟨w1.heap.size, 0, none⟩) 1 1) [5] ∧ Fresh w (w1.alloc (.cells #[.int .u8 5] TB)) (.slice (some ⟨w1.heap.size, 0, none⟩) 1 1) ∧ Keep [] w (w1.alloc (.cells #[.int .u8 5] TB))) := by
  refine ⟨Row.one w1 5 (by omega), ?_, HK1.out.alloc _⟩
  intro k hk
  simp [Value.ownBlock] at hk
  subst hk
  exact ⟨by omega, by simp⟩
 have kz : Keep [] w1 (w1.alloc (.cells #[.int .u8 5] TB)) := Keep.alloc1 w1 _
 have d0 := kz.cell' c0 (by simp)
 have d1 := kz.cell' c1 (by simp)
 have d2 := kz.cell' c2 (by simp)
 have d3 := kz.cell' c3 (by simp)
 have d4 := kz.cell' c4 (by simp)
 have d5 := kz.cell' c5 (by simp)
 clear k1 hC kz
 have hsh := may_short x HOK.out.2
 have HSH : Hid (∀ s ∈ x.texts, s.size ≤ 256) := hsh.2.2
 have hn32 : x.texts.length ≤ 32 := hsh.2.1
 have hul := uvarint_length64 (x := x.texts.length) (by omega)
 have HBO : Hid (bodyL x = uvarint x.texts.length ++ textsB x.texts) := show bodyL x = uvarint x.texts.length ++ textsB x.texts by unfold bodyL; rw [HKD.out]; rfl
 have hU := dUint_any x.texts.length (by omega) _ [5] (by simp) w1 _ HR.out.1 (Keep.alloc1 w1 _) (by
  intro k hk
  simp [Value.ownBlock] at hk
  subst hk
  exact ⟨Nat.le_refl _, by simp⟩)
 clear hsh
 go_wp2_with fail
 refine hU.mono ?_
 rintro e2 w2 ⟨v2, rfl, g1, g2, g3, g4⟩
 have HI : Hid (Row w2 v2 ([5] ++ uvarint x.texts.length) ∧ Keep [] w1 w2 ∧ Fresh w1 w2 v2 ∧ Sl v2 ([5] ++ uvarint x.texts.length).length) := ⟨g1, g3, g2, g4⟩
 clear g1 g2 g3 g4 hU d0 d1 d2 d3 d4 d5 HR
 go_wp2
 go_loopw [4, 6] (fun ov iv wr => ∃ (i : Nat), iv = .int .i64 (i : Int) ∧ i ≤ x.texts.length ∧ Hid (Row wr ov ([5] ++ uvarint x.texts.length ++ textsB (x.texts.take i)) ∧ Keep [] w1 wr ∧ Fresh w1 wr ov ∧ Sl ov ([5] ++ uvarint x.texts.length ++ textsB (x.texts.take i)).length))
  (fun _ iv _ => x.texts.length - (RowKit.intOf iv).toNat)
 case atStart => exact ⟨0, rfl, Nat.zero_le _, by show _ ∧ _; simpa [textsB] using HI.out⟩
 case round =>
  obtain ⟨i, rfl, hi, hI⟩ := hrel
  clear HI
  have f5 := hI.out.2.1.cell' c5 (by simp)
  by_cases hil : i < x.texts.length
  ·have hili : (i : Int) < (x.texts.length : Int) := by omega
   obtain ⟨bb, oo, cc, he, hcc, hcc2, e5⟩ := (HU.out.keep (HK1.out.trans' hI.out.2.1) (Off.nil _)).at' i hil
   simp at he
   obtain ⟨rfl, rfl⟩ := he
   have HD : Hid (textsB (x.texts.take (i + 1)) = textsB (x.texts.take i) ++ vtextB x.texts[i]) := show textsB (x.texts.take (i + 1)) = textsB (x.texts.take i) ++ vtextB x.texts[i] by
    unfold textsB; rw [List.take_succ_eq_append_getElem hil, List.flatMap_append, List.flatMap_singleton]
   have hs := HSH.out x.texts[i] (List.getElem_mem hil)
   have htl := textsB_len (x.texts.take i) (fun s hs => HSH.out s (List.mem_of_mem_take hs))
   rw [List.length_take] at htl
   generalize x.texts[i] = t at e5 HD hs
   have hB := dBytes_any t hs u4 ([5] ++ uvarint x.texts.length ++ textsB (x.texts.take i)) (by simp; omega) w1 wr hI.out.1 hI.out.2.1 hI.out.2.2.1
   clear hI htl
   go_wp2_with fail
   refine hB.mono ?_
   rintro e3 w3 ⟨v3, rfl, g1, g2, g3, g4⟩
   have HX : Hid (Row w3 v3 ([5] ++ uvarint x.texts.length ++ textsB (x.texts.take (i + 1))) ∧ Keep [] w1 w3 ∧ Fresh w1 w3 v3 ∧ Sl v3 ([5] ++ uvarint x.texts.length ++ textsB (x.texts.take (i + 1))).length) := by
    show _ ∧ _
    rw [HD.out, ← List.append_assoc]
    exact ⟨g1, g3, g2, g4⟩
   clear g1 g2 g3 g4 hB e5 f5
   go_wp2
   go_roundw
   case rel => exact ⟨i + 1, by go_num, by omega, HX⟩
   case measure => simp [RowKit.intOf]; omega
  ·have hili : ¬ ((i : Int) < (x.texts.length : Int)) := by omega
   have HF : Hid ((Row wr u4 (encL x) ∧ Fresh w wr u4 ∧ Sl u4 (encL x).length) ∧ Keep [] w wr) := by
    show (Row wr u4 (encL x) ∧ Fresh w wr u4 ∧ Sl u4 (encL x).length) ∧ Keep [] w wr
    obtain ⟨g1, g2, g3, g4⟩ := hI.out
    rw [List.take_of_length_le (by omega), List.append_assoc] at g1 g4
    rw [HE.out, HBO.out]
    exact ⟨⟨g1, g3.earlier HK1.out.size, g4⟩, HK1.out.trans' g2⟩
   obtain ⟨a9, c9, rfl⟩ := HF.out.1.2.2
   clear hI
   go_wp2
   go_ret2
   exact ⟨_, rfl, HF.out⟩
end Go.Proofs.YtfpcpociejefaaaGreatDoor
