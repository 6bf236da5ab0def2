/- The document's Encode, further kinds. -/
import Derived.Test.YtfpcpociejefaaaGreatDoorDcM5
import Derived.Test.YtfpcpociejefaaaGreatDoorTwD
import Derived.Test.YtfpcpociejefaaaGreatDoorQuJ

namespace Go.Proofs.YtfpcpociejefaaaGreatDoor
open Go.RowKit Go.PlainAid Go.Lib
set_option maxRecDepth 1000000 in
set_option maxHeartbeats 1600000 in
theorem dEncode_1 (x : VD) (hx : x.Ok) (hm : x.mayB = true) (hkd : x.kind = 1) (u : Value) (w : World) (hu : Ts w u x.texts) :
  Calls Tryz.prog 52 #[x.val u] w fun e w' => EncA x w e w' := by
 have hC := fun w1 (k : Keep [] w w1) => rMay_any x hx u w1 (hu.keep k (Off.nil _))
 rw [hm] at hC
 have HOK : Hid (x.Ok ∧ x.mayB = true) := ⟨hx, hm⟩
 have HU : Hid (Ts w u x.texts) := hu
 have HE : Hid (encL x = [1] ++ bodyL x) := show encL x = [1] ++ bodyL x by unfold encL; rw [hkd]; rfl
 have HKD : Hid (x.kind = 1) := hkd
 obtain ⟨ao, ca, rfl, hl1, hl2, _, _⟩ := hu.ex
 clear hu hx hm hkd
 have K0 : Hid (Keep [] w (w.alloc (x.blk (.slice ao x.texts.length ca)))) := Keep.alloc1 w _
 go_enter Tryz.func52, Tryz.ntmps52
 go_wp2_with fail
 refine (hC _ K0.out).mono ?_
 rintro e1 w1 ⟨rfl, k1⟩
 obtain ⟨⟨c0, c1, c2, c3, c4, c5⟩, _⟩ := six_cells k1 (by simp)
 rw [HKD.out] at c0
 have HK1 : Hid (Keep [] w w1) := K0.out.trans' k1
 have hs1 : w.heap.size < w1.heap.size := by have := k1.size; simp at this; omega
 have HR : Hid (Row (w1.alloc (.cells #[.int .u8 1] TB)) (.slice (some ⟨w1.heap.size, 0, none⟩) 1 1) [1] ∧ Fresh w (w1.alloc (.cells #[.int .u8 1] TB)) (.slice (some ⟨w1.heap.size, 0, none⟩) 1 1) ∧ Keep [] w (w1.alloc (.cells #[.int .u8 1] TB))) := by
  refine ⟨Row.one w1 1 (by omega), ?_, HK1.out.alloc _⟩
  intro k hk
  simp [Value.ownBlock] at hk
  subst hk
  exact ⟨by omega, by simp⟩
 have kz : Keep [] w1 (w1.alloc (.cells #[.int .u8 1] TB)) := Keep.alloc1 w1 _
 have d0 := kz.cell' c0 (by simp)
 have d1 := kz.cell' c1 (by simp)
 have d2 := kz.cell' c2 (by simp)
 have d3 := kz.cell' c3 (by simp)
 have d4 := kz.cell' c4 (by simp)
 have d5 := kz.cell' c5 (by simp)
 clear k1 hC kz
 obtain ⟨bb, hbb⟩ : ∃ bb, bb = x.bool := ⟨_, rfl⟩
 have HBO : Hid (bodyL x = [if bb then 1 else 0]) := show bodyL x = [if bb then 1 else 0] by unfold bodyL; rw [HKD.out, hbb]; rfl
 rw [← hbb] at d1
 clear hbb
 cases bb
 ·have hsrc := (Bs.one (w1.alloc (.cells #[.int .u8 1] TB)) 0 (by omega)).src
  rw [show (w1.alloc (.cells #[.int .u8 1] TB)).heap.size = w1.heap.size + 1 by simp] at hsrc
  have hr2 : Row ((w1.alloc (.cells #[.int .u8 1] TB)).alloc (.cells #[.int .u8 0] TB)) (.slice (some ⟨w1.heap.size, 0, none⟩) 1 1) [1] := HR.out.1.keep (Keep.alloc1 _ _) (Off.nil _)
  go_wp2_with (at_builtin; refine wp_app rfl (.tmp 23) (.tmp 24) 33 33 rfl underS _ [1] rfl hr2 _ [(0 : Nat).toUInt8] rfl hsrc (by simp) ?_)
  intro v2 w2 g1 g2' g3' g4
  obtain ⟨g3, g2⟩ := app_fresh HR.out.2.2 HR.out.2.1 g2' g3'
  clear g2' g3' hsrc hr2
  have HF : Hid ((Row w2 v2 (encL x) ∧ Fresh w w2 v2 ∧ Sl v2 (encL x).length) ∧ Keep [] w w2) := by
   show (Row w2 v2 (encL x) ∧ Fresh w w2 v2 ∧ Sl v2 (encL x).length) ∧ Keep [] w w2
   rw [HE.out, HBO.out]
   exact ⟨⟨g1, g2, g4⟩, g3⟩
  obtain ⟨a9, c9, rfl⟩ := g4
  clear g1 g2 g3
  go_wp2
  go_ret2
  exact ⟨_, rfl, HF.out⟩
 ·have hsrc := (Bs.one (w1.alloc (.cells #[.int .u8 1] TB)) 1 (by omega)).src
  rw [show (w1.alloc (.cells #[.int .u8 1] TB)).heap.size = w1.heap.size + 1 by simp] at hsrc
  have hr2 : Row ((w1.alloc (.cells #[.int .u8 1] TB)).alloc (.cells #[.int .u8 1] TB)) (.slice (some ⟨w1.heap.size, 0, none⟩) 1 1) [1] := HR.out.1.keep (Keep.alloc1 _ _) (Off.nil _)
  go_wp2_with (at_builtin; refine wp_app rfl (.tmp 20) (.tmp 21) 33 33 rfl underS _ [1] rfl hr2 _ [(1 : Nat).toUInt8] rfl hsrc (by simp) ?_)
  intro v2 w2 g1 g2' g3' g4
  obtain ⟨g3, g2⟩ := app_fresh HR.out.2.2 HR.out.2.1 g2' g3'
  clear g2' g3' hsrc hr2
  have HF : Hid ((Row w2 v2 (encL x) ∧ Fresh w w2 v2 ∧ Sl v2 (encL x).length) ∧ Keep [] w w2) := by
   show (Row w2 v2 (encL x) ∧ Fresh w w2 v2 ∧ Sl v2 (encL x).length) ∧ Keep [] w w2
   rw [HE.out, HBO.out]
   exact ⟨⟨g1, g2, g4⟩, g3⟩
  obtain ⟨a9, c9, rfl⟩ := g4
  clear g1 g2 g3
  go_wp2
  go_ret2
  exact ⟨_, rfl, HF.out⟩
end Go.Proofs.YtfpcpociejefaaaGreatDoor

/- The document's Encode, further kinds. -/
namespace Go.Proofs.YtfpcpociejefaaaGreatDoor
open Go.RowKit Go.PlainAid Go.Lib
set_option maxRecDepth 1000000 in
set_option maxHeartbeats 1600000 in
theorem dEncode_2 (x : VD) (hx : x.Ok) (hm : x.mayB = true) (hkd : x.kind = 2) (u : Value) (w : World) (hu : Ts w u x.texts) :
  Calls Tryz.prog 52 #[x.val u] w fun e w' => EncA x w e w' := by
 have hC := fun w1 (k : Keep [] w w1) => rMay_any x hx u w1 (hu.keep k (Off.nil _))
 rw [hm] at hC
 have HOK : Hid (x.Ok ∧ x.mayB = true) := ⟨hx, hm⟩
 have HU : Hid (Ts w u x.texts) := hu
 have HE : Hid (encL x = [2] ++ bodyL x) := show encL x = [2] ++ bodyL x by unfold encL; rw [hkd]; rfl
 have HKD : Hid (x.kind = 2) := hkd
 obtain ⟨ao, ca, rfl, hl1, hl2, _, _⟩ := hu.ex
 clear hu hx hm hkd
 have K0 : Hid (Keep [] w (w.alloc (x.blk (.slice ao x.texts.length ca)))) := Keep.alloc1 w _
 go_enter Tryz.func52, Tryz.ntmps52
 go_wp2_with fail
 refine (hC _ K0.out).mono ?_
 rintro e1 w1 ⟨rfl, k1⟩
 obtain ⟨⟨c0, c1, c2, c3, c4, c5⟩, _⟩ := six_cells k1 (by simp)
 rw [HKD.out] at c0
 have HK1 : Hid (Keep [] w w1) := K0.out.trans' k1
 have hs1 : w.heap.size < w1.heap.size := by have := k1.size; simp at this; omega
 have HR : Hid (Row (w1.alloc (.cells #[.int .u8 2] TB)) (.slice (some ⟨w1.heap.size, 0, none⟩) 1 1) [2] ∧ Fresh w (w1.alloc (.cells #[.int .u8 2] TB)) (.slice (some ⟨w1.heap.size, 0, none⟩) 1 1) ∧ Keep [] w (w1.alloc (.cells #[.int .u8 2] TB))) := by
  refine ⟨Row.one w1 2 (by omega), ?_, HK1.out.alloc _⟩
  intro k hk
  simp [Value.ownBlock] at hk
  subst hk
  exact ⟨by omega, by simp⟩
 have kz : Keep [] w1 (w1.alloc (.cells #[.int .u8 2] TB)) := Keep.alloc1 w1 _
 have d0 := kz.cell' c0 (by simp)
 have d1 := kz.cell' c1 (by simp)
 have d2 := kz.cell' c2 (by simp)
 have d3 := kz.cell' c3 (by simp)
 have d4 := kz.cell' c4 (by simp)
 have d5 := kz.cell' c5 (by simp)
 clear k1 hC kz
 have hi0 := HOK.out.1.int0
 have hi1 := HOK.out.1.int1
 have hb : bodyL x = uvarint (zigzag x.int) := by unfold bodyL; rw [HKD.out]; rfl
 have HBX : Hid (bodyL x = uvarint (zigzag x.int)) := hb
 clear hb
 generalize x.int = z at *
 by_cases hz : z < 0
 ·obtain ⟨y, rfl⟩ : ∃ y : Nat, z = -(y : Int) - 1 := ⟨(-z - 1).toNat, by omega⟩
  have hy : y ≤ 9223372036854775807 := by omega
  have HBO : Hid (bodyL x = uvarint (y * 2 + 1)) := show bodyL x = uvarint (y * 2 + 1) by rw [HBX.out]; congr 1; unfold zigzag; rw [if_neg (by omega)]; omega
  clear HBX
  have hU := dUint_any (y * 2 + 1) (by omega) _ [2] (by simp) w _ HR.out.1 HR.out.2.2 HR.out.2.1
  rw [show ((y * 2 + 1 : Nat) : Int) = (y : Int) * 2 + 1 by omega] at hU
  go_wp2_with fail
  refine hU.mono ?_
  rintro e2 w2 ⟨v2, rfl, g1, g2, g3, g4⟩
  clear hU
  have HF : Hid ((Row w2 v2 (encL x) ∧ Fresh w w2 v2 ∧ Sl v2 (encL x).length) ∧ Keep [] w w2) := by
   show (Row w2 v2 (encL x) ∧ Fresh w w2 v2 ∧ Sl v2 (encL x).length) ∧ Keep [] w w2
   rw [HE.out, HBO.out]
   exact ⟨⟨g1, g2, g4⟩, g3⟩
  obtain ⟨a9, c9, rfl⟩ := g4
  clear g1 g2 g3
  go_wp2
  go_ret2
  exact ⟨_, rfl, HF.out⟩
 ·obtain ⟨y, rfl⟩ : ∃ y : Nat, z = (y : Int) := ⟨z.toNat, by omega⟩
  have hy : y ≤ 9223372036854775807 := by omega
  have HBO : Hid (bodyL x = uvarint (y * 2)) := show bodyL x = uvarint (y * 2) by rw [HBX.out]; congr 1; unfold zigzag; rw [if_pos (by omega)]; omega
  clear HBX
  have hU := dUint_any (y * 2) (by omega) _ [2] (by simp) w _ HR.out.1 HR.out.2.2 HR.out.2.1
  rw [show ((y * 2 : Nat) : Int) = (y : Int) * 2 by omega] at hU
  go_wp2_with fail
  refine hU.mono ?_
  rintro e2 w2 ⟨v2, rfl, g1, g2, g3, g4⟩
  clear hU
  have HF : Hid ((Row w2 v2 (encL x) ∧ Fresh w w2 v2 ∧ Sl v2 (encL x).length) ∧ Keep [] w w2) := by
   show (Row w2 v2 (encL x) ∧ Fresh w w2 v2 ∧ Sl v2 (encL x).length) ∧ Keep [] w w2
   rw [HE.out, HBO.out]
   exact ⟨⟨g1, g2, g4⟩, g3⟩
  obtain ⟨a9, c9, rfl⟩ := g4
  clear g1 g2 g3
  go_wp2
  go_ret2
  exact ⟨_, rfl, HF.out⟩
end Go.Proofs.YtfpcpociejefaaaGreatDoor

/- The document's Encode, of any value. -/
namespace Go.Proofs.YtfpcpociejefaaaGreatDoor
open Go.RowKit Go.PlainAid Go.Lib
theorem dEncode_yes (x : VD) (hx : x.Ok) (hm : x.mayB = true) (u : Value) (w : World) (hu : Ts w u x.texts) :
  Calls Tryz.prog 52 #[x.val u] w fun e w' => EncA x w e w' := by
 have hk := may_kind x hm
 by_cases h1 : x.kind = 1
 ·exact dEncode_1 x hx hm h1 u w hu
 by_cases h2 : x.kind = 2
 ·exact dEncode_2 x hx hm h2 u w hu
 by_cases h3 : x.kind = 3
 ·exact dEncode_3 x hx hm h3 u w hu
 by_cases h4 : x.kind = 4
 ·exact dEncode_4 x hx hm h4 u w hu
 ·exact dEncode_5 x hx hm (by omega) u w hu
end Go.Proofs.YtfpcpociejefaaaGreatDoor

/- The document's Encode of a tuple. -/
namespace Go.Proofs.YtfpcpociejefaaaGreatDoor
open Go.RowKit Go.PlainAid Go.Lib
set_option maxRecDepth 1000000 in
set_option maxHeartbeats 1600000 in
theorem dBytesT_any (s : ByteArray) (hs : s.size ≤ 20000) (v : Value) (l : List UInt8) (hl : l.length ≤ 5000000) (w w0 : World) (hv : Row w0 v l) (hk0 : Keep [] w w0) (hf0 : Fresh w w0 v) :
  Calls Tryz.prog 25 #[v, .string s] w0 fun e w' => ∃ v', e = .returned v' ∧ Row w' v' (l ++ vtextB s) ∧ Fresh w w' v' ∧ Keep [] w w' ∧ Sl v' (l ++ vtextB s).length := by
 have hU := dUint_any s.size (by omega) v l (by omega) w w0 hv hk0 hf0
 have hlen := uvarint_length64 (x := s.size) (by omega)
 have hss : s.data.toList.length = s.size := by simp
 have hbt := get_bt s
 have hbt2 : ∀ i, i < s.size → bt s i = ((s.data.toList.getD i 0).toNat : Int) := by
  intro i hi
  rw [← hbt i hi, List.getD_eq_getElem?_getD, List.getElem?_eq_getElem (by rw [hss]; exact hi)]
  rfl
 clear hv hk0 hf0
 go_enter Tryz.func25, Tryz.ntmps25
 go_wp2_with fail
 refine hU.mono ?_
 rintro e1 w1 ⟨v1, rfl, r1, f1, k1, s1⟩
 have HI : Hid (Row w1 v1 (l ++ uvarint s.size) ∧ Fresh w w1 v1 ∧ Keep [] w w1 ∧ Sl v1 (l ++ uvarint s.size).length) := ⟨r1, f1, k1, s1⟩
 clear hU r1 f1 k1 s1
 go_wp2
 go_loopw [0, 5] (fun ov iv wr => ∃ (i : Nat), iv = .int .i64 (i : Int) ∧ i ≤ s.size ∧ Row wr ov (l ++ uvarint s.size ++ s.data.toList.take i) ∧ Keep [] w wr ∧ Fresh w wr ov ∧ Sl ov (l ++ uvarint s.size ++ s.data.toList.take i).length)
  (fun _ iv _ => s.size - (RowKit.intOf iv).toNat)
 case atStart => exact ⟨0, rfl, Nat.zero_le _, by simpa using HI.out.1, HI.out.2.2.1, HI.out.2.1, by simpa using HI.out.2.2.2⟩
 case round =>
  obtain ⟨i, rfl, hi, hrow, hk, hf, hsl⟩ := hrel
  clear HI
  by_cases hil : i < s.size
  ·have hili : (i : Int) < (s.size : Int) := by omega
   have hx := take_snoc s.data.toList i (by omega)
   have hb2 := hbt2 i hil
   generalize s.data.toList.getD i 0 = x at hx hb2
   have hsrc := (Bs.byte wr x).src
   have hr2 : Row (wr.alloc (.cells #[.int .u8 (x.toNat : Int)] TB)) u0 (l ++ uvarint s.size ++ s.data.toList.take i) := hrow.keep (Keep.alloc1 wr _) (Off.nil _)
   have HB : Hid ((l ++ uvarint s.size ++ s.data.toList.take i).length + [x].length ≤ 140737488355328) := by
    show (l ++ uvarint s.size ++ s.data.toList.take i).length + [x].length ≤ 140737488355328
    simp; omega
   have HX : Hid (l ++ uvarint s.size ++ s.data.toList.take (i + 1) = (l ++ uvarint s.size ++ s.data.toList.take i) ++ [x]) := by
    show l ++ uvarint s.size ++ s.data.toList.take (i + 1) = (l ++ uvarint s.size ++ s.data.toList.take i) ++ [x]
    rw [hx, List.append_assoc (l ++ uvarint s.size)]
   have HKF : Hid (Keep [] w wr ∧ Fresh w wr u0) := ⟨hk, hf⟩
   clear hx hrow hk hf hbt2 hsl
   generalize l ++ uvarint s.size ++ s.data.toList.take i = acc at hr2 HB HX
   go_wp2_with (at_builtin; refine wp_app rfl (.tmp 17) (.tmp 21) 33 33 rfl underS _ acc rfl hr2 _ [x] rfl hsrc HB.out ?_)
   intro v' w2 g1 g2 g3 g4
   have HA : Hid (Keep [] w w2 ∧ Fresh w w2 v') := app_fresh HKF.out.1 HKF.out.2 g2 g3
   have HR : Hid (Row w2 v' (l ++ uvarint s.size ++ s.data.toList.take (i + 1)) ∧ Sl v' (l ++ uvarint s.size ++ s.data.toList.take (i + 1)).length) := by
    show Row w2 v' (l ++ uvarint s.size ++ s.data.toList.take (i + 1)) ∧ Sl v' (l ++ uvarint s.size ++ s.data.toList.take (i + 1)).length
    rw [HX.out]; exact ⟨g1, by simpa using g4⟩
   clear g1 g2 g3 g4 hsrc hr2
   go_wp2
   go_roundw
   case rel => exact ⟨i + 1, by go_num, by omega, HR.out.1, HA.out.1, HA.out.2, HR.out.2⟩
   case measure => simp [RowKit.intOf]; omega
  ·have hili : ¬ ((i : Int) < (s.size : Int)) := by omega
   rw [List.take_of_length_le (by omega), List.append_assoc] at hrow hsl
   have HL : Hid (Row wr u0 (l ++ vtextB s) ∧ Fresh w wr u0 ∧ Keep [] w wr ∧ Sl u0 (l ++ vtextB s).length) := ⟨hrow, hf, hk, hsl⟩
   clear hrow hk hf hsl hbt2 hbt hss
   go_wp2
   go_ret
   exact ⟨u0, rfl, by simpa using HL.out⟩
set_option maxRecDepth 1000000 in
set_option maxHeartbeats 2000000 in
theorem argsBytes_any (u : Value) (l : List AD) (w w0 : World) (hu : As w u l) (hz : argsZ l = 0) (v : Value) (p : List UInt8) (hp : p.length ≤ 100000) (hv : Row w0 v p) (hk0 : Keep [] w w0) (hf0 : Fresh w w0 v) :
  Calls Tryz.prog 26 #[v, u] w0 fun e w' => ∃ v', e = .returned v' ∧ (Row w' v' (p ++ uvarint l.length ++ argsB l l.length) ∧ Fresh w w' v' ∧ Sl v' (p ++ uvarint l.length ++ argsB l l.length).length) ∧ Keep [] w w' := by
 obtain ⟨ao, ca, rfl, h1, h2, h4⟩ := hu.ex
 obtain ⟨f1, f2⟩ := args_facts l hz
 have HAL : Hid (∀ k, k ≤ l.length → (argsB l k).length ≤ k * 9000) := argsB_len l hu.ok hz
 have HU : Hid (As w (.slice ao l.length ca) l) := hu
 have HF : Hid (∀ x ∈ l, nameL x.nm.toList = true ∧ x.val.mayB = true) := f2
 have hul : (uvarint l.length).length ≤ 10 := uvarint_length64 (by omega)
 have hU := dUint_any l.length (by omega) v p (by omega) w w0 hv hk0 hf0
 have hlen64 : IntKind.u64.wrap (l.length : Int) = (l.length : Int) := by rw [IntKind.wrap_u64]; omega
 obtain ⟨R, HR⟩ : ∃ R, Hid (R = p ++ uvarint l.length ++ argsB l l.length) := ⟨_, rfl⟩
 have hR := HR.out
 rw [← hR]
 clear hu h4 f2 hv hk0 hf0 hR
 obtain ⟨q, hq⟩ : ∃ q, q = p ++ uvarint l.length := ⟨_, rfl⟩
 have HQl : Hid (q.length ≤ 100010) := by show _ ≤ _; rw [hq, List.length_append]; omega
 rw [← hq] at hU
 have HRq : Hid (R = q ++ argsB l l.length) := by show _ = _; rw [HR.out, hq]
 clear hq HR hul
 go_enter Tryz.func26, Tryz.ntmps26
 go_wp2_with fail
 refine hU.mono ?_
 rintro e1 w1 ⟨v1, rfl, r1, g1, k1, s1⟩
 have HI : Hid (Row w1 v1 (q ++ argsB l 0) ∧ Fresh w w1 v1 ∧ Keep [] w w1 ∧ Sl v1 (q ++ argsB l 0).length) := by
  show _ ∧ _
  have e : argsB l 0 = [] := rfl
  rw [e, List.append_nil]
  exact ⟨r1, g1, k1, s1⟩
 clear hU r1 g1 k1 s1
 go_wp2
 go_loopw [0, 5] (fun ov iv wr => ∃ k : Nat, iv = .int .i64 (k : Int) ∧ k ≤ l.length ∧ Row wr ov (q ++ argsB l k) ∧ Fresh w wr ov ∧ Keep [] w wr ∧ Sl ov (q ++ argsB l k).length) (fun _ iv _ => l.length - (RowKit.intOf iv).toNat)
 case atStart => exact ⟨0, rfl, Nat.zero_le _, HI.out.1, HI.out.2.1, HI.out.2.2.1, HI.out.2.2.2⟩
 case round =>
  obtain ⟨k, rfl, hk, hrow, hfr, hkp, hsl⟩ := hrel
  clear HI
  have hbl := HAL.out k hk
  have hql := HQl.out
  have hLl : (q ++ argsB l k).length ≤ 300000 := by
   rw [List.length_append]
   have : k * 9000 ≤ 16 * 9000 := Nat.mul_le_mul_right _ (by omega)
   omega
  by_cases hkl : k < l.length
  ·have hki : (k : Int) < (l.length : Int) := by omega
   obtain ⟨b9, o9, cap9, uu, he, _, _, hA, hU2⟩ := HU.out.at k hkl
   simp only [Value.slice.injEq, true_and] at he
   obtain ⟨rfl, rfl⟩ := he
   have hok := HU.out.ok l[k] (List.getElem_mem hkl)
   obtain ⟨hnm, hmy⟩ := HF.out l[k] (List.getElem_mem hkl)
   have HAC : Hid (ArgC w b9 (o9 + k * 7) l[k] uu) := hA
   obtain ⟨c0, c1, c2, c3, c4, c5, c6⟩ := hA.keep hkp
   have hns := nm_size l[k] hnm
   have hel := enc_len l[k].val hok hmy
   have hne : encL l[k].val ≠ [] := by unfold encL; simp
   have hnx := argsB_next l k hkl
   have hB := dBytesT_any l[k].nm (by omega) u0 (q ++ argsB l k) (by omega) w wr hrow hkp hfr
   have hEn := fun w1 (k1 : Keep [] w w1) => dEncode_yes l[k].val hok hmy uu w1 (hU2.keep k1 (Off.nil _))
   obtain ⟨au, cu, rfl, _, _, _, _⟩ := hU2.ex
   have HEn : Hid _ := hEn
   have HNe : Hid (encL l[k].val ≠ [] ∧ (encL l[k].val).length ≤ 8801) := ⟨hne, hel⟩
   have HNx : Hid (q ++ argsB l (k + 1) = q ++ argsB l k ++ vtextB l[k].nm ++ vtextB (ba (encL l[k].val))) := by show _ = _; rw [hnx]; simp only [List.append_assoc]
   have HLl : Hid ((q ++ argsB l k).length ≤ 300000) := hLl
   clear hU2 hok hnm hmy hne hnx hel hrow hfr hsl hbl hql hLl hEn hkp hA
   generalize l[k] = x at *
   generalize q ++ argsB l k = acc at *
   go_wp2_with fail
   refine hB.mono ?_
   rintro e9 w2 ⟨v2, rfl, r2, g2, k2, s2⟩
   obtain ⟨d0, d1, d2, d3, d4, d5, d6⟩ := HAC.out.keep k2
   have H2 : Hid (Row w2 v2 (acc ++ vtextB x.nm) ∧ Fresh w w2 v2 ∧ Keep [] w w2) := ⟨r2, g2, k2⟩
   clear r2 g2 k2 s2 hB c0 c1 c2 c3 c4 c5 c6 HAC
   go_wp2_with fail
   refine (HEn.out _ H2.out.2.2).mono ?_
   rintro e9 w3 ⟨v3, rfl, ⟨r3, g3, s3⟩, k3⟩
   have hcv := str_bs r3.bs HNe.out.1
   have hB2 := dBytesT_any (ba (encL x.val)) (by rw [ba_size]; have := HNe.out.2; omega) v2 (acc ++ vtextB x.nm) (by rw [List.length_append]; have := HLl.out; have := vtext_len x.nm 32 hns (by decide); omega) w w3 (H2.out.1.keep k3 (Off.nil _)) (H2.out.2.2.trans' k3) (H2.out.2.1.later k3.size)
   obtain ⟨a3, n3, rfl⟩ := s3
   clear r3 g3 k3 d0 d1 d2 d3 d4 d5 d6 HEn H2
   go_wp2_with fail
   refine hB2.mono ?_
   rintro e9 w4 ⟨v4, rfl, r4, g4, k4, s4⟩
   have H4 : Hid (Row w4 v4 (q ++ argsB l (k + 1)) ∧ Fresh w w4 v4 ∧ Keep [] w w4 ∧ Sl v4 (q ++ argsB l (k + 1)).length) := by
    show _ ∧ _
    rw [HNx.out]
    exact ⟨r4, g4, k4, s4⟩
   clear r4 g4 k4 s4 hB2 hcv
   go_wp2
   go_roundw
   case rel => exact ⟨k + 1, by go_num, by omega, H4.out.1, H4.out.2.1, H4.out.2.2.1, H4.out.2.2.2⟩
   case measure => simp [RowKit.intOf]; omega
  ·obtain rfl : k = l.length := by omega
   have hki : ¬ ((l.length : Int) < (l.length : Int)) := by omega
   have HFn : Hid ((Row wr u0 R ∧ Fresh w wr u0 ∧ Sl u0 R.length) ∧ Keep [] w wr) := by
    show _ ∧ _
    rw [HRq.out]
    exact ⟨⟨hrow, hfr, hsl⟩, hkp⟩
   clear hrow hfr hkp hsl hbl hql hLl
   go_wp2
   go_ret
   exact ⟨_, rfl, HFn.out⟩
end Go.Proofs.YtfpcpociejefaaaGreatDoor

/- The document's Encode of a tuple: its walk. -/
namespace Go.Proofs.YtfpcpociejefaaaGreatDoor
open Go.RowKit Go.PlainAid Go.Lib
set_option maxRecDepth 1000000 in
set_option maxHeartbeats 1000000 in
theorem rEnc_no (y : K7) (u : Value) (l : List AD) (w : World) (hu : As w u l) (hM : ∀ w1, Keep [] w w1 → Calls Tryz.prog 21 #[y.tup u] w1 fun e w' => e = .returned (.bool false) ∧ Keep [] w1 w') :
  Calls Tryz.prog 8 #[y.tup u] w fun e w' => e = .returned (.tuple #[.slice none 0 0, .int .i64 100]) ∧ Keep [] w w' := by
 obtain ⟨ao, ca, rfl, _, _, _⟩ := hu.ex
 have HM : Hid _ := hM
 clear hu hM
 obtain ⟨a, b, c, d, e, f, g⟩ := y
 have K0 : Hid (Keep [] w (w.alloc (.cells #[.string a, .string b, .string c, .string d, .string e, .string f, .string g, .slice ao l.length ca] 28))) := Keep.alloc1 w _
 replace HM : Hid (∀ w1, Keep [] w w1 → Calls Tryz.prog 21 #[.agg #[.string a, .string b, .string c, .string d, .string e, .string f, .string g, .slice ao l.length ca]] w1 fun e w' => e = .returned (.bool false) ∧ Keep [] w1 w') := HM
 show Calls Tryz.prog 8 #[.agg #[.string a, .string b, .string c, .string d, .string e, .string f, .string g, .slice ao l.length ca]] w fun e w' => e = .returned (.tuple #[.slice none 0 0, .int .i64 100]) ∧ Keep [] w w'
 go_enter Tryz.func8, Tryz.ntmps8
 go_wp2_with fail
 refine (HM.out _ K0.out).mono ?_
 rintro e9 w1 ⟨rfl, k1⟩
 have HK1 : Hid (Keep [] w w1) := K0.out.trans' k1
 clear k1 HM
 go_wp2
 go_ret2
 exact ⟨rfl, HK1.out⟩
theorem arr_cell (w : World) (a b c d e f g : ByteArray) (k : Nat) (hk : k < 7) : (w.alloc (.cells #[.string a, .string b, .string c, .string d, .string e, .string f, .string g] 54)).cell? ⟨w.heap.size, k, none⟩ = some (.string ((⟨a, b, c, d, e, f, g⟩ : K7).at k)) := by
 match k, hk with
 | 0, _ => simp [go_sem]; rfl
 | 1, _ => simp [go_sem]; rfl
 | 2, _ => simp [go_sem]; rfl
 | 3, _ => simp [go_sem]; rfl
 | 4, _ => simp [go_sem]; rfl
 | 5, _ => simp [go_sem]; rfl
 | 6, _ => simp [go_sem]; rfl
set_option maxRecDepth 1000000 in
set_option maxHeartbeats 2000000 in
theorem rEnc_yes (y : K7) (u : Value) (l : List AD) (w : World) (hu : As w u l) (hm : mayT y l = true) (hM : ∀ w1, Keep [] w w1 → Calls Tryz.prog 21 #[y.tup u] w1 fun e w' => e = .returned (.bool true) ∧ Keep [] w1 w') :
  Calls Tryz.prog 8 #[y.tup u] w fun e w' => ∃ v, e = .returned (.tuple #[v, .int .i64 0]) ∧ (Row w' v (encT y l) ∧ Fresh w w' v ∧ Sl v (encT y l).length) ∧ Keep [] w w' := by
 have hF := may_facts hm
 have hSh := hF.short
 have HZ : Hid (argsZ l = 0) := hF.z
 have HSL : Hid (∀ k, (sevB y k).length ≤ k * 138) := sevB_len y hSh
 have HS : Hid (∀ k, (y.at k).size ≤ 128) := hSh.s
 have HU : Hid (As w u l) := hu
 obtain ⟨ao, ca, rfl, _, _, _⟩ := hu.ex
 have HM : Hid _ := hM
 have HE : Hid (encT y l = sevB y 7 ++ uvarint l.length ++ argsB l l.length) := rfl
 clear hu hM hm hF hSh
 obtain ⟨R, HR⟩ : ∃ R, Hid (R = encT y l) := ⟨_, rfl⟩
 have hR := HR.out
 rw [← hR]
 clear hR
 obtain ⟨y0, HY⟩ : ∃ y0, Hid (y0 = y) := ⟨_, rfl⟩
 rw [← HY.out] at HSL HS HE HR
 obtain ⟨a, b, c, d, e, f, g⟩ := y
 have HAt : Hid (∀ (w : World) (k : Nat), k < 7 → (w.alloc (.cells #[.string a, .string b, .string c, .string d, .string e, .string f, .string g] 54)).cell? ⟨w.heap.size, k, none⟩ = some (.string (y0.at k))) := fun w k hk => by
  rw [HY.out]
  exact arr_cell w a b c d e f g k hk
 clear HY
 have K0 : Hid (Keep [] w (w.alloc (.cells #[.string a, .string b, .string c, .string d, .string e, .string f, .string g, .slice ao l.length ca] 28))) := Keep.alloc1 w _
 replace HM : Hid (∀ w1, Keep [] w w1 → Calls Tryz.prog 21 #[.agg #[.string a, .string b, .string c, .string d, .string e, .string f, .string g, .slice ao l.length ca]] w1 fun e w' => e = .returned (.bool true) ∧ Keep [] w1 w') := HM
 show Calls Tryz.prog 8 #[.agg #[.string a, .string b, .string c, .string d, .string e, .string f, .string g, .slice ao l.length ca]] w fun e w' => ∃ v, e = .returned (.tuple #[v, .int .i64 0]) ∧ (Row w' v R ∧ Fresh w w' v ∧ Sl v R.length) ∧ Keep [] w w'
 go_enter Tryz.func8, Tryz.ntmps8
 go_wp2_with fail
 refine (HM.out _ K0.out).mono ?_
 rintro e9 w1 ⟨rfl, k1⟩
 obtain ⟨c0, c1, c2, c3, c4, c5, c6, c7⟩ := cells8 k1
 have HK1 : Hid (Keep [] (w.alloc (.cells #[.string a, .string b, .string c, .string d, .string e, .string f, .string g, .slice ao l.length ca] 28)) w1) := k1
 clear k1 HM
 go_wp2
 clear c0 c1 c2 c3 c4 c5 c6 c7
 go_loopw [4, 6] (fun ov iv wr => ∃ k : Nat, iv = .int .i64 (k : Int) ∧ k ≤ 7 ∧ Row wr ov (sevB y0 k) ∧ Fresh (w1.alloc (.cells #[.string a, .string b, .string c, .string d, .string e, .string f, .string g] 54)) wr ov ∧ Keep [] (w1.alloc (.cells #[.string a, .string b, .string c, .string d, .string e, .string f, .string g] 54)) wr ∧ Sl ov (sevB y0 k).length) (fun _ iv _ => 7 - (RowKit.intOf iv).toNat)
 case atStart => exact ⟨0, rfl, by omega, Row.nil _, Fresh.nil _ _, Keep.refl _ _, ⟨_, _, rfl⟩⟩
 case round =>
  obtain ⟨k, rfl, hk, hrow, hfr, hkp, hsl⟩ := hrel
  have hL := HSL.out k
  by_cases hk7 : k < 7
  ·have hki : (k : Int) < 7 := by omega
   have hc := hkp.cell' (HAt.out w1 k hk7) (by simp)
   have hs := HS.out k
   have hB := dBytesT_any (y0.at k) (by omega) u4 (sevB y0 k) (by omega) _ wr hrow hkp hfr
   rw [← sevB_next] at hB
   clear hrow hfr hkp hsl hL
   generalize y0.at k = s at *
   go_wp2_with fail
   refine hB.mono ?_
   rintro e9 w2 ⟨v2, rfl, r2, g2, k2, s2⟩
   have H2 : Hid (Row w2 v2 (sevB y0 (k + 1)) ∧ Fresh (w1.alloc (.cells #[.string a, .string b, .string c, .string d, .string e, .string f, .string g] 54)) w2 v2 ∧ Keep [] (w1.alloc (.cells #[.string a, .string b, .string c, .string d, .string e, .string f, .string g] 54)) w2 ∧ Sl v2 (sevB y0 (k + 1)).length) := ⟨r2, g2, k2, s2⟩
   clear r2 g2 k2 s2 hB hc hs
   go_wp2
   go_roundw
   case rel => exact ⟨k + 1, by go_num, by omega, H2.out.1, H2.out.2.1, H2.out.2.2.1, H2.out.2.2.2⟩
   case measure => simp [RowKit.intOf]; omega
  ·obtain rfl : k = 7 := by omega
   have hKA : Keep [] w (w1.alloc (.cells #[.string a, .string b, .string c, .string d, .string e, .string f, .string g] 54)) := (K0.out.trans' HK1.out).alloc _
   have hA := argsBytes_any (.slice ao l.length ca) l _ wr (HU.out.keep0 hKA) HZ.out u4 (sevB y0 7) (by omega) hrow hkp hfr
   obtain ⟨c0, c1, c2, c3, c4, c5, c6, c7⟩ := cells8 ((HK1.out.alloc _).trans' hkp)
   have hRe : sevB y0 7 ++ uvarint l.length ++ argsB l l.length = R := by rw [HR.out, HE.out]
   rw [hRe] at hA
   have HKA : Hid (Keep [] w (w1.alloc (.cells #[.string a, .string b, .string c, .string d, .string e, .string f, .string g] 54))) := hKA
   clear hRe hrow hfr hkp hsl hL hKA
   go_wp2_with fail
   refine hA.mono ?_
   rintro e9 w5 ⟨v, rfl, ⟨y1, y2, y4⟩, y3⟩
   have HFn : Hid ((Row w5 v R ∧ Fresh w w5 v ∧ Sl v R.length) ∧ Keep [] w w5) := by
    show _ ∧ _
    exact ⟨⟨y1, y2.earlier HKA.out.size, y4⟩, HKA.out.trans' y3⟩
   obtain ⟨a9, c9, rfl⟩ := y4
   clear y1 y2 y3 hA c0 c1 c2 c3 c4 c5 c6 c7
   go_wp2
   go_ret2
   exact ⟨_, rfl, HFn.out⟩
end Go.Proofs.YtfpcpociejefaaaGreatDoor

/- SameBytes; the document's Check. -/
namespace Go.Proofs.YtfpcpociejefaaaGreatDoor
open Go.RowKit Go.PlainAid
theorem eq_of_getD (l r : List UInt8) (h : l.length = r.length) (hh : ∀ j, j < l.length → l.getD j 0 = r.getD j 0) : l = r := by
 apply List.ext_getElem h
 intro j h1 h2
 have := hh j h1
 rw [List.getD_eq_getElem?_getD, List.getD_eq_getElem?_getD, List.getElem?_eq_getElem h1, List.getElem?_eq_getElem h2] at this
 exact this
set_option maxRecDepth 1000000 in
set_option maxHeartbeats 3200000 in
theorem sameBytes_any (u v : Value) (l r : List UInt8) (w : World) (hu : Bs w u l) (hv : Bs w v r) :
  Calls Tryz.prog 9 #[u, v] w fun e w' => e = .returned (.bool (l == r)) ∧ ∃ n, w' = w.drewN n := by
 obtain ⟨au, cu, hue, _, _, _, _⟩ := hu.ex
 obtain ⟨av, cv, hve, _, _, _, _⟩ := hv.ex
 by_cases hlen : l.length = r.length
 ·rcases hu.cases with ⟨rfl, ao, cap, rfl, _, _⟩ | ⟨_, b, o, cap, rfl, h0, h1, h2, h3⟩
  ·have hr : r = [] := List.eq_nil_of_length_eq_zero (by simpa using hlen.symm)
   subst hr
   subst hve
   clear hu hv hue hlen
   go_enter Tryz.func9, Tryz.ntmps9
   go_wp2
   go_loop [5] (fun iv => iv = .int .i64 0) (fun _ => 0)
   case atStart => rfl
   case round =>
    obtain rfl := hrel
    go_wp2
    go_ret
    exact ⟨rfl, 0, rfl⟩
  ·rcases hv.cases with ⟨hr0, _⟩ | ⟨_, b', o', cap', hv2, g0, g1, g2, g3⟩
   ·rw [hr0, List.length_nil] at hlen
    omega
   rw [← hlen] at hv2 g3 g1
   have HL : Hid (l.length = r.length) := hlen
   clear hu hv hue hve hlen
   subst hv2
   go_enter Tryz.func9, Tryz.ntmps9
   go_wp2
   go_loopw [5] (fun iv wr => ∃ i : Nat, iv = .int .i64 (i : Int) ∧ i ≤ l.length ∧ (∀ j, j < i → l.getD j 0 = r.getD j 0) ∧ ∃ n, wr = w.drewN n) (fun iv _ => l.length - (RowKit.intOf iv).toNat)
   case atStart => exact ⟨0, rfl, Nat.zero_le _, fun j hj => by omega, 0, rfl⟩
   case round =>
    obtain ⟨i, rfl, hi, hall, nn, rfl⟩ := hrel
    by_cases hil : i < l.length
    ·have c1 := h3 i hil
     have c2 := g3 i hil
     have hili : (i : Int) < (l.length : Int) := by omega
     by_cases hx : l.getD i 0 = r.getD i 0
     ·have HALL : Hid (∀ j, j < i + 1 → l.getD j 0 = r.getD j 0) := by
       intro j hj
       by_cases hji : j = i
       ·rw [hji]; exact hx
       ·exact hall j (by omega)
      rw [hx] at c1
      generalize (r.getD i 0).toNat = c at c1 c2
      clear hall h3 g3 hx
      go_wp2
      go_quiet (fail)
      go_wp2
      go_roundw
      case rel => exact ⟨i + 1, by go_num, by omega, HALL.out, _, rfl⟩
      case measure => simp [RowKit.intOf]; omega
     ·have hne : (((l.getD i 0).toNat : Int) == ((r.getD i 0).toNat : Int)) = false := by
       simp only [beq_eq_false_iff_ne]
       intro h
       exact hx (UInt8.toNat_inj.1 (by omega))
      have HF : Hid ((l == r) = false) := by
       show (l == r) = false
       simp only [beq_eq_false_iff_ne]
       intro h
       rw [h] at hx
       exact hx rfl
      generalize (l.getD i 0).toNat = c1' at c1 hne
      generalize (r.getD i 0).toNat = c2' at c2 hne
      clear hall h3 g3 hx
      go_wp2
      go_quiet (fail)
      go_wp2
      go_ret
      exact ⟨by rw [HF.out]; rfl, _, drewN_drewN _ _ _⟩
    ·have hili : ¬ ((i : Int) < (l.length : Int)) := by omega
     have HT : Hid ((l == r) = true) := by
      show (l == r) = true
      simp only [beq_iff_eq]
      exact eq_of_getD l r HL.out (fun j hj => hall j (by omega))
     clear hall h3 g3
     go_wp2
     go_ret
     exact ⟨by rw [HT.out]; rfl, nn, rfl⟩
 ·have hne : ((l.length : Int) != (r.length : Int)) = true := by simp; omega
  have HF : Hid ((l == r) = false) := by
   show (l == r) = false
   simp only [beq_eq_false_iff_ne]
   intro h
   exact hlen (by rw [h])
  subst hue
  subst hve
  clear hu hv
  go_enter Tryz.func9, Tryz.ntmps9
  go_wp2
  go_ret
  exact ⟨by rw [HF.out]; rfl, 0, rfl⟩
end Go.Proofs.YtfpcpociejefaaaGreatDoor
