/- The document's Encode, further kinds. -/
import Derived.Test.YtjdihnkcigoajaaGreatDoorDcM1

namespace Go.Proofs.YtjdihnkcigoajaaGreatDoor
open Go.RowKit Go.PlainAid Go.Lib

set_option maxRecDepth 1000000 in
set_option maxHeartbeats 1600000 in
theorem dEncode_2 (x : VD) (hx : x.Ok) (hm : x.mayB = true) (hkd : x.kind = 2) (u : Value) (w : World) (hu : Ts w u x.texts) :
    Calls Tryz.prog 9 #[x.val u] w fun e w' => EncA x w e w' := by
  have hC := fun w1 (k : Keep [] w w1) => rMay_any x hx u w1 (hu.keep k (Off.nil _))
  rw [hm] at hC
  have HOK : Hid (x.Ok ∧ x.mayB = true) := ⟨hx, hm⟩
  have HU : Hid (Ts w u x.texts) := hu
  have HE : Hid (encL x = [2] ++ bodyL x) := show encL x = [2] ++ bodyL x by unfold encL; rw [hkd]; rfl
  have HKD : Hid (x.kind = 2) := hkd
  obtain ⟨ao, ca, rfl, hl1, hl2, _, _⟩ := hu.ex
  clear hu hx hm hkd
  have K0 : Hid (Keep [] w (w.alloc (x.blk (.slice ao x.texts.length ca)))) := Keep.alloc1 w _
  go_enter Tryz.func9, Tryz.ntmps9
  go_wp2_with fail
  refine (hC _ K0.out).mono ?_
  rintro e1 w1 ⟨rfl, k1⟩
  obtain ⟨⟨c0, c1, c2, c3, c4, c5⟩, _⟩ := six_cells k1 (by simp)
  rw [HKD.out] at c0
  have HK1 : Hid (Keep [] w w1) := K0.out.trans' k1
  have hs1 : w.heap.size < w1.heap.size := by have := k1.size; simp at this; omega
  have HR : Hid (Row (w1.alloc (.cells #[.int .u8 2] TB)) (.slice (some ⟨w1.heap.size, 0, none⟩) 1 1) [2] ∧ Fresh w (w1.alloc (.cells #[.int .u8 2] TB)) (.slice (some ⟨w1.heap.size, 0, none⟩) 1 1) ∧ Keep [] w (w1.alloc (.cells #[.int .u8 2] TB))) := by
    refine ⟨Row.one w1 2 (by omega), ?_, HK1.out.alloc _⟩
    intro k hk
    simp [Value.ownBlock] at hk
    subst hk
    exact ⟨by omega, by simp⟩
  have kz : Keep [] w1 (w1.alloc (.cells #[.int .u8 2] TB)) := Keep.alloc1 w1 _
  have d0 := kz.cell' c0 (by simp)
  have d1 := kz.cell' c1 (by simp)
  have d2 := kz.cell' c2 (by simp)
  have d3 := kz.cell' c3 (by simp)
  have d4 := kz.cell' c4 (by simp)
  have d5 := kz.cell' c5 (by simp)
  clear k1 hC kz
  have hi0 := HOK.out.1.int0
  have hi1 := HOK.out.1.int1
  have hb : bodyL x = uvarint (zigzag x.int) := by unfold bodyL; rw [HKD.out]; rfl
  have HBX : Hid (bodyL x = uvarint (zigzag x.int)) := hb
  clear hb
  generalize x.int = z at *
  by_cases hz : z < 0
  · obtain ⟨y, rfl⟩ : ∃ y : Nat, z = -(y : Int) - 1 := ⟨(-z - 1).toNat, by omega⟩
    have hy : y ≤ 9223372036854775807 := by omega
    have HBO : Hid (bodyL x = uvarint (y * 2 + 1)) := show bodyL x = uvarint (y * 2 + 1) by rw [HBX.out]; congr 1; unfold zigzag; rw [if_neg (by omega)]; omega
    clear HBX
    have hU := dUint_any (y * 2 + 1) (by omega) _ [2] (by simp) w _ HR.out.1 HR.out.2.2 HR.out.2.1
    rw [show ((y * 2 + 1 : Nat) : Int) = (y : Int) * 2 + 1 by omega] at hU
    go_wp2_with fail
    refine hU.mono ?_
    rintro e2 w2 ⟨v2, rfl, g1, g2, g3, g4⟩
    clear hU
    have HF : Hid ((Row w2 v2 (encL x) ∧ Fresh w w2 v2 ∧ Sl v2 (encL x).length) ∧ Keep [] w w2) := by
      show (Row w2 v2 (encL x) ∧ Fresh w w2 v2 ∧ Sl v2 (encL x).length) ∧ Keep [] w w2
      rw [HE.out, HBO.out]
      exact ⟨⟨g1, g2, g4⟩, g3⟩
    obtain ⟨a9, c9, rfl⟩ := g4
    clear g1 g2 g3
    go_wp2
    go_ret2
    exact ⟨_, rfl, HF.out⟩
  · obtain ⟨y, rfl⟩ : ∃ y : Nat, z = (y : Int) := ⟨z.toNat, by omega⟩
    have hy : y ≤ 9223372036854775807 := by omega
    have HBO : Hid (bodyL x = uvarint (y * 2)) := show bodyL x = uvarint (y * 2) by rw [HBX.out]; congr 1; unfold zigzag; rw [if_pos (by omega)]; omega
    clear HBX
    have hU := dUint_any (y * 2) (by omega) _ [2] (by simp) w _ HR.out.1 HR.out.2.2 HR.out.2.1
    rw [show ((y * 2 : Nat) : Int) = (y : Int) * 2 by omega] at hU
    go_wp2_with fail
    refine hU.mono ?_
    rintro e2 w2 ⟨v2, rfl, g1, g2, g3, g4⟩
    clear hU
    have HF : Hid ((Row w2 v2 (encL x) ∧ Fresh w w2 v2 ∧ Sl v2 (encL x).length) ∧ Keep [] w w2) := by
      show (Row w2 v2 (encL x) ∧ Fresh w w2 v2 ∧ Sl v2 (encL x).length) ∧ Keep [] w w2
      rw [HE.out, HBO.out]
      exact ⟨⟨g1, g2, g4⟩, g3⟩
    obtain ⟨a9, c9, rfl⟩ := g4
    clear g1 g2 g3
    go_wp2
    go_ret2
    exact ⟨_, rfl, HF.out⟩
end Go.Proofs.YtjdihnkcigoajaaGreatDoor


/- The document's Encode, further kinds. -/
namespace Go.Proofs.YtjdihnkcigoajaaGreatDoor
open Go.RowKit Go.PlainAid Go.Lib

set_option maxRecDepth 1000000 in
set_option maxHeartbeats 1600000 in
theorem dEncode_3 (x : VD) (hx : x.Ok) (hm : x.mayB = true) (hkd : x.kind = 3) (u : Value) (w : World) (hu : Ts w u x.texts) :
    Calls Tryz.prog 9 #[x.val u] w fun e w' => EncA x w e w' := by
  have hC := fun w1 (k : Keep [] w w1) => rMay_any x hx u w1 (hu.keep k (Off.nil _))
  rw [hm] at hC
  have HOK : Hid (x.Ok ∧ x.mayB = true) := ⟨hx, hm⟩
  have HU : Hid (Ts w u x.texts) := hu
  have HE : Hid (encL x = [3] ++ bodyL x) := show encL x = [3] ++ bodyL x by unfold encL; rw [hkd]; rfl
  have HKD : Hid (x.kind = 3) := hkd
  obtain ⟨ao, ca, rfl, hl1, hl2, _, _⟩ := hu.ex
  clear hu hx hm hkd
  have K0 : Hid (Keep [] w (w.alloc (x.blk (.slice ao x.texts.length ca)))) := Keep.alloc1 w _
  go_enter Tryz.func9, Tryz.ntmps9
  go_wp2_with fail
  refine (hC _ K0.out).mono ?_
  rintro e1 w1 ⟨rfl, k1⟩
  obtain ⟨⟨c0, c1, c2, c3, c4, c5⟩, _⟩ := six_cells k1 (by simp)
  rw [HKD.out] at c0
  have HK1 : Hid (Keep [] w w1) := K0.out.trans' k1
  have hs1 : w.heap.size < w1.heap.size := by have := k1.size; simp at this; omega
  have HR : Hid (Row (w1.alloc (.cells #[.int .u8 3] TB)) (.slice (some ⟨w1.heap.size, 0, none⟩) 1 1) [3] ∧ Fresh w (w1.alloc (.cells #[.int .u8 3] TB)) (.slice (some ⟨w1.heap.size, 0, none⟩) 1 1) ∧ Keep [] w (w1.alloc (.cells #[.int .u8 3] TB))) := by
    refine ⟨Row.one w1 3 (by omega), ?_, HK1.out.alloc _⟩
    intro k hk
    simp [Value.ownBlock] at hk
    subst hk
    exact ⟨by omega, by simp⟩
  have kz : Keep [] w1 (w1.alloc (.cells #[.int .u8 3] TB)) := Keep.alloc1 w1 _
  have d0 := kz.cell' c0 (by simp)
  have d1 := kz.cell' c1 (by simp)
  have d2 := kz.cell' c2 (by simp)
  have d3 := kz.cell' c3 (by simp)
  have d4 := kz.cell' c4 (by simp)
  have d5 := kz.cell' c5 (by simp)
  clear k1 hC kz
  have hr1 := HOK.out.1.real1
  have hkl := keyN_lt x.real hr1
  have hKy := rKey_any x.real hr1
  have HBO : Hid (bodyL x = four (keyN x.real)) := show bodyL x = four (keyN x.real) by unfold bodyL; rw [HKD.out]; rfl
  generalize keyN x.real = k at *
  go_wp2_with fail
  refine (hKy _).mono ?_
  rintro e5 w5 ⟨rfl, hw5⟩
  obtain rfl := hw5.symm
  have hb4 := (Bs.four (w1.alloc (.cells #[.int .u8 3] TB)) k).src
  rw [show ((k / 16777216 % 256 : Nat) : Int) = (k : Int) / 16777216 by omega, show ((k / 65536 % 256 : Nat) : Int) = (k : Int) / 65536 % 256 by omega, show ((k / 256 % 256 : Nat) : Int) = (k : Int) / 256 % 256 by omega, show ((k % 256 : Nat) : Int) = (k : Int) % 256 by omega] at hb4
  have hsrc := hb4
  rw [show (w1.alloc (.cells #[.int .u8 3] TB)).heap.size = w1.heap.size + 1 by simp] at hsrc
  have hr2 : Row ((w1.alloc (.cells #[.int .u8 3] TB)).alloc (.cells #[.int .u8 ((k : Int) / 16777216), .int .u8 ((k : Int) / 65536 % 256), .int .u8 ((k : Int) / 256 % 256), .int .u8 ((k : Int) % 256)] TB)) (.slice (some ⟨w1.heap.size, 0, none⟩) 1 1) [3] := HR.out.1.keep (Keep.alloc1 _ _) (Off.nil _)
  go_wp2_with (at_builtin; refine wp_app rfl (.tmp 51) (.tmp 63) 31 31 rfl underS _ [3] rfl hr2 _ (four k) rfl hsrc (by simp [four]) ?_)
  intro v2 w2 g1 g2' g3' g4
  obtain ⟨g3, g2⟩ := app_fresh HR.out.2.2 HR.out.2.1 g2' g3'
  clear g2' g3' hsrc hr2
  clear hb4 hKy
  have HF : Hid ((Row w2 v2 (encL x) ∧ Fresh w w2 v2 ∧ Sl v2 (encL x).length) ∧ Keep [] w w2) := by
    show (Row w2 v2 (encL x) ∧ Fresh w w2 v2 ∧ Sl v2 (encL x).length) ∧ Keep [] w w2
    rw [HE.out, HBO.out]
    exact ⟨⟨g1, g2, g4⟩, g3⟩
  obtain ⟨a9, c9, rfl⟩ := g4
  clear g1 g2 g3
  go_wp2
  go_ret2
  exact ⟨_, rfl, HF.out⟩
end Go.Proofs.YtjdihnkcigoajaaGreatDoor


/- The document's Encode, further kinds. -/
namespace Go.Proofs.YtjdihnkcigoajaaGreatDoor
open Go.RowKit Go.PlainAid Go.Lib

set_option maxRecDepth 1000000 in
set_option maxHeartbeats 1600000 in
theorem dEncode_5 (x : VD) (hx : x.Ok) (hm : x.mayB = true) (hkd : x.kind = 5) (u : Value) (w : World) (hu : Ts w u x.texts) :
    Calls Tryz.prog 9 #[x.val u] w fun e w' => EncA x w e w' := by
  have hC := fun w1 (k : Keep [] w w1) => rMay_any x hx u w1 (hu.keep k (Off.nil _))
  rw [hm] at hC
  have HOK : Hid (x.Ok ∧ x.mayB = true) := ⟨hx, hm⟩
  have HU : Hid (Ts w u x.texts) := hu
  have HE : Hid (encL x = [5] ++ bodyL x) := show encL x = [5] ++ bodyL x by unfold encL; rw [hkd]; rfl
  have HKD : Hid (x.kind = 5) := hkd
  obtain ⟨ao, ca, rfl, hl1, hl2, _, _⟩ := hu.ex
  clear hu hx hm hkd
  have K0 : Hid (Keep [] w (w.alloc (x.blk (.slice ao x.texts.length ca)))) := Keep.alloc1 w _
  go_enter Tryz.func9, Tryz.ntmps9
  go_wp2_with fail
  refine (hC _ K0.out).mono ?_
  rintro e1 w1 ⟨rfl, k1⟩
  obtain ⟨⟨c0, c1, c2, c3, c4, c5⟩, _⟩ := six_cells k1 (by simp)
  rw [HKD.out] at c0
  have HK1 : Hid (Keep [] w w1) := K0.out.trans' k1
  have hs1 : w.heap.size < w1.heap.size := by have := k1.size; simp at this; omega
  have HR : Hid (Row (w1.alloc (.cells #[.int .u8 5] TB)) (.slice (some ⟨w1.heap.size, 0, none⟩) 1 1) [5] ∧ Fresh w (w1.alloc (.cells #[.int .u8 5] TB)) (.slice (some ⟨w1.heap.size, 0, none⟩) 1 1) ∧ Keep [] w (w1.alloc (.cells #[.int .u8 5] TB))) := by
    refine ⟨Row.one w1 5 (by omega), ?_, HK1.out.alloc _⟩
    intro k hk
    simp [Value.ownBlock] at hk
    subst hk
    exact ⟨by omega, by simp⟩
  have kz : Keep [] w1 (w1.alloc (.cells #[.int .u8 5] TB)) := Keep.alloc1 w1 _
  have d0 := kz.cell' c0 (by simp)
  have d1 := kz.cell' c1 (by simp)
  have d2 := kz.cell' c2 (by simp)
  have d3 := kz.cell' c3 (by simp)
  have d4 := kz.cell' c4 (by simp)
  have d5 := kz.cell' c5 (by simp)
  clear k1 hC kz
  have hsh := may_short x HOK.out.2
  have HSH : Hid (∀ s ∈ x.texts, s.size ≤ 256) := hsh.2.2
  have hn32 : x.texts.length ≤ 32 := hsh.2.1
  have hul := uvarint_length64 (x := x.texts.length) (by omega)
  have HBO : Hid (bodyL x = uvarint x.texts.length ++ textsB x.texts) := show bodyL x = uvarint x.texts.length ++ textsB x.texts by unfold bodyL; rw [HKD.out]; rfl
  have hU := dUint_any x.texts.length (by omega) _ [5] (by simp) w1 _ HR.out.1 (Keep.alloc1 w1 _) (by
    intro k hk
    simp [Value.ownBlock] at hk
    subst hk
    exact ⟨Nat.le_refl _, by simp⟩)
  clear hsh
  go_wp2_with fail
  refine hU.mono ?_
  rintro e2 w2 ⟨v2, rfl, g1, g2, g3, g4⟩
  have HI : Hid (Row w2 v2 ([5] ++ uvarint x.texts.length) ∧ Keep [] w1 w2 ∧ Fresh w1 w2 v2 ∧ Sl v2 ([5] ++ uvarint x.texts.length).length) := ⟨g1, g3, g2, g4⟩
  clear g1 g2 g3 g4 hU d0 d1 d2 d3 d4 d5 HR
  go_wp2
  go_loopw [4, 6] (fun ov iv wr => ∃ (i : Nat), iv = .int .i64 (i : Int) ∧ i ≤ x.texts.length ∧ Hid (Row wr ov ([5] ++ uvarint x.texts.length ++ textsB (x.texts.take i)) ∧ Keep [] w1 wr ∧ Fresh w1 wr ov ∧ Sl ov ([5] ++ uvarint x.texts.length ++ textsB (x.texts.take i)).length))
    (fun _ iv _ => x.texts.length - (RowKit.intOf iv).toNat)
  case atStart => exact ⟨0, rfl, Nat.zero_le _, by show _ ∧ _; simpa [textsB] using HI.out⟩
  case round =>
    obtain ⟨i, rfl, hi, hI⟩ := hrel
    clear HI
    have f5 := hI.out.2.1.cell' c5 (by simp)
    by_cases hil : i < x.texts.length
    · have hili : (i : Int) < (x.texts.length : Int) := by omega
      obtain ⟨bb, oo, cc, he, hcc, hcc2, e5⟩ := (HU.out.keep (HK1.out.trans' hI.out.2.1) (Off.nil _)).at' i hil
      simp at he
      obtain ⟨rfl, rfl⟩ := he
      have HD : Hid (textsB (x.texts.take (i + 1)) = textsB (x.texts.take i) ++ vtextB x.texts[i]) := show textsB (x.texts.take (i + 1)) = textsB (x.texts.take i) ++ vtextB x.texts[i] by
        unfold textsB; rw [List.take_succ_eq_append_getElem hil, List.flatMap_append, List.flatMap_singleton]
      have hs := HSH.out x.texts[i] (List.getElem_mem hil)
      have htl := textsB_len (x.texts.take i) (fun s hs => HSH.out s (List.mem_of_mem_take hs))
      rw [List.length_take] at htl
      generalize x.texts[i] = t at e5 HD hs
      have hB := dBytes_any t hs u4 ([5] ++ uvarint x.texts.length ++ textsB (x.texts.take i)) (by simp; omega) w1 wr hI.out.1 hI.out.2.1 hI.out.2.2.1
      clear hI htl
      go_wp2_with fail
      refine hB.mono ?_
      rintro e3 w3 ⟨v3, rfl, g1, g2, g3, g4⟩
      have HX : Hid (Row w3 v3 ([5] ++ uvarint x.texts.length ++ textsB (x.texts.take (i + 1))) ∧ Keep [] w1 w3 ∧ Fresh w1 w3 v3 ∧ Sl v3 ([5] ++ uvarint x.texts.length ++ textsB (x.texts.take (i + 1))).length) := by
        show _ ∧ _
        rw [HD.out, ← List.append_assoc]
        exact ⟨g1, g3, g2, g4⟩
      clear g1 g2 g3 g4 hB e5 f5
      go_wp2
      go_roundw
      case rel => exact ⟨i + 1, by go_num, by omega, HX⟩
      case measure => simp [RowKit.intOf]; omega
    · have hili : ¬ ((i : Int) < (x.texts.length : Int)) := by omega
      have HF : Hid ((Row wr u4 (encL x) ∧ Fresh w wr u4 ∧ Sl u4 (encL x).length) ∧ Keep [] w wr) := by
        show (Row wr u4 (encL x) ∧ Fresh w wr u4 ∧ Sl u4 (encL x).length) ∧ Keep [] w wr
        obtain ⟨g1, g2, g3, g4⟩ := hI.out
        rw [List.take_of_length_le (by omega), List.append_assoc] at g1 g4
        rw [HE.out, HBO.out]
        exact ⟨⟨g1, g3.earlier HK1.out.size, g4⟩, HK1.out.trans' g2⟩
      obtain ⟨a9, c9, rfl⟩ := HF.out.1.2.2
      clear hI
      go_wp2
      go_ret2
      exact ⟨_, rfl, HF.out⟩
end Go.Proofs.YtjdihnkcigoajaaGreatDoor


/- The document's Encode, of any value. -/
namespace Go.Proofs.YtjdihnkcigoajaaGreatDoor
open Go.RowKit Go.PlainAid Go.Lib

theorem dEncode_yes (x : VD) (hx : x.Ok) (hm : x.mayB = true) (u : Value) (w : World) (hu : Ts w u x.texts) :
    Calls Tryz.prog 9 #[x.val u] w fun e w' => EncA x w e w' := by
  have hk := may_kind x hm
  by_cases h1 : x.kind = 1
  · exact dEncode_1 x hx hm h1 u w hu
  by_cases h2 : x.kind = 2
  · exact dEncode_2 x hx hm h2 u w hu
  by_cases h3 : x.kind = 3
  · exact dEncode_3 x hx hm h3 u w hu
  by_cases h4 : x.kind = 4
  · exact dEncode_4 x hx hm h4 u w hu
  · exact dEncode_5 x hx hm (by omega) u w hu
end Go.Proofs.YtjdihnkcigoajaaGreatDoor

