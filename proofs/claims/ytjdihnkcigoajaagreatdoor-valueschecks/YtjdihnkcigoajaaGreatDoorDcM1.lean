/- The reference's Same and Key. -/
import Derived.Test.YtjdihnkcigoajaaGreatDoorNgWap
import Derived.Test.YtjdihnkcigoajaaGreatDoorDcH
import Derived.Test.YtjdihnkcigoajaaGreatDoorUsE
import Derived.Test.YtjdihnkcigoajaaGreatDoorNgM

namespace Go.Proofs.YtjdihnkcigoajaaGreatDoor
open Go.RowKit Go.PlainAid Go.Lib

set_option maxHeartbeats 1600000 in
/-- the reference's Key is the program's -/
theorem rKey_any (x : Nat) (h : x < 4294967296) (w : World) : Calls Tryz.prog 26 #[.float .f32 x] w fun e w' => e = .returned (.int .u32 (keyN x : Nat)) ∧ w' = w := by
  have hN := rIsNan_any x
  have hB := rBelow_any x h
  unfold keyN
  cases hx : nanB x
  · have hM := number_any x h hx
    have hr : rungN x ≤ 2139095040 := by simpa [nanB, rungN] using hx
    rw [hx] at hN
    unfold belowB at hB
    rw [hx] at hB
    rw [if_neg (by decide)]
    by_cases hs : 2147483648 ≤ x
    · rw [show decide (2147483648 ≤ x) = true by simpa using hs] at hB
      rw [if_pos hs]
      have hz : x = rungN x + 2147483648 := by unfold rungN; omega
      have HG : Hid (4294967295 - x = 2147483647 - rungN x) := show _ = _ by omega
      clear hz
      generalize rungN x = r at *
      go_enter Tryz.func26, Tryz.ntmps26
      go_wp2_with (first | (go_at_call 47; refine (hN _).mono ?_; rintro e9 w9 ⟨rfl, hw9⟩; obtain rfl := hw9.symm) | (go_at_call 48; refine (hB _).mono ?_; rintro e9 w9 ⟨rfl, hw9⟩; obtain rfl := hw9.symm) | (go_at_call 49; refine (hM _).mono ?_; rintro e9 w9 ⟨rfl, hw9⟩; obtain rfl := hw9.symm))
      go_ret
      refine ⟨?_, rfl⟩
      rw [HG.out]
      have e1 : ((2147483647 - r : Nat) : Int) = 2147483647 - (r : Int) := by omega
      rw [e1]
      rfl
    · rw [show decide (2147483648 ≤ x) = false by simpa using hs] at hB
      rw [if_neg hs]
      have hz : rungN x = x := by unfold rungN; omega
      rw [hz] at hM hr
      clear hz
      go_enter Tryz.func26, Tryz.ntmps26
      go_wp2_with (first | (go_at_call 47; refine (hN _).mono ?_; rintro e9 w9 ⟨rfl, hw9⟩; obtain rfl := hw9.symm) | (go_at_call 48; refine (hB _).mono ?_; rintro e9 w9 ⟨rfl, hw9⟩; obtain rfl := hw9.symm) | (go_at_call 49; refine (hM _).mono ?_; rintro e9 w9 ⟨rfl, hw9⟩; obtain rfl := hw9.symm))
      go_ret
      refine ⟨?_, rfl⟩
      have e1 : ((x + 2147483648 : Nat) : Int) = 2147483648 + (x : Int) := by omega
      rw [e1]
      rfl
  · rw [hx] at hN
    rw [if_pos rfl]
    go_enter Tryz.func26, Tryz.ntmps26
    go_wp2_with (first | (go_at_call 47; refine (hN _).mono ?_; rintro e9 w9 ⟨rfl, hw9⟩; obtain rfl := hw9.symm))
    go_ret
    exact ⟨rfl, rfl⟩

end Go.Proofs.YtjdihnkcigoajaaGreatDoor


/- The document's Encode: a value's bytes. -/
namespace Go.Proofs.YtjdihnkcigoajaaGreatDoor
open Go.RowKit Go.PlainAid Go.Lib

/-- what Encode says of a value that may be -/
def EncA (x : VD) (w : World) (e : Ending) (w' : World) : Prop := ∃ v, e = .returned (.tuple #[v, .int .i64 0]) ∧ (Row w' v (encL x) ∧ Fresh w w' v ∧ Sl v (encL x).length) ∧ Keep [] w w'
theorem dEncode_no (x : VD) (hx : x.Ok) (hm : x.mayB = false) (u : Value) (w : World) (hu : Ts w u x.texts) :
    Calls Tryz.prog 9 #[x.val u] w fun e w' => e = .returned (.tuple #[.slice none 0 0, .int .i64 40]) ∧ Keep [] w w' := by
  have hC := fun w1 (k : Keep [] w w1) => rMay_any x hx u w1 (hu.keep k (Off.nil _))
  rw [hm] at hC
  obtain ⟨ao, ca, rfl, _, _, _, _⟩ := hu.ex
  clear hu hx hm
  have K0 : Hid (Keep [] w (w.alloc (x.blk (.slice ao x.texts.length ca)))) := Keep.alloc1 w _
  go_enter Tryz.func9, Tryz.ntmps9
  go_wp2_with fail
  refine (hC _ K0.out).mono ?_
  rintro e1 w1 ⟨rfl, k1⟩
  have HK1 : Hid (Keep [] w w1) := K0.out.trans' k1
  clear k1 hC
  go_wp2
  go_ret2
  exact ⟨rfl, HK1.out⟩
theorem Row.one (w : World) (c : Nat) (hc : c < 256) : Row (w.alloc (.cells #[.int .u8 (c : Int)] TB)) (.slice (some ⟨w.heap.size, 0, none⟩) 1 1) [c.toUInt8] := by
  have e : (c : Int) = ((c.toUInt8).toNat : Int) := by simp; omega
  rw [e]
  exact World.ownsRow_lit w #[.int .u8 ((c.toUInt8).toNat : Int)] 1 (Nat.zero_le _) (by unfold maxLen; omega) rfl

set_option maxRecDepth 1000000 in
set_option maxHeartbeats 1600000 in
theorem dEncode_4 (x : VD) (hx : x.Ok) (hm : x.mayB = true) (hkd : x.kind = 4) (u : Value) (w : World) (hu : Ts w u x.texts) :
    Calls Tryz.prog 9 #[x.val u] w fun e w' => EncA x w e w' := by
  have hC := fun w1 (k : Keep [] w w1) => rMay_any x hx u w1 (hu.keep k (Off.nil _))
  rw [hm] at hC
  have HOK : Hid (x.Ok ∧ x.mayB = true) := ⟨hx, hm⟩
  have HU : Hid (Ts w u x.texts) := hu
  have HE : Hid (encL x = [4] ++ bodyL x) := show encL x = [4] ++ bodyL x by unfold encL; rw [hkd]; rfl
  have HKD : Hid (x.kind = 4) := hkd
  obtain ⟨ao, ca, rfl, hl1, hl2, _, _⟩ := hu.ex
  clear hu hx hm hkd
  have K0 : Hid (Keep [] w (w.alloc (x.blk (.slice ao x.texts.length ca)))) := Keep.alloc1 w _
  go_enter Tryz.func9, Tryz.ntmps9
  go_wp2_with fail
  refine (hC _ K0.out).mono ?_
  rintro e1 w1 ⟨rfl, k1⟩
  obtain ⟨⟨c0, c1, c2, c3, c4, c5⟩, _⟩ := six_cells k1 (by simp)
  rw [HKD.out] at c0
  have HK1 : Hid (Keep [] w w1) := K0.out.trans' k1
  have hs1 : w.heap.size < w1.heap.size := by have := k1.size; simp at this; omega
  have HR : Hid (Row (w1.alloc (.cells #[.int .u8 4] TB)) (.slice (some ⟨w1.heap.size, 0, none⟩) 1 1) [4] ∧ Fresh w (w1.alloc (.cells #[.int .u8 4] TB)) (.slice (some ⟨w1.heap.size, 0, none⟩) 1 1) ∧ Keep [] w (w1.alloc (.cells #[.int .u8 4] TB))) := by
    refine ⟨Row.one w1 4 (by omega), ?_, HK1.out.alloc _⟩
    intro k hk
    simp [Value.ownBlock] at hk
    subst hk
    exact ⟨by omega, by simp⟩
  have kz : Keep [] w1 (w1.alloc (.cells #[.int .u8 4] TB)) := Keep.alloc1 w1 _
  have d0 := kz.cell' c0 (by simp)
  have d1 := kz.cell' c1 (by simp)
  have d2 := kz.cell' c2 (by simp)
  have d3 := kz.cell' c3 (by simp)
  have d4 := kz.cell' c4 (by simp)
  have d5 := kz.cell' c5 (by simp)
  clear k1 hC kz
  have hB := dBytes_any x.text (may_short x HOK.out.2).1 _ [4] (by simp) w _ HR.out.1 HR.out.2.2 HR.out.2.1
  go_wp2_with fail
  refine hB.mono ?_
  rintro e2 w2 ⟨v2, rfl, g1, g2, g3, g4⟩
  have HF : Hid ((Row w2 v2 (encL x) ∧ Fresh w w2 v2 ∧ Sl v2 (encL x).length) ∧ Keep [] w w2) := by
    show (Row w2 v2 (encL x) ∧ Fresh w w2 v2 ∧ Sl v2 (encL x).length) ∧ Keep [] w w2
    have hb : bodyL x = vtextB x.text := by unfold bodyL; rw [HKD.out]; rfl
    rw [HE.out, hb]
    exact ⟨⟨g1, g2, g4⟩, g3⟩
  obtain ⟨a9, c9, rfl⟩ := g4
  clear g1 g2 g3 hB
  go_wp2
  go_ret2
  exact ⟨_, rfl, HF.out⟩
end Go.Proofs.YtjdihnkcigoajaaGreatDoor


/- The document's Encode, further kinds. -/
namespace Go.Proofs.YtjdihnkcigoajaaGreatDoor
open Go.RowKit Go.PlainAid Go.Lib

set_option maxRecDepth 1000000 in
set_option maxHeartbeats 1600000 in
theorem dEncode_1 (x : VD) (hx : x.Ok) (hm : x.mayB = true) (hkd : x.kind = 1) (u : Value) (w : World) (hu : Ts w u x.texts) :
    Calls Tryz.prog 9 #[x.val u] w fun e w' => EncA x w e w' := by
  have hC := fun w1 (k : Keep [] w w1) => rMay_any x hx u w1 (hu.keep k (Off.nil _))
  rw [hm] at hC
  have HOK : Hid (x.Ok ∧ x.mayB = true) := ⟨hx, hm⟩
  have HU : Hid (Ts w u x.texts) := hu
  have HE : Hid (encL x = [1] ++ bodyL x) := show encL x = [1] ++ bodyL x by unfold encL; rw [hkd]; rfl
  have HKD : Hid (x.kind = 1) := hkd
  obtain ⟨ao, ca, rfl, hl1, hl2, _, _⟩ := hu.ex
  clear hu hx hm hkd
  have K0 : Hid (Keep [] w (w.alloc (x.blk (.slice ao x.texts.length ca)))) := Keep.alloc1 w _
  go_enter Tryz.func9, Tryz.ntmps9
  go_wp2_with fail
  refine (hC _ K0.out).mono ?_
  rintro e1 w1 ⟨rfl, k1⟩
  obtain ⟨⟨c0, c1, c2, c3, c4, c5⟩, _⟩ := six_cells k1 (by simp)
  rw [HKD.out] at c0
  have HK1 : Hid (Keep [] w w1) := K0.out.trans' k1
  have hs1 : w.heap.size < w1.heap.size := by have := k1.size; simp at this; omega
  have HR : Hid (Row (w1.alloc (.cells #[.int .u8 1] TB)) (.slice (some ⟨w1.heap.size, 0, none⟩) 1 1) [1] ∧ Fresh w (w1.alloc (.cells #[.int .u8 1] TB)) (.slice (some ⟨w1.heap.size, 0, none⟩) 1 1) ∧ Keep [] w (w1.alloc (.cells #[.int .u8 1] TB))) := by
    refine ⟨Row.one w1 1 (by omega), ?_, HK1.out.alloc _⟩
    intro k hk
    simp [Value.ownBlock] at hk
    subst hk
    exact ⟨by omega, by simp⟩
  have kz : Keep [] w1 (w1.alloc (.cells #[.int .u8 1] TB)) := Keep.alloc1 w1 _
  have d0 := kz.cell' c0 (by simp)
  have d1 := kz.cell' c1 (by simp)
  have d2 := kz.cell' c2 (by simp)
  have d3 := kz.cell' c3 (by simp)
  have d4 := kz.cell' c4 (by simp)
  have d5 := kz.cell' c5 (by simp)
  clear k1 hC kz
  obtain ⟨bb, hbb⟩ : ∃ bb, bb = x.bool := ⟨_, rfl⟩
  have HBO : Hid (bodyL x = [if bb then 1 else 0]) := show bodyL x = [if bb then 1 else 0] by unfold bodyL; rw [HKD.out, hbb]; rfl
  rw [← hbb] at d1
  clear hbb
  cases bb
  · have hsrc := (Bs.one (w1.alloc (.cells #[.int .u8 1] TB)) 0 (by omega)).src
    rw [show (w1.alloc (.cells #[.int .u8 1] TB)).heap.size = w1.heap.size + 1 by simp] at hsrc
    have hr2 : Row ((w1.alloc (.cells #[.int .u8 1] TB)).alloc (.cells #[.int .u8 0] TB)) (.slice (some ⟨w1.heap.size, 0, none⟩) 1 1) [1] := HR.out.1.keep (Keep.alloc1 _ _) (Off.nil _)
    go_wp2_with (at_builtin; refine wp_app rfl (.tmp 23) (.tmp 24) 31 31 rfl underS _ [1] rfl hr2 _ [(0 : Nat).toUInt8] rfl hsrc (by simp) ?_)
    intro v2 w2 g1 g2' g3' g4
    obtain ⟨g3, g2⟩ := app_fresh HR.out.2.2 HR.out.2.1 g2' g3'
    clear g2' g3' hsrc hr2
    have HF : Hid ((Row w2 v2 (encL x) ∧ Fresh w w2 v2 ∧ Sl v2 (encL x).length) ∧ Keep [] w w2) := by
      show (Row w2 v2 (encL x) ∧ Fresh w w2 v2 ∧ Sl v2 (encL x).length) ∧ Keep [] w w2
      rw [HE.out, HBO.out]
      exact ⟨⟨g1, g2, g4⟩, g3⟩
    obtain ⟨a9, c9, rfl⟩ := g4
    clear g1 g2 g3
    go_wp2
    go_ret2
    exact ⟨_, rfl, HF.out⟩
  · have hsrc := (Bs.one (w1.alloc (.cells #[.int .u8 1] TB)) 1 (by omega)).src
    rw [show (w1.alloc (.cells #[.int .u8 1] TB)).heap.size = w1.heap.size + 1 by simp] at hsrc
    have hr2 : Row ((w1.alloc (.cells #[.int .u8 1] TB)).alloc (.cells #[.int .u8 1] TB)) (.slice (some ⟨w1.heap.size, 0, none⟩) 1 1) [1] := HR.out.1.keep (Keep.alloc1 _ _) (Off.nil _)
    go_wp2_with (at_builtin; refine wp_app rfl (.tmp 20) (.tmp 21) 31 31 rfl underS _ [1] rfl hr2 _ [(1 : Nat).toUInt8] rfl hsrc (by simp) ?_)
    intro v2 w2 g1 g2' g3' g4
    obtain ⟨g3, g2⟩ := app_fresh HR.out.2.2 HR.out.2.1 g2' g3'
    clear g2' g3' hsrc hr2
    have HF : Hid ((Row w2 v2 (encL x) ∧ Fresh w w2 v2 ∧ Sl v2 (encL x).length) ∧ Keep [] w w2) := by
      show (Row w2 v2 (encL x) ∧ Fresh w w2 v2 ∧ Sl v2 (encL x).length) ∧ Keep [] w w2
      rw [HE.out, HBO.out]
      exact ⟨⟨g1, g2, g4⟩, g3⟩
    obtain ⟨a9, c9, rfl⟩ := g4
    clear g1 g2 g3
    go_wp2
    go_ret2
    exact ⟨_, rfl, HF.out⟩
end Go.Proofs.YtjdihnkcigoajaaGreatDoor

