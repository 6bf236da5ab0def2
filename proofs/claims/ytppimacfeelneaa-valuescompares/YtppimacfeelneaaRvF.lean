/- The document's Compare of two values: just cmpV. -/
import Derived.Test.YtppimacfeelneaaRvD
import Derived.Test.YtppimacfeelneaaIntC
namespace Go.Proofs.Ytppimacfeelneaa
open Go.RowKit Go.PlainAid

theorem may_both {a b : VD} (ha : a.mayB = true) (hb : b.mayB = true) : ¬ (a.mayB && b.mayB) = false := by rw [ha, hb]; decide

set_option maxRecDepth 1000000 in
set_option maxHeartbeats 1600000 in
theorem rCmp_no (a b : VD) (ha : a.Ok) (hb : b.Ok) (h : (a.mayB && b.mayB) = false) (u v : Value) (w : World) (hu : Ts w u a.texts) (hv : Ts w v b.texts) :
    Calls Try.prog 15 #[a.val u, b.val v] w fun e w' => e = .returned (.tuple #[.int .i64 (cmpV a b).1, .bool (cmpV a b).2]) ∧ Keep [] w w' := by
  have hMa := fun w1 (k : Keep [] w w1) => rMay_any a ha u w1 (hu.keep k (Off.nil _))
  have hMb := fun w1 (k : Keep [] w w1) => rMay_any b hb v w1 (hv.keep k (Off.nil _))
  obtain ⟨ao, ca, rfl, _, _, _, _⟩ := hu.ex
  obtain ⟨bo, cb, rfl, _, _, _, _⟩ := hv.ex
  clear hu hv
  have K0 : Hid (Keep [] w ((w.alloc (a.blk (.slice ao a.texts.length ca))).alloc (b.blk (.slice bo b.texts.length cb)))) := (Keep.alloc1 w _).alloc _
  have HZ : Hid (cmpV a b = (0, false)) := show cmpV a b = (0, false) by unfold cmpV; rw [if_pos h]
  clear ha hb
  cases hma : a.mayB
  · rw [hma] at hMa
    clear hMb
    go_enter Try.func15, Try.ntmps15
    go_wp2_with (go_at_call 38; refine (hMa _ K0.out).mono ?_; rintro e9 w1 ⟨rfl, k1⟩; have HK : Hid (Keep [] w w1) := K0.out.trans' k1; clear k1)
    go_ret2
    exact ⟨by rw [HZ.out]; rfl, HK.out⟩
  · rw [hma, Bool.true_and] at h
    rw [hma] at hMa
    rw [h] at hMb
    clear h hma
    go_enter Try.func15, Try.ntmps15
    go_wp2_with fail
    refine (hMa _ K0.out).mono ?_
    rintro e9 w1 ⟨rfl, k1⟩
    obtain ⟨⟨c0, c1, c2, c3, c4, c5⟩, ⟨d0, d1, d2, d3, d4, d5⟩⟩ := two_cells k1
    have HK1 : Hid _ := k1
    clear k1 hMa
    go_wp2_with fail
    refine (hMb _ (K0.out.trans' HK1.out)).mono ?_
    rintro e9 w2 ⟨rfl, k2⟩
    clear c0 c1 c2 c3 c4 c5 d0 d1 d2 d3 d4 d5
    obtain ⟨⟨c0, c1, c2, c3, c4, c5⟩, ⟨d0, d1, d2, d3, d4, d5⟩⟩ := two_cells (HK1.out.trans' k2)
    have HK2 : Hid (Keep [] w w2) := (K0.out.trans' HK1.out).trans' k2
    clear k2 hMb HK1
    go_wp2
    go_ret2
    exact ⟨by rw [HZ.out]; rfl, HK2.out⟩

set_option maxRecDepth 1000000 in
set_option maxHeartbeats 1600000 in
theorem rCmp_23 (a b : VD) (ha : a.Ok) (hb : b.Ok) (hma : a.mayB = true) (hmb : b.mayB = true) (hka : a.kind = 2) (hkb : b.kind = 3) (u v : Value) (w : World) (hu : Ts w u a.texts) (hv : Ts w v b.texts) :
    Calls Try.prog 15 #[a.val u, b.val v] w fun e w' => e = .returned (.tuple #[.int .i64 (cmpV a b).1, .bool (cmpV a b).2]) ∧ Keep [] w w' := by
  have hMa := fun w1 (k : Keep [] w w1) => rMay_any a ha u w1 (hu.keep k (Off.nil _))
  have hMb := fun w1 (k : Keep [] w w1) => rMay_any b hb v w1 (hv.keep k (Off.nil _))
  obtain ⟨ao, ca, rfl, _, _, _, _⟩ := hu.ex
  obtain ⟨bo, cb, rfl, _, _, _, _⟩ := hv.ex
  clear hu hv
  have K0 : Hid (Keep [] w ((w.alloc (a.blk (.slice ao a.texts.length ca))).alloc (b.blk (.slice bo b.texts.length cb)))) := (Keep.alloc1 w _).alloc _
  rw [hma] at hMa
  rw [hmb] at hMb
  have hC := fun w => rCompareInt_any b.real a.int hb.real1 ha.int0 ha.int1 w
  have hr := cmpXN_range b.real a.int
  have HZ : Hid (cmpV a b = (-(cmpXN b.real a.int).1, (cmpXN b.real a.int).2)) := show cmpV a b = _ by unfold cmpV; rw [if_neg (may_both hma hmb), if_neg (by omega), if_neg (by omega), if_pos ⟨hka, hkb⟩]
  have ka2 : (a.kind == 2) = true := beq_iff_eq.2 hka
  have kb3 : (b.kind == 3) = true := beq_iff_eq.2 hkb
  clear hma hmb hka hkb ha hb
  generalize (cmpXN b.real a.int).1 = z at *
  generalize (cmpXN b.real a.int).2 = ok at *
  obtain ⟨z1, z2⟩ := hr
  go_enter Try.func15, Try.ntmps15
  go_wp2_with fail
  refine (hMa _ K0.out).mono ?_
  rintro e9 w1 ⟨rfl, k1⟩
  obtain ⟨⟨c0, c1, c2, c3, c4, c5⟩, ⟨d0, d1, d2, d3, d4, d5⟩⟩ := two_cells k1
  have HK1 : Hid _ := k1
  clear k1 hMa
  go_wp2_with fail
  refine (hMb _ (K0.out.trans' HK1.out)).mono ?_
  rintro e9 w2 ⟨rfl, k2⟩
  clear c0 c1 c2 c3 c4 c5 d0 d1 d2 d3 d4 d5
  obtain ⟨⟨c0, c1, c2, c3, c4, c5⟩, ⟨d0, d1, d2, d3, d4, d5⟩⟩ := two_cells (HK1.out.trans' k2)
  have HK2 : Hid (Keep [] w w2) := (K0.out.trans' HK1.out).trans' k2
  clear k2 hMb HK1
  go_wp2_with (go_at_call 39; refine (hC _).mono ?_; rintro e9 w3 ⟨rfl, k3⟩)
  go_ret2
  exact ⟨by rw [HZ.out]; go_num, HK2.out.trans' k3⟩

set_option maxRecDepth 1000000 in
set_option maxHeartbeats 1600000 in
theorem rCmp_32 (a b : VD) (ha : a.Ok) (hb : b.Ok) (hma : a.mayB = true) (hmb : b.mayB = true) (hka : a.kind = 3) (hkb : b.kind = 2) (u v : Value) (w : World) (hu : Ts w u a.texts) (hv : Ts w v b.texts) :
    Calls Try.prog 15 #[a.val u, b.val v] w fun e w' => e = .returned (.tuple #[.int .i64 (cmpV a b).1, .bool (cmpV a b).2]) ∧ Keep [] w w' := by
  have hMa := fun w1 (k : Keep [] w w1) => rMay_any a ha u w1 (hu.keep k (Off.nil _))
  have hMb := fun w1 (k : Keep [] w w1) => rMay_any b hb v w1 (hv.keep k (Off.nil _))
  obtain ⟨ao, ca, rfl, _, _, _, _⟩ := hu.ex
  obtain ⟨bo, cb, rfl, _, _, _, _⟩ := hv.ex
  clear hu hv
  have K0 : Hid (Keep [] w ((w.alloc (a.blk (.slice ao a.texts.length ca))).alloc (b.blk (.slice bo b.texts.length cb)))) := (Keep.alloc1 w _).alloc _
  rw [hma] at hMa
  rw [hmb] at hMb
  have hC := fun w => rCompareInt_any a.real b.int ha.real1 hb.int0 hb.int1 w
  have HZ : Hid (cmpV a b = ((cmpXN a.real b.int).1, (cmpXN a.real b.int).2)) := show cmpV a b = _ by unfold cmpV; rw [if_neg (may_both hma hmb), if_neg (by omega), if_pos ⟨hka, hkb⟩]
  have ka2 : (a.kind == 2) = false := beq_eq_false_iff_ne.2 (by omega)
  have ka3 : (a.kind == 3) = true := beq_iff_eq.2 hka
  have kb2 : (b.kind == 2) = true := beq_iff_eq.2 hkb
  clear hma hmb hka hkb ha hb
  generalize (cmpXN a.real b.int).1 = z at *
  generalize (cmpXN a.real b.int).2 = ok at *
  go_enter Try.func15, Try.ntmps15
  go_wp2_with fail
  refine (hMa _ K0.out).mono ?_
  rintro e9 w1 ⟨rfl, k1⟩
  obtain ⟨⟨c0, c1, c2, c3, c4, c5⟩, ⟨d0, d1, d2, d3, d4, d5⟩⟩ := two_cells k1
  have HK1 : Hid _ := k1
  clear k1 hMa
  go_wp2_with fail
  refine (hMb _ (K0.out.trans' HK1.out)).mono ?_
  rintro e9 w2 ⟨rfl, k2⟩
  clear c0 c1 c2 c3 c4 c5 d0 d1 d2 d3 d4 d5
  obtain ⟨⟨c0, c1, c2, c3, c4, c5⟩, ⟨d0, d1, d2, d3, d4, d5⟩⟩ := two_cells (HK1.out.trans' k2)
  have HK2 : Hid (Keep [] w w2) := (K0.out.trans' HK1.out).trans' k2
  clear k2 hMb HK1
  go_wp2_with (go_at_call 39; refine (hC _).mono ?_; rintro e9 w3 ⟨rfl, k3⟩)
  go_ret2
  exact ⟨by rw [HZ.out]; rfl, HK2.out.trans' k3⟩

set_option maxRecDepth 1000000 in
set_option maxHeartbeats 1600000 in
theorem rCmp_ne (a b : VD) (ha : a.Ok) (hb : b.Ok) (hma : a.mayB = true) (hmb : b.mayB = true) (hk : ¬ a.kind = b.kind) (h23 : ¬ (a.kind = 2 ∧ b.kind = 3)) (h32 : ¬ (a.kind = 3 ∧ b.kind = 2)) (u v : Value) (w : World) (hu : Ts w u a.texts) (hv : Ts w v b.texts) :
    Calls Try.prog 15 #[a.val u, b.val v] w fun e w' => e = .returned (.tuple #[.int .i64 (cmpV a b).1, .bool (cmpV a b).2]) ∧ Keep [] w w' := by
  have hMa := fun w1 (k : Keep [] w w1) => rMay_any a ha u w1 (hu.keep k (Off.nil _))
  have hMb := fun w1 (k : Keep [] w w1) => rMay_any b hb v w1 (hv.keep k (Off.nil _))
  obtain ⟨ao, ca, rfl, _, _, _, _⟩ := hu.ex
  obtain ⟨bo, cb, rfl, _, _, _, _⟩ := hv.ex
  clear hu hv
  have K0 : Hid (Keep [] w ((w.alloc (a.blk (.slice ao a.texts.length ca))).alloc (b.blk (.slice bo b.texts.length cb)))) := (Keep.alloc1 w _).alloc _
  rw [hma] at hMa
  rw [hmb] at hMb
  have HZ : Hid (cmpV a b = (0, false)) := show cmpV a b = _ by unfold cmpV; rw [if_neg (may_both hma hmb), if_neg hk, if_neg h32, if_neg h23]
  have t1 : (a.kind != b.kind) = true := by simpa using hk
  cases k2 : (a.kind == 2)
  · cases k3 : (a.kind == 3)
    · clear hma hmb hk h23 h32 ha hb
      go_enter Try.func15, Try.ntmps15
      go_wp2_with fail
      refine (hMa _ K0.out).mono ?_
      rintro e9 w1 ⟨rfl, k1⟩
      obtain ⟨⟨c0, c1, c2, c3, c4, c5⟩, ⟨d0, d1, d2, d3, d4, d5⟩⟩ := two_cells k1
      have HK1 : Hid _ := k1
      clear k1 hMa
      go_wp2_with fail
      refine (hMb _ (K0.out.trans' HK1.out)).mono ?_
      rintro e9 w2 ⟨rfl, kk2⟩
      clear c0 c1 c2 c3 c4 c5 d0 d1 d2 d3 d4 d5
      obtain ⟨⟨c0, c1, c2, c3, c4, c5⟩, ⟨d0, d1, d2, d3, d4, d5⟩⟩ := two_cells (HK1.out.trans' kk2)
      have HK2 : Hid (Keep [] w w2) := (K0.out.trans' HK1.out).trans' kk2
      clear kk2 hMb HK1
      go_wp2
      go_ret2
      exact ⟨by rw [HZ.out]; rfl, HK2.out⟩
    · have b2 : (b.kind == 2) = false := beq_eq_false_iff_ne.2 (fun h => h32 ⟨by simpa using k3, h⟩)
      clear hma hmb hk h23 h32 ha hb
      go_enter Try.func15, Try.ntmps15
      go_wp2_with fail
      refine (hMa _ K0.out).mono ?_
      rintro e9 w1 ⟨rfl, k1⟩
      obtain ⟨⟨c0, c1, c2, c3, c4, c5⟩, ⟨d0, d1, d2, d3, d4, d5⟩⟩ := two_cells k1
      have HK1 : Hid _ := k1
      clear k1 hMa
      go_wp2_with fail
      refine (hMb _ (K0.out.trans' HK1.out)).mono ?_
      rintro e9 w2 ⟨rfl, kk2⟩
      clear c0 c1 c2 c3 c4 c5 d0 d1 d2 d3 d4 d5
      obtain ⟨⟨c0, c1, c2, c3, c4, c5⟩, ⟨d0, d1, d2, d3, d4, d5⟩⟩ := two_cells (HK1.out.trans' kk2)
      have HK2 : Hid (Keep [] w w2) := (K0.out.trans' HK1.out).trans' kk2
      clear kk2 hMb HK1
      go_wp2
      go_ret2
      exact ⟨by rw [HZ.out]; rfl, HK2.out⟩
  · have b3 : (b.kind == 3) = false := beq_eq_false_iff_ne.2 (fun h => h23 ⟨by simpa using k2, h⟩)
    have k3 : (a.kind == 3) = false := beq_eq_false_iff_ne.2 (by have : a.kind = 2 := by simpa using k2
                                                                 omega)
    clear hma hmb hk h23 h32 ha hb
    go_enter Try.func15, Try.ntmps15
    go_wp2_with fail
    refine (hMa _ K0.out).mono ?_
    rintro e9 w1 ⟨rfl, k1⟩
    obtain ⟨⟨c0, c1, c2, c3, c4, c5⟩, ⟨d0, d1, d2, d3, d4, d5⟩⟩ := two_cells k1
    have HK1 : Hid _ := k1
    clear k1 hMa
    go_wp2_with fail
    refine (hMb _ (K0.out.trans' HK1.out)).mono ?_
    rintro e9 w2 ⟨rfl, kk2⟩
    clear c0 c1 c2 c3 c4 c5 d0 d1 d2 d3 d4 d5
    obtain ⟨⟨c0, c1, c2, c3, c4, c5⟩, ⟨d0, d1, d2, d3, d4, d5⟩⟩ := two_cells (HK1.out.trans' kk2)
    have HK2 : Hid (Keep [] w w2) := (K0.out.trans' HK1.out).trans' kk2
    clear kk2 hMb HK1
    go_wp2
    go_ret2
    exact ⟨by rw [HZ.out]; rfl, HK2.out⟩

set_option maxRecDepth 1000000 in
set_option maxHeartbeats 1600000 in
theorem rCmp_1 (a b : VD) (ha : a.Ok) (hb : b.Ok) (hma : a.mayB = true) (hmb : b.mayB = true) (hk : a.kind = b.kind) (h : a.kind = 1) (u v : Value) (w : World) (hu : Ts w u a.texts) (hv : Ts w v b.texts) :
    Calls Try.prog 15 #[a.val u, b.val v] w fun e w' => e = .returned (.tuple #[.int .i64 (cmpV a b).1, .bool (cmpV a b).2]) ∧ Keep [] w w' := by
  have hMa := fun w1 (k : Keep [] w w1) => rMay_any a ha u w1 (hu.keep k (Off.nil _))
  have hMb := fun w1 (k : Keep [] w w1) => rMay_any b hb v w1 (hv.keep k (Off.nil _))
  obtain ⟨ao, ca, rfl, _, _, _, _⟩ := hu.ex
  obtain ⟨bo, cb, rfl, _, _, _, _⟩ := hv.ex
  clear hu hv
  have K0 : Hid (Keep [] w ((w.alloc (a.blk (.slice ao a.texts.length ca))).alloc (b.blk (.slice bo b.texts.length cb)))) := (Keep.alloc1 w _).alloc _
  rw [hma] at hMa
  rw [hmb] at hMb
  have hka : a.kind = 1 := h
  have hkb : b.kind = 1 := by omega
  have t1 : (a.kind != b.kind) = false := by simpa using hk
  have ka1 : (a.kind == 1) = true := beq_iff_eq.2 hka
  have ka2 : (a.kind == 2) = false := beq_eq_false_iff_ne.2 (by omega)
  have ka3 : (a.kind == 3) = false := beq_eq_false_iff_ne.2 (by omega)
  have ka4 : (a.kind == 4) = false := beq_eq_false_iff_ne.2 (by omega)
  have ka5 : (a.kind == 5) = false := beq_eq_false_iff_ne.2 (by omega)
  have kb2 : (b.kind == 2) = false := beq_eq_false_iff_ne.2 (by omega)
  have kb3 : (b.kind == 3) = false := beq_eq_false_iff_ne.2 (by omega)
  have HZ : Hid (cmpV a b = (cmpI (b2i a.bool) (b2i b.bool), true)) := show cmpV a b = _ by unfold cmpV likeV; rw [if_neg (may_both hma hmb), if_pos hk, if_pos hka]
  have na := neq_self a.real
  have nb := neq_self b.real
  rw [may_nan a hma (by omega)] at na
  rw [may_nan b hmb (by omega)] at nb
  clear hma hmb hka hkb ha hb h hk
  obtain ⟨ka, ba, nna, xa, ta, la⟩ := a
  obtain ⟨kb, bb, nnb, xb, tb, lb⟩ := b
  simp only [] at *
  have hS := sign_any (!ba && bb) (ba && !bb)
  cases ba <;> cases bb
  all_goals
    go_enter Try.func15, Try.ntmps15
    go_wp2_with fail
    refine (hMa _ K0.out).mono ?_
    rintro e9 w1 ⟨rfl, k1⟩
    obtain ⟨⟨c0, c1, c2, c3, c4, c5⟩, ⟨d0, d1, d2, d3, d4, d5⟩⟩ := two_cells k1
    have HK1 : Hid _ := k1
    clear k1 hMa
    go_wp2_with fail
    refine (hMb _ (K0.out.trans' HK1.out)).mono ?_
    rintro e9 w2 ⟨rfl, k2⟩
    clear c0 c1 c2 c3 c4 c5 d0 d1 d2 d3 d4 d5
    obtain ⟨⟨c0, c1, c2, c3, c4, c5⟩, ⟨d0, d1, d2, d3, d4, d5⟩⟩ := two_cells (HK1.out.trans' k2)
    have HK2 : Hid (Keep [] w w2) := (K0.out.trans' HK1.out).trans' k2
    clear k2 hMb HK1
    go_wp2_with (go_at_call 40; refine (hS _).mono ?_; rintro e9 w9 ⟨rfl, hw9⟩; obtain rfl := hw9.symm)
    go_ret2
    exact ⟨by rw [HZ.out]; rfl, HK2.out⟩

set_option maxRecDepth 1000000 in
set_option maxHeartbeats 1600000 in
theorem rCmp_2 (a b : VD) (ha : a.Ok) (hb : b.Ok) (hma : a.mayB = true) (hmb : b.mayB = true) (hk : a.kind = b.kind) (h : a.kind = 2) (u v : Value) (w : World) (hu : Ts w u a.texts) (hv : Ts w v b.texts) :
    Calls Try.prog 15 #[a.val u, b.val v] w fun e w' => e = .returned (.tuple #[.int .i64 (cmpV a b).1, .bool (cmpV a b).2]) ∧ Keep [] w w' := by
  have hMa := fun w1 (k : Keep [] w w1) => rMay_any a ha u w1 (hu.keep k (Off.nil _))
  have hMb := fun w1 (k : Keep [] w w1) => rMay_any b hb v w1 (hv.keep k (Off.nil _))
  obtain ⟨ao, ca, rfl, _, _, _, _⟩ := hu.ex
  obtain ⟨bo, cb, rfl, _, _, _, _⟩ := hv.ex
  clear hu hv
  have K0 : Hid (Keep [] w ((w.alloc (a.blk (.slice ao a.texts.length ca))).alloc (b.blk (.slice bo b.texts.length cb)))) := (Keep.alloc1 w _).alloc _
  rw [hma] at hMa
  rw [hmb] at hMb
  have hka : a.kind = 2 := h
  have hkb : b.kind = 2 := by omega
  have t1 : (a.kind != b.kind) = false := by simpa using hk
  have ka1 : (a.kind == 1) = false := beq_eq_false_iff_ne.2 (by omega)
  have ka2 : (a.kind == 2) = true := beq_iff_eq.2 hka
  have ka3 : (a.kind == 3) = false := beq_eq_false_iff_ne.2 (by omega)
  have ka4 : (a.kind == 4) = false := beq_eq_false_iff_ne.2 (by omega)
  have ka5 : (a.kind == 5) = false := beq_eq_false_iff_ne.2 (by omega)
  have kb2 : (b.kind == 2) = true := beq_iff_eq.2 hkb
  have kb3 : (b.kind == 3) = false := beq_eq_false_iff_ne.2 (by omega)
  have HZ : Hid (cmpV a b = (cmpI a.int b.int, true)) := show cmpV a b = _ by unfold cmpV likeV; rw [if_neg (may_both hma hmb), if_pos hk, if_neg (by omega), if_pos hka]
  have na := neq_self a.real
  have nb := neq_self b.real
  rw [may_nan a hma (by omega)] at na
  rw [may_nan b hmb (by omega)] at nb
  clear hma hmb hka hkb ha hb h hk
  rcases Int.lt_trichotomy a.int b.int with hc | hc | hc
  · have HY : Hid (cmpV a b = (-1, true)) := HZ.out.trans (by unfold cmpI; rw [if_pos hc])
    have l1 : a.int < b.int := by omega
    have l2 : ¬ b.int < a.int := by omega
    clear HZ hc
    go_enter Try.func15, Try.ntmps15
    go_wp2_with fail
    refine (hMa _ K0.out).mono ?_
    rintro e9 w1 ⟨rfl, k1⟩
    obtain ⟨⟨c0, c1, c2, c3, c4, c5⟩, ⟨d0, d1, d2, d3, d4, d5⟩⟩ := two_cells k1
    have HK1 : Hid _ := k1
    clear k1 hMa
    go_wp2_with fail
    refine (hMb _ (K0.out.trans' HK1.out)).mono ?_
    rintro e9 w2 ⟨rfl, k2⟩
    clear c0 c1 c2 c3 c4 c5 d0 d1 d2 d3 d4 d5
    obtain ⟨⟨c0, c1, c2, c3, c4, c5⟩, ⟨d0, d1, d2, d3, d4, d5⟩⟩ := two_cells (HK1.out.trans' k2)
    have HK2 : Hid (Keep [] w w2) := (K0.out.trans' HK1.out).trans' k2
    clear k2 hMb HK1
    go_wp2
    go_ret2
    exact ⟨by rw [HY.out]; rfl, HK2.out⟩
  · have HY : Hid (cmpV a b = (0, true)) := HZ.out.trans (by unfold cmpI; rw [if_neg (by omega), if_neg (by omega)])
    have l1 : ¬ a.int < b.int := by omega
    have l2 : ¬ b.int < a.int := by omega
    clear HZ hc
    go_enter Try.func15, Try.ntmps15
    go_wp2_with fail
    refine (hMa _ K0.out).mono ?_
    rintro e9 w1 ⟨rfl, k1⟩
    obtain ⟨⟨c0, c1, c2, c3, c4, c5⟩, ⟨d0, d1, d2, d3, d4, d5⟩⟩ := two_cells k1
    have HK1 : Hid _ := k1
    clear k1 hMa
    go_wp2_with fail
    refine (hMb _ (K0.out.trans' HK1.out)).mono ?_
    rintro e9 w2 ⟨rfl, k2⟩
    clear c0 c1 c2 c3 c4 c5 d0 d1 d2 d3 d4 d5
    obtain ⟨⟨c0, c1, c2, c3, c4, c5⟩, ⟨d0, d1, d2, d3, d4, d5⟩⟩ := two_cells (HK1.out.trans' k2)
    have HK2 : Hid (Keep [] w w2) := (K0.out.trans' HK1.out).trans' k2
    clear k2 hMb HK1
    go_wp2
    go_ret2
    exact ⟨by rw [HY.out]; rfl, HK2.out⟩
  · have HY : Hid (cmpV a b = (1, true)) := HZ.out.trans (by unfold cmpI; rw [if_neg (by omega), if_pos hc])
    have l1 : ¬ a.int < b.int := by omega
    have l2 : b.int < a.int := by omega
    clear HZ hc
    go_enter Try.func15, Try.ntmps15
    go_wp2_with fail
    refine (hMa _ K0.out).mono ?_
    rintro e9 w1 ⟨rfl, k1⟩
    obtain ⟨⟨c0, c1, c2, c3, c4, c5⟩, ⟨d0, d1, d2, d3, d4, d5⟩⟩ := two_cells k1
    have HK1 : Hid _ := k1
    clear k1 hMa
    go_wp2_with fail
    refine (hMb _ (K0.out.trans' HK1.out)).mono ?_
    rintro e9 w2 ⟨rfl, k2⟩
    clear c0 c1 c2 c3 c4 c5 d0 d1 d2 d3 d4 d5
    obtain ⟨⟨c0, c1, c2, c3, c4, c5⟩, ⟨d0, d1, d2, d3, d4, d5⟩⟩ := two_cells (HK1.out.trans' k2)
    have HK2 : Hid (Keep [] w w2) := (K0.out.trans' HK1.out).trans' k2
    clear k2 hMb HK1
    go_wp2
    go_ret2
    exact ⟨by rw [HY.out]; rfl, HK2.out⟩

set_option maxRecDepth 1000000 in
set_option maxHeartbeats 1600000 in
theorem rCmp_3n (a b : VD) (ha : a.Ok) (hb : b.Ok) (hma : a.mayB = true) (hmb : b.mayB = true) (hk : a.kind = b.kind) (h : a.kind = 3) (hn : (nanB a.real || nanB b.real) = true) (u v : Value) (w : World) (hu : Ts w u a.texts) (hv : Ts w v b.texts) :
    Calls Try.prog 15 #[a.val u, b.val v] w fun e w' => e = .returned (.tuple #[.int .i64 (cmpV a b).1, .bool (cmpV a b).2]) ∧ Keep [] w w' := by
  have hMa := fun w1 (k : Keep [] w w1) => rMay_any a ha u w1 (hu.keep k (Off.nil _))
  have hMb := fun w1 (k : Keep [] w w1) => rMay_any b hb v w1 (hv.keep k (Off.nil _))
  obtain ⟨ao, ca, rfl, _, _, _, _⟩ := hu.ex
  obtain ⟨bo, cb, rfl, _, _, _, _⟩ := hv.ex
  clear hu hv
  have K0 : Hid (Keep [] w ((w.alloc (a.blk (.slice ao a.texts.length ca))).alloc (b.blk (.slice bo b.texts.length cb)))) := (Keep.alloc1 w _).alloc _
  rw [hma] at hMa
  rw [hmb] at hMb
  have hka : a.kind = 3 := h
  have hkb : b.kind = 3 := by omega
  have t1 : (a.kind != b.kind) = false := by simpa using hk
  have ka1 : (a.kind == 1) = false := beq_eq_false_iff_ne.2 (by omega)
  have ka2 : (a.kind == 2) = false := beq_eq_false_iff_ne.2 (by omega)
  have ka3 : (a.kind == 3) = true := beq_iff_eq.2 hka
  have ka4 : (a.kind == 4) = false := beq_eq_false_iff_ne.2 (by omega)
  have ka5 : (a.kind == 5) = false := beq_eq_false_iff_ne.2 (by omega)
  have kb2 : (b.kind == 2) = false := beq_eq_false_iff_ne.2 (by omega)
  have kb3 : (b.kind == 3) = true := beq_iff_eq.2 hkb
  have HZ : Hid (cmpV a b = (0, false)) := show cmpV a b = _ by unfold cmpV likeV cmpR; rw [if_neg (may_both hma hmb), if_pos hk, if_neg (by omega), if_neg (by omega), if_pos hka, if_pos hn]
  have na := neq_self a.real
  have nb := neq_self b.real
  clear hma hmb hka hkb ha hb h hk
  cases hx : nanB a.real
  · rw [hx, Bool.false_or] at hn
    rw [hx] at na
    rw [hn] at nb
    go_enter Try.func15, Try.ntmps15
    go_wp2_with fail
    refine (hMa _ K0.out).mono ?_
    rintro e9 w1 ⟨rfl, k1⟩
    obtain ⟨⟨c0, c1, c2, c3, c4, c5⟩, ⟨d0, d1, d2, d3, d4, d5⟩⟩ := two_cells k1
    have HK1 : Hid _ := k1
    clear k1 hMa
    go_wp2_with fail
    refine (hMb _ (K0.out.trans' HK1.out)).mono ?_
    rintro e9 w2 ⟨rfl, k2⟩
    clear c0 c1 c2 c3 c4 c5 d0 d1 d2 d3 d4 d5
    obtain ⟨⟨c0, c1, c2, c3, c4, c5⟩, ⟨d0, d1, d2, d3, d4, d5⟩⟩ := two_cells (HK1.out.trans' k2)
    have HK2 : Hid (Keep [] w w2) := (K0.out.trans' HK1.out).trans' k2
    clear k2 hMb HK1
    go_wp2
    go_ret2
    exact ⟨by rw [HZ.out]; rfl, HK2.out⟩
  · rw [hx] at na
    clear nb hn
    go_enter Try.func15, Try.ntmps15
    go_wp2_with fail
    refine (hMa _ K0.out).mono ?_
    rintro e9 w1 ⟨rfl, k1⟩
    obtain ⟨⟨c0, c1, c2, c3, c4, c5⟩, ⟨d0, d1, d2, d3, d4, d5⟩⟩ := two_cells k1
    have HK1 : Hid _ := k1
    clear k1 hMa
    go_wp2_with fail
    refine (hMb _ (K0.out.trans' HK1.out)).mono ?_
    rintro e9 w2 ⟨rfl, k2⟩
    clear c0 c1 c2 c3 c4 c5 d0 d1 d2 d3 d4 d5
    obtain ⟨⟨c0, c1, c2, c3, c4, c5⟩, ⟨d0, d1, d2, d3, d4, d5⟩⟩ := two_cells (HK1.out.trans' k2)
    have HK2 : Hid (Keep [] w w2) := (K0.out.trans' HK1.out).trans' k2
    clear k2 hMb HK1
    go_wp2
    go_ret2
    exact ⟨by rw [HZ.out]; rfl, HK2.out⟩

set_option maxRecDepth 1000000 in
set_option maxHeartbeats 1600000 in
theorem rCmp_3 (a b : VD) (ha : a.Ok) (hb : b.Ok) (hma : a.mayB = true) (hmb : b.mayB = true) (hk : a.kind = b.kind) (h : a.kind = 3) (hn : (nanB a.real || nanB b.real) = false) (u v : Value) (w : World) (hu : Ts w u a.texts) (hv : Ts w v b.texts) :
    Calls Try.prog 15 #[a.val u, b.val v] w fun e w' => e = .returned (.tuple #[.int .i64 (cmpV a b).1, .bool (cmpV a b).2]) ∧ Keep [] w w' := by
  have hMa := fun w1 (k : Keep [] w w1) => rMay_any a ha u w1 (hu.keep k (Off.nil _))
  have hMb := fun w1 (k : Keep [] w w1) => rMay_any b hb v w1 (hv.keep k (Off.nil _))
  obtain ⟨ao, ca, rfl, _, _, _, _⟩ := hu.ex
  obtain ⟨bo, cb, rfl, _, _, _, _⟩ := hv.ex
  clear hu hv
  have K0 : Hid (Keep [] w ((w.alloc (a.blk (.slice ao a.texts.length ca))).alloc (b.blk (.slice bo b.texts.length cb)))) := (Keep.alloc1 w _).alloc _
  rw [hma] at hMa
  rw [hmb] at hMb
  have hka : a.kind = 3 := h
  have hkb : b.kind = 3 := by omega
  have t1 : (a.kind != b.kind) = false := by simpa using hk
  have ka1 : (a.kind == 1) = false := beq_eq_false_iff_ne.2 (by omega)
  have ka2 : (a.kind == 2) = false := beq_eq_false_iff_ne.2 (by omega)
  have ka3 : (a.kind == 3) = true := beq_iff_eq.2 hka
  have ka4 : (a.kind == 4) = false := beq_eq_false_iff_ne.2 (by omega)
  have ka5 : (a.kind == 5) = false := beq_eq_false_iff_ne.2 (by omega)
  have kb2 : (b.kind == 2) = false := beq_eq_false_iff_ne.2 (by omega)
  have kb3 : (b.kind == 3) = true := beq_iff_eq.2 hkb
  have HZ : Hid (cmpV a b = (cmpI (svalZ a.real) (svalZ b.real), true)) := show cmpV a b = _ by unfold cmpV likeV cmpR; rw [if_neg (may_both hma hmb), if_pos hk, if_neg (by omega), if_neg (by omega), if_pos hka, if_neg (by rw [hn]; decide)]
  have na := neq_self a.real
  have nb := neq_self b.real
  rw [Bool.or_eq_false_iff] at hn
  rw [hn.1] at na
  rw [hn.2] at nb
  obtain ⟨o1, o2, _⟩ := ord_facts a.real b.real hn.1 hn.2
  clear hma hmb hka hkb ha hb h hk hn
  rcases Int.lt_trichotomy (svalZ a.real) (svalZ b.real) with hc | hc | hc
  · have HY : Hid (cmpV a b = (-1, true)) := HZ.out.trans (by unfold cmpI; rw [if_pos hc])
    have l1 : (FloatKind.f32.format.order a.real b.real == some Ordering.lt) = true := o1.trans (decide_eq_true hc)
    have l2 : (FloatKind.f32.format.order a.real b.real == some Ordering.gt) = false := o2.trans (decide_eq_false (by omega))
    clear o1 o2
    have hS := sign_any true false
    clear HZ hc
    go_enter Try.func15, Try.ntmps15
    go_wp2_with fail
    refine (hMa _ K0.out).mono ?_
    rintro e9 w1 ⟨rfl, k1⟩
    obtain ⟨⟨c0, c1, c2, c3, c4, c5⟩, ⟨d0, d1, d2, d3, d4, d5⟩⟩ := two_cells k1
    have HK1 : Hid _ := k1
    clear k1 hMa
    go_wp2_with fail
    refine (hMb _ (K0.out.trans' HK1.out)).mono ?_
    rintro e9 w2 ⟨rfl, k2⟩
    clear c0 c1 c2 c3 c4 c5 d0 d1 d2 d3 d4 d5
    obtain ⟨⟨c0, c1, c2, c3, c4, c5⟩, ⟨d0, d1, d2, d3, d4, d5⟩⟩ := two_cells (HK1.out.trans' k2)
    have HK2 : Hid (Keep [] w w2) := (K0.out.trans' HK1.out).trans' k2
    clear k2 hMb HK1
    go_wp2_with (go_at_call 40; refine (hS _).mono ?_; rintro e9 w9 ⟨rfl, hw9⟩; obtain rfl := hw9.symm)
    go_ret2
    exact ⟨by rw [HY.out]; rfl, HK2.out⟩
  · have HY : Hid (cmpV a b = (0, true)) := HZ.out.trans (by unfold cmpI; rw [if_neg (by omega), if_neg (by omega)])
    have l1 : (FloatKind.f32.format.order a.real b.real == some Ordering.lt) = false := o1.trans (decide_eq_false (by omega))
    have l2 : (FloatKind.f32.format.order a.real b.real == some Ordering.gt) = false := o2.trans (decide_eq_false (by omega))
    clear o1 o2
    have hS := sign_any false false
    clear HZ hc
    go_enter Try.func15, Try.ntmps15
    go_wp2_with fail
    refine (hMa _ K0.out).mono ?_
    rintro e9 w1 ⟨rfl, k1⟩
    obtain ⟨⟨c0, c1, c2, c3, c4, c5⟩, ⟨d0, d1, d2, d3, d4, d5⟩⟩ := two_cells k1
    have HK1 : Hid _ := k1
    clear k1 hMa
    go_wp2_with fail
    refine (hMb _ (K0.out.trans' HK1.out)).mono ?_
    rintro e9 w2 ⟨rfl, k2⟩
    clear c0 c1 c2 c3 c4 c5 d0 d1 d2 d3 d4 d5
    obtain ⟨⟨c0, c1, c2, c3, c4, c5⟩, ⟨d0, d1, d2, d3, d4, d5⟩⟩ := two_cells (HK1.out.trans' k2)
    have HK2 : Hid (Keep [] w w2) := (K0.out.trans' HK1.out).trans' k2
    clear k2 hMb HK1
    go_wp2_with (go_at_call 40; refine (hS _).mono ?_; rintro e9 w9 ⟨rfl, hw9⟩; obtain rfl := hw9.symm)
    go_ret2
    exact ⟨by rw [HY.out]; rfl, HK2.out⟩
  · have HY : Hid (cmpV a b = (1, true)) := HZ.out.trans (by unfold cmpI; rw [if_neg (by omega), if_pos hc])
    have l1 : (FloatKind.f32.format.order a.real b.real == some Ordering.lt) = false := o1.trans (decide_eq_false (by omega))
    have l2 : (FloatKind.f32.format.order a.real b.real == some Ordering.gt) = true := o2.trans (decide_eq_true hc)
    clear o1 o2
    have hS := sign_any false true
    clear HZ hc
    go_enter Try.func15, Try.ntmps15
    go_wp2_with fail
    refine (hMa _ K0.out).mono ?_
    rintro e9 w1 ⟨rfl, k1⟩
    obtain ⟨⟨c0, c1, c2, c3, c4, c5⟩, ⟨d0, d1, d2, d3, d4, d5⟩⟩ := two_cells k1
    have HK1 : Hid _ := k1
    clear k1 hMa
    go_wp2_with fail
    refine (hMb _ (K0.out.trans' HK1.out)).mono ?_
    rintro e9 w2 ⟨rfl, k2⟩
    clear c0 c1 c2 c3 c4 c5 d0 d1 d2 d3 d4 d5
    obtain ⟨⟨c0, c1, c2, c3, c4, c5⟩, ⟨d0, d1, d2, d3, d4, d5⟩⟩ := two_cells (HK1.out.trans' k2)
    have HK2 : Hid (Keep [] w w2) := (K0.out.trans' HK1.out).trans' k2
    clear k2 hMb HK1
    go_wp2_with (go_at_call 40; refine (hS _).mono ?_; rintro e9 w9 ⟨rfl, hw9⟩; obtain rfl := hw9.symm)
    go_ret2
    exact ⟨by rw [HY.out]; rfl, HK2.out⟩

set_option maxRecDepth 1000000 in
set_option maxHeartbeats 1600000 in
theorem rCmp_4 (a b : VD) (ha : a.Ok) (hb : b.Ok) (hma : a.mayB = true) (hmb : b.mayB = true) (hk : a.kind = b.kind) (h : a.kind = 4) (u v : Value) (w : World) (hu : Ts w u a.texts) (hv : Ts w v b.texts) :
    Calls Try.prog 15 #[a.val u, b.val v] w fun e w' => e = .returned (.tuple #[.int .i64 (cmpV a b).1, .bool (cmpV a b).2]) ∧ Keep [] w w' := by
  have hMa := fun w1 (k : Keep [] w w1) => rMay_any a ha u w1 (hu.keep k (Off.nil _))
  have hMb := fun w1 (k : Keep [] w w1) => rMay_any b hb v w1 (hv.keep k (Off.nil _))
  have hC := fun w => rTexts_any a.text b.text w ha.text1
  obtain ⟨ao, ca, rfl, _, _, _, _⟩ := hu.ex
  obtain ⟨bo, cb, rfl, _, _, _, _⟩ := hv.ex
  clear hu hv
  have K0 : Hid (Keep [] w ((w.alloc (a.blk (.slice ao a.texts.length ca))).alloc (b.blk (.slice bo b.texts.length cb)))) := (Keep.alloc1 w _).alloc _
  rw [hma] at hMa
  rw [hmb] at hMb
  have hka : a.kind = 4 := h
  have hkb : b.kind = 4 := by omega
  have t1 : (a.kind != b.kind) = false := by simpa using hk
  have ka1 : (a.kind == 1) = false := beq_eq_false_iff_ne.2 (by omega)
  have ka2 : (a.kind == 2) = false := beq_eq_false_iff_ne.2 (by omega)
  have ka3 : (a.kind == 3) = false := beq_eq_false_iff_ne.2 (by omega)
  have ka4 : (a.kind == 4) = true := beq_iff_eq.2 hka
  have ka5 : (a.kind == 5) = false := beq_eq_false_iff_ne.2 (by omega)
  have kb2 : (b.kind == 2) = false := beq_eq_false_iff_ne.2 (by omega)
  have kb3 : (b.kind == 3) = false := beq_eq_false_iff_ne.2 (by omega)
  have HZ : Hid (cmpV a b = (cmpT a.text.toList b.text.toList, true)) := show cmpV a b = _ by unfold cmpV likeV; rw [if_neg (may_both hma hmb), if_pos hk, if_neg (by omega), if_neg (by omega), if_neg (by omega), if_pos hka]
  have na := neq_self a.real
  have nb := neq_self b.real
  rw [may_nan a hma (by omega)] at na
  rw [may_nan b hmb (by omega)] at nb
  clear hma hmb hka hkb ha hb h hk
  generalize cmpT a.text.toList b.text.toList = z at *
  go_enter Try.func15, Try.ntmps15
  go_wp2_with fail
  refine (hMa _ K0.out).mono ?_
  rintro e9 w1 ⟨rfl, k1⟩
  obtain ⟨⟨c0, c1, c2, c3, c4, c5⟩, ⟨d0, d1, d2, d3, d4, d5⟩⟩ := two_cells k1
  have HK1 : Hid _ := k1
  clear k1 hMa
  go_wp2_with fail
  refine (hMb _ (K0.out.trans' HK1.out)).mono ?_
  rintro e9 w2 ⟨rfl, k2⟩
  clear c0 c1 c2 c3 c4 c5 d0 d1 d2 d3 d4 d5
  obtain ⟨⟨c0, c1, c2, c3, c4, c5⟩, ⟨d0, d1, d2, d3, d4, d5⟩⟩ := two_cells (HK1.out.trans' k2)
  have HK2 : Hid (Keep [] w w2) := (K0.out.trans' HK1.out).trans' k2
  clear k2 hMb HK1
  go_wp2_with (go_at_call 41; refine (hC _).mono ?_; rintro e9 w9 ⟨rfl, n9, rfl⟩)
  go_ret2
  exact ⟨by rw [HZ.out]; rfl, HK2.out.drewN _⟩

set_option maxRecDepth 1000000 in
set_option maxHeartbeats 1600000 in
theorem rCmp_5 (a b : VD) (ha : a.Ok) (hb : b.Ok) (hma : a.mayB = true) (hmb : b.mayB = true) (hk : a.kind = b.kind) (h : a.kind = 5) (u v : Value) (w : World) (hu : Ts w u a.texts) (hv : Ts w v b.texts) :
    Calls Try.prog 15 #[a.val u, b.val v] w fun e w' => e = .returned (.tuple #[.int .i64 (cmpV a b).1, .bool (cmpV a b).2]) ∧ Keep [] w w' := by
  have hMa := fun w1 (k : Keep [] w w1) => rMay_any a ha u w1 (hu.keep k (Off.nil _))
  have hMb := fun w1 (k : Keep [] w w1) => rMay_any b hb v w1 (hv.keep k (Off.nil _))
  have hC := fun w1 (k : Keep [] w w1) => rLists_any u v a.texts b.texts w1 (hu.keep k (Off.nil _)) (hv.keep k (Off.nil _))
  obtain ⟨ao, ca, rfl, _, _, _, _⟩ := hu.ex
  obtain ⟨bo, cb, rfl, _, _, _, _⟩ := hv.ex
  clear hu hv
  have K0 : Hid (Keep [] w ((w.alloc (a.blk (.slice ao a.texts.length ca))).alloc (b.blk (.slice bo b.texts.length cb)))) := (Keep.alloc1 w _).alloc _
  rw [hma] at hMa
  rw [hmb] at hMb
  have hka : a.kind = 5 := h
  have hkb : b.kind = 5 := by omega
  have t1 : (a.kind != b.kind) = false := by simpa using hk
  have ka1 : (a.kind == 1) = false := beq_eq_false_iff_ne.2 (by omega)
  have ka2 : (a.kind == 2) = false := beq_eq_false_iff_ne.2 (by omega)
  have ka3 : (a.kind == 3) = false := beq_eq_false_iff_ne.2 (by omega)
  have ka4 : (a.kind == 4) = false := beq_eq_false_iff_ne.2 (by omega)
  have ka5 : (a.kind == 5) = true := beq_iff_eq.2 hka
  have kb2 : (b.kind == 2) = false := beq_eq_false_iff_ne.2 (by omega)
  have kb3 : (b.kind == 3) = false := beq_eq_false_iff_ne.2 (by omega)
  have HZ : Hid (cmpV a b = (cmpL a.texts b.texts, true)) := show cmpV a b = _ by unfold cmpV likeV; rw [if_neg (may_both hma hmb), if_pos hk, if_neg (by omega), if_neg (by omega), if_neg (by omega), if_neg (by omega)]
  have na := neq_self a.real
  have nb := neq_self b.real
  rw [may_nan a hma (by omega)] at na
  rw [may_nan b hmb (by omega)] at nb
  clear hma hmb hka hkb ha hb h hk
  generalize cmpL a.texts b.texts = z at *
  go_enter Try.func15, Try.ntmps15
  go_wp2_with fail
  refine (hMa _ K0.out).mono ?_
  rintro e9 w1 ⟨rfl, k1⟩
  obtain ⟨⟨c0, c1, c2, c3, c4, c5⟩, ⟨d0, d1, d2, d3, d4, d5⟩⟩ := two_cells k1
  have HK1 : Hid _ := k1
  clear k1 hMa
  go_wp2_with fail
  refine (hMb _ (K0.out.trans' HK1.out)).mono ?_
  rintro e9 w2 ⟨rfl, k2⟩
  clear c0 c1 c2 c3 c4 c5 d0 d1 d2 d3 d4 d5
  obtain ⟨⟨c0, c1, c2, c3, c4, c5⟩, ⟨d0, d1, d2, d3, d4, d5⟩⟩ := two_cells (HK1.out.trans' k2)
  have HK2 : Hid (Keep [] w w2) := (K0.out.trans' HK1.out).trans' k2
  clear k2 hMb HK1
  go_wp2_with (go_at_call 42; refine (hC _ HK2.out).mono ?_; rintro e9 w9 ⟨rfl, n9, rfl⟩)
  go_ret2
  exact ⟨by rw [HZ.out]; rfl, HK2.out.drewN _⟩

theorem rCompareV_any (a b : VD) (ha : a.Ok) (hb : b.Ok) (u v : Value) (w : World) (hu : Ts w u a.texts) (hv : Ts w v b.texts) :
    Calls Try.prog 15 #[a.val u, b.val v] w fun e w' => e = .returned (.tuple #[.int .i64 (cmpV a b).1, .bool (cmpV a b).2]) ∧ Keep [] w w' := by
  cases hm : (a.mayB && b.mayB)
  · exact rCmp_no a b ha hb hm u v w hu hv
  · rw [Bool.and_eq_true] at hm
    obtain ⟨hma, hmb⟩ := hm
    by_cases hk : a.kind = b.kind
    · have hr := may_kind a hma
      have hc : a.kind = 1 ∨ a.kind = 2 ∨ a.kind = 3 ∨ a.kind = 4 ∨ a.kind = 5 := by omega
      rcases hc with h | h | h | h | h
      · exact rCmp_1 a b ha hb hma hmb hk h u v w hu hv
      · exact rCmp_2 a b ha hb hma hmb hk h u v w hu hv
      · cases hn : (nanB a.real || nanB b.real)
        · exact rCmp_3 a b ha hb hma hmb hk h hn u v w hu hv
        · exact rCmp_3n a b ha hb hma hmb hk h hn u v w hu hv
      · exact rCmp_4 a b ha hb hma hmb hk h u v w hu hv
      · exact rCmp_5 a b ha hb hma hmb hk h u v w hu hv
    · by_cases h23 : a.kind = 2 ∧ b.kind = 3
      · exact rCmp_23 a b ha hb hma hmb h23.1 h23.2 u v w hu hv
      · by_cases h32 : a.kind = 3 ∧ b.kind = 2
        · exact rCmp_32 a b ha hb hma hmb h32.1 h32.2 u v w hu hv
        · exact rCmp_ne a b ha hb hma hmb hk h23 h32 u v w hu hv
end Go.Proofs.Ytppimacfeelneaa
