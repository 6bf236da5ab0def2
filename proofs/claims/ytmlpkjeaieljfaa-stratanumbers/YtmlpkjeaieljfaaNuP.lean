/- StrataNumbers: the walk. -/
import Derived.Test.YtmlpkjeaieljfaaLl
import Derived.Test.YtmlpkjeaieljfaaDo
namespace Go.Proofs.Ytmlpkjeaieljfaa
open Go.RowKit Go.PlainAid

set_option maxRecDepth 1000000 in
set_option maxHeartbeats 2000000 in
theorem numbers_law (n : Int) (va : Value) (l : List Az) (w : World) (h : Rd encZ 3 w va l) (h1 : l.length * 24 ≤ 140737488351232) :
    Calls Try.prog 4 #[.int .i64 n, va] w fun e w' => e = .returned (.bool true) ∧ Keep [] w w' := by
  obtain ⟨ao, cap, rfl⟩ := h.form'
  have HA : Hid (Rd encZ 3 w (.slice ao l.length cap) l) := h
  have HB : Hid (∀ (_ : True), Calls Try.prog 9 #[.int .i64 n, .slice ao l.length cap] w fun e w' => AnyB w e w') := fun _ => between_any n ao l.length cap w
  clear h
  obtain ⟨rl, HRl⟩ : ∃ rl, Hid (rl = (strataAns n l).1) := ⟨_, show _ = _ from rfl⟩
  obtain ⟨rk, HRk⟩ : ∃ rk, Hid (rk = (strataAns n l).2) := ⟨_, show _ = _ from rfl⟩
  obtain ⟨ml, HMl⟩ : ∃ rl, Hid (rl = (ringAns n l).1) := ⟨_, show _ = _ from rfl⟩
  obtain ⟨mk, HMk⟩ : ∃ rk, Hid (rk = (ringAns n l).2) := ⟨_, show _ = _ from rfl⟩
  go_enter Try.func4, Try.ntmps4
  go_wp2_with fail
  refine (HB.out trivial).mono ?_
  rintro e w1 ⟨b, rfl, hw⟩
  obtain rfl := hw.symm
  clear HB
  cases b with
  | true =>
    go_wp2_with fail
    refine (awake_any _).mono ?_
    rintro e w2 ⟨rfl, k2⟩
    have HK : Hid (Keep [] w w2) := k2
    clear k2
    go_wp2
    go_ret
    exact ⟨rfl, HK.out⟩
  | false =>
    go_wp2_with fail
    refine (lentA2 _ l _ HA.out h1).mono ?_
    rintro e w2 ⟨g2, c2, rfl, q2, k2⟩
    have H2 : Hid (LtA w w2 g2 c2 l ∧ Keep [] w w2) := ⟨q2, k2⟩
    clear q2 k2
    go_wp2_with fail
    refine (strata_ans n _ l _ H2.out.1.rd).mono ?_
    intro e w3 q3
    obtain ⟨a3, c3, rfl, r3, k3⟩ := q3.form
    rw [← HRl.out] at r3
    rw [← HRl.out, ← HRk.out]
    have H3 : Hid (LtA w w3 g2 c2 l ∧ Rd encI 1 w3 (.slice a3 rl.length c3) rl ∧ Keep [] w w3) := ⟨H2.out.1.keep k3, r3, H2.out.2.trans' k3⟩
    clear q3 r3 k3 H2
    go_wp2_with fail
    refine (ring_ans n _ l _ H3.out.1.rd).mono ?_
    intro e w4 q4
    obtain ⟨a4, c4, rfl, r4, k4⟩ := q4.form
    rw [← HMl.out] at r4
    rw [← HMl.out, ← HMk.out]
    have H4 : Hid (LtA w w4 g2 c2 l ∧ Rd encI 1 w4 (.slice a3 rl.length c3) rl ∧ Rd encI 1 w4 (.slice a4 ml.length c4) ml ∧ Keep [] w w4) := ⟨H3.out.1.keep k4, H3.out.2.1.keep k4 (Off.nil _), r4, H3.out.2.2.trans' k4⟩
    clear q4 r4 k4 H3
    go_wp2_with fail
    refine (rStrata_ans n _ l _ (HA.out.keep H4.out.2.2.2 (Off.nil _))).mono ?_
    intro e w5 q5
    obtain ⟨a5, c5, rfl, r5, k5⟩ := q5.form
    rw [← HRl.out] at r5
    rw [← HRl.out, ← HRk.out]
    have H5 : Hid (LtA w w5 g2 c2 l ∧ Rd encI 1 w5 (.slice a3 rl.length c3) rl ∧ Rd encI 1 w5 (.slice a4 ml.length c4) ml ∧ Rd encI 1 w5 (.slice a5 rl.length c5) rl ∧ Keep [] w w5) := ⟨H4.out.1.keep k5, H4.out.2.1.keep k5 (Off.nil _), H4.out.2.2.1.keep k5 (Off.nil _), r5, H4.out.2.2.2.trans' k5⟩
    clear q5 r5 k5 H4
    go_wp2_with fail
    refine (rRing_ans n _ l _ (HA.out.keep H5.out.2.2.2.2 (Off.nil _))).mono ?_
    intro e w6 q6
    obtain ⟨a6, c6, rfl, r6, k6⟩ := q6.form
    rw [← HMl.out] at r6
    rw [← HMl.out, ← HMk.out]
    have H6 : Hid (LtA w w6 g2 c2 l ∧ Rd encI 1 w6 (.slice a3 rl.length c3) rl ∧ Rd encI 1 w6 (.slice a4 ml.length c4) ml ∧ Rd encI 1 w6 (.slice a5 rl.length c5) rl ∧ Rd encI 1 w6 (.slice a6 ml.length c6) ml ∧ Keep [] w w6) := ⟨H5.out.1.keep k6, H5.out.2.1.keep k6 (Off.nil _), H5.out.2.2.1.keep k6 (Off.nil _), H5.out.2.2.2.1.keep k6 (Off.nil _), r6, H5.out.2.2.2.2.trans' k6⟩
    clear q6 r6 k6 H5 HRl HRk HMl HMk
    go_wp2_with fail
    refine (same_yes _ _ rl _ H6.out.2.1 H6.out.2.2.2.1).mono ?_
    rintro e w7 ⟨rfl, k7⟩
    have H7 : Hid (LtA w w7 g2 c2 l ∧ Rd encI 1 w7 (.slice a4 ml.length c4) ml ∧ Rd encI 1 w7 (.slice a6 ml.length c6) ml ∧ Keep [] w w7) := ⟨H6.out.1.keep k7, H6.out.2.2.1.keep k7 (Off.nil _), H6.out.2.2.2.2.1.keep k7 (Off.nil _), H6.out.2.2.2.2.2.trans' k7⟩
    clear k7 H6
    go_wp2_with fail
    refine (same_yes _ _ ml _ H7.out.2.1 H7.out.2.2.1).mono ?_
    rintro e w8 ⟨rfl, k8⟩
    have H8 : Hid (LtA w w8 g2 c2 l ∧ Keep [] w w8) := ⟨H7.out.1.keep k8, H7.out.2.2.2.trans' k8⟩
    clear k8 H7
    go_wp2_with fail
    refine (keptA_any g2 0 c2 _ l _ H8.out.1.all (HA.out.keep H8.out.2 (Off.nil _)) h1).mono ?_
    rintro e w9 ⟨rfl, k9⟩
    have H9 : Hid (Keep [] w w9) := H8.out.2.trans' k9
    clear k9 H8
    go_wp2_with fail
    refine (awake_any _).mono ?_
    rintro e w10 ⟨rfl, k10⟩
    have H10 : Hid (Keep [] w w10) := H9.out.trans' k10
    clear k10 H9 HA
    go_wp2
    go_ret
    exact ⟨rfl, H10.out⟩
end Go.Proofs.Ytmlpkjeaieljfaa
