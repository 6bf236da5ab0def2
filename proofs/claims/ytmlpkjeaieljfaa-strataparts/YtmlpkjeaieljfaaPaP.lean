/- StrataParts: the walk. -/
import Derived.Test.YtmlpkjeaieljfaaLl
import Derived.Test.YtmlpkjeaieljfaaDn
namespace Go.Proofs.Ytmlpkjeaieljfaa
open Go.RowKit Go.PlainAid

set_option maxRecDepth 1000000 in
set_option maxHeartbeats 2000000 in
theorem parts_law (n : Int) (va : Value) (l : List Az) (w : World) (h : Rd encZ 3 w va l) (h1 : l.length * 24 ≤ 140737488351232) :
    Calls Try.prog 3 #[.int .i64 n, va] w fun e w' => e = .returned (.bool true) ∧ Keep [] w w' := by
  obtain ⟨ao, cap, rfl⟩ := h.form'
  have HA : Hid (Rd encZ 3 w (.slice ao l.length cap) l) := h
  have HB : Hid (∀ (_ : True), Calls Try.prog 9 #[.int .i64 n, .slice ao l.length cap] w fun e w' => AnyB w e w') := fun _ => between_any n ao l.length cap w
  clear h
  go_enter Try.func3, Try.ntmps3
  go_wp2_with fail
  refine (HB.out trivial).mono ?_
  rintro e w1 ⟨b, rfl, hw⟩
  obtain rfl := hw.symm
  clear HB
  cases b with
  | true =>
    go_wp2_with fail
    refine (awake_any _).mono ?_
    rintro e w2 ⟨rfl, k2⟩
    have HK : Hid (Keep [] w w2) := k2
    clear k2
    go_wp2
    go_ret
    exact ⟨rfl, HK.out⟩
  | false =>
    go_wp2_with fail
    refine (lentA2 _ l _ HA.out h1).mono ?_
    rintro e w2 ⟨g2, c2, rfl, q2, k2⟩
    have H2 : Hid (LtA w w2 g2 c2 l ∧ Keep [] w w2) := ⟨q2, k2⟩
    clear q2 k2
    go_wp2_with fail
    refine (parts_ans n _ l _ H2.out.1.rd).mono ?_
    intro e w4 q4
    obtain ⟨a4, c4, rfl, r4, k4⟩ := q4.form
    obtain ⟨rl, HRl⟩ : ∃ rl, Hid (rl = (partsAns n l).1) := ⟨_, show _ = _ from rfl⟩
    obtain ⟨rk, HRk⟩ : ∃ rk, Hid (rk = (partsAns n l).2) := ⟨_, show _ = _ from rfl⟩
    rw [← HRl.out] at r4
    rw [← HRl.out, ← HRk.out]
    have H4 : Hid (LtA w w4 g2 c2 l ∧ Rd encI 1 w4 (.slice a4 rl.length c4) rl ∧ Keep [] w w4) := ⟨H2.out.1.keep k4, r4, H2.out.2.trans' k4⟩
    clear q4 r4 k4 H2
    go_wp2_with fail
    refine (rParts_ans n _ l _ (HA.out.keep H4.out.2.2 (Off.nil _))).mono ?_
    intro e w5 q5
    obtain ⟨a5, c5, rfl, r5, k5⟩ := q5.form
    rw [← HRl.out] at r5
    rw [← HRl.out, ← HRk.out]
    have H5 : Hid (LtA w w5 g2 c2 l ∧ Rd encI 1 w5 (.slice a4 rl.length c4) rl ∧ Rd encI 1 w5 (.slice a5 rl.length c5) rl ∧ Keep [] w w5) := ⟨H4.out.1.keep k5, H4.out.2.1.keep k5 (Off.nil _), r5, H4.out.2.2.trans' k5⟩
    clear q5 r5 k5 H4 HRl HRk
    go_wp2_with fail
    refine (same_yes _ _ rl _ H5.out.2.1 H5.out.2.2.1).mono ?_
    rintro e w6 ⟨rfl, k6⟩
    have H6 : Hid (LtA w w6 g2 c2 l ∧ Keep [] w w6) := ⟨H5.out.1.keep k6, H5.out.2.2.2.trans' k6⟩
    clear k6 H5
    go_wp2_with fail
    refine (keptA_any g2 0 c2 _ l _ H6.out.1.all (HA.out.keep H6.out.2 (Off.nil _)) h1).mono ?_
    rintro e w7 ⟨rfl, k7⟩
    have H7 : Hid (Keep [] w w7) := H6.out.2.trans' k7
    clear k7 H6
    go_wp2_with fail
    refine (awake_any _).mono ?_
    rintro e w9 ⟨rfl, k9⟩
    have H9 : Hid (Keep [] w w9) := H7.out.trans' k9
    clear k9 H7 HA
    go_wp2
    go_ret
    exact ⟨rfl, H9.out⟩
end Go.Proofs.Ytmlpkjeaieljfaa
