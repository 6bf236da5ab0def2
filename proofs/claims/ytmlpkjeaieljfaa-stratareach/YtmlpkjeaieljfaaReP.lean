/- StrataReach: the walk. -/
import Derived.Test.YtmlpkjeaieljfaaLl
import Derived.Test.YtmlpkjeaieljfaaDc
namespace Go.Proofs.Ytmlpkjeaieljfaa
open Go.RowKit Go.PlainAid

theorem rReach_ans (n : Int) (v u : Value) (l : List Az) (L : List Int) (w : World) (h : Rd encZ 3 w v l) (hL : Rd encI 1 w u L) : Calls Try.prog 22 #[.int .i64 n, v, u] w fun e w' => AnsR w w' e (reachAns n l L) := by
  unfold reachAns
  by_cases hf : faultZ n l = 0
  · rw [if_pos hf]
    obtain ⟨N, A, rfl, rfl, h1, h2, h3, h4, h5, h6⟩ := fine_all hf
    rw [h1, h2]
    refine (rReach_yes N v u A L w h.a h6 hL).mono ?_
    intro e w' hr
    unfold RcR at hr
    by_cases hall : L.all (nodeB (N : Int)) = true
    · rw [if_pos hall] at hr ⊢
      obtain ⟨v', m, rfl, e1, e2⟩ := hr
      rw [rchL_eq e2] at e1
      exact ⟨_, rfl, e1.ow⟩
    · rw [if_neg hall] at hr ⊢
      obtain ⟨rfl, k⟩ := hr
      exact ⟨_, rfl, ow_none k⟩
  · rw [if_neg hf]
    refine (rReach_no n v u l w h hf).mono ?_
    rintro e w' ⟨rfl, k⟩
    exact ⟨_, rfl, ow_none k⟩

set_option maxRecDepth 1000000 in
set_option maxHeartbeats 2000000 in
theorem reach_law (n : Int) (va vu : Value) (l : List Az) (L : List Int) (w : World) (h : Rd encZ 3 w va l) (hL : Rd encI 1 w vu L) (h1 : l.length * 24 ≤ 140737488351232) (h2 : L.length * 8 ≤ 140737488351232) :
    Calls Try.prog 5 #[.int .i64 n, va, vu] w fun e w' => e = .returned (.bool true) ∧ Keep [] w w' := by
  obtain ⟨ao, cap, rfl⟩ := h.form'
  obtain ⟨uo, ucap, rfl⟩ := hL.form'
  have HA : Hid (Rd encZ 3 w (.slice ao l.length cap) l ∧ Rd encI 1 w (.slice uo L.length ucap) L) := ⟨h, hL⟩
  have HB : Hid (∀ (_ : True), Calls Try.prog 9 #[.int .i64 n, .slice ao l.length cap] w fun e w' => ∃ b, e = .returned (.bool b) ∧ w' = w) := fun _ => between_any n ao l.length cap w
  clear h hL
  go_enter Try.func5, Try.ntmps5
  go_wp2_with fail
  refine (HB.out trivial).mono ?_
  rintro e w1 ⟨b, rfl, hw⟩
  obtain rfl := hw.symm
  clear HB
  cases b with
  | true =>
    go_wp2_with fail
    refine (awake_any _).mono ?_
    rintro e w2 ⟨rfl, k2⟩
    have HK : Hid (Keep [] w w2) := k2
    clear k2
    go_wp2
    go_ret
    exact ⟨rfl, HK.out⟩
  | false =>
    go_wp2_with fail
    refine (lentA2 _ l _ HA.out.1 h1).mono ?_
    rintro e w2 ⟨g2, c2, rfl, q2, k2⟩
    have H2 : Hid (LtA w w2 g2 c2 l ∧ Keep [] w w2) := ⟨q2, k2⟩
    clear q2 k2
    go_wp2_with fail
    refine (lentI2 _ L _ (HA.out.2.keep H2.out.2 (Off.nil _)) h2).mono ?_
    rintro e w3 ⟨g3, c3, rfl, q3, k3⟩
    have H3 : Hid (LtA w w3 g2 c2 l ∧ LtI w2 w3 g3 c3 L ∧ Keep [] w w3) := ⟨H2.out.1.keep k3, q3, H2.out.2.trans' k3⟩
    clear q3 k3 H2
    go_wp2_with fail
    refine (reach_ans n _ _ l L _ H3.out.1.rd H3.out.2.1.rd (fun x hx => by simp [Value.ownBlock] at hx; subst hx; exact H3.out.2.1.lt)).mono ?_
    intro e w4 q4
    obtain ⟨a4, c4, rfl, r4, k4⟩ := q4.form
    have H4 : Hid (LtA w w4 g2 c2 l ∧ LtI w2 w4 g3 c3 L ∧ Rd encI 1 w4 (.slice a4 (reachAns n l L).1.length c4) (reachAns n l L).1 ∧ Keep [] w w4) := ⟨H3.out.1.keep k4, H3.out.2.1.keep k4, r4, H3.out.2.2.trans' k4⟩
    clear q4 r4 k4 H3
    obtain ⟨rl, HRl⟩ : ∃ rl, Hid (rl = (reachAns n l L).1) := ⟨_, show _ = _ from rfl⟩
    obtain ⟨rk, HRk⟩ : ∃ rk, Hid (rk = (reachAns n l L).2) := ⟨_, show _ = _ from rfl⟩
    rw [← HRl.out] at H4
    rw [← HRl.out, ← HRk.out]
    go_wp2_with fail
    refine (rReach_ans n _ _ l L _ (HA.out.1.keep H4.out.2.2.2 (Off.nil _)) (HA.out.2.keep H4.out.2.2.2 (Off.nil _))).mono ?_
    intro e w5 q5
    obtain ⟨a5, c5, rfl, r5, k5⟩ := q5.form
    rw [← HRl.out] at r5
    rw [← HRl.out, ← HRk.out]
    have H5 : Hid (LtA w w5 g2 c2 l ∧ LtI w2 w5 g3 c3 L ∧ Rd encI 1 w5 (.slice a4 rl.length c4) rl ∧ Rd encI 1 w5 (.slice a5 rl.length c5) rl ∧ Keep [] w w5) := ⟨H4.out.1.keep k5, H4.out.2.1.keep k5, H4.out.2.2.1.keep k5 (Off.nil _), r5, H4.out.2.2.2.trans' k5⟩
    clear q5 r5 k5 H4 HRl HRk
    go_wp2_with fail
    refine (same_yes _ _ rl _ H5.out.2.2.1 H5.out.2.2.2.1).mono ?_
    rintro e w6 ⟨rfl, k6⟩
    have H6 : Hid (LtA w w6 g2 c2 l ∧ LtI w2 w6 g3 c3 L ∧ Keep [] w w6) := ⟨H5.out.1.keep k6, H5.out.2.1.keep k6, H5.out.2.2.2.2.trans' k6⟩
    clear k6 H5
    go_wp2_with fail
    refine (keptA_any g2 0 c2 _ l _ H6.out.1.all (HA.out.1.keep H6.out.2.2 (Off.nil _)) h1).mono ?_
    rintro e w7 ⟨rfl, k7⟩
    have H7 : Hid (LtI w2 w7 g3 c3 L ∧ Keep [] w w7) := ⟨H6.out.2.1.keep k7, H6.out.2.2.trans' k7⟩
    clear k7 H6
    go_wp2_with fail
    refine (keptI_any g3 0 c3 _ L _ H7.out.1.all (HA.out.2.keep H7.out.2 (Off.nil _)) h2).mono ?_
    rintro e w8 ⟨rfl, k8⟩
    have H8 : Hid (Keep [] w w8) := H7.out.2.trans' k8
    clear k8 H7
    go_wp2_with fail
    refine (awake_any _).mono ?_
    rintro e w9 ⟨rfl, k9⟩
    have H9 : Hid (Keep [] w w9) := H8.out.trans' k9
    clear k9 H8 HA
    go_wp2
    go_ret
    exact ⟨rfl, H9.out⟩
end Go.Proofs.Ytmlpkjeaieljfaa
