/- Remove. -/
import Derived.Test.YtkelhglflpdpeaaTm

namespace Go.Proofs.Ytkelhglflpdpeaa
open Go.RowKit Go.PlainAid


/-- the list without what is at the place i -/
def delL (l : List Pr) (i : Nat) : List Pr := l.take i ++ l.drop (i + 1)
theorem delL_len (l : List Pr) (i : Nat) (h : i < l.length) : (delL l i).length + 1 = l.length := by simp [delL]; omega
theorem delL_left (l r : List Pr) (y : Pr) (i : Nat) (h : i < l.length) : delL l i ++ y :: r = delL (l ++ y :: r) i := by
  simp [delL, List.take_append_of_le_length (Nat.le_of_lt h), List.drop_append_of_le_length (show i + 1 ≤ l.length by omega)]
theorem delL_mid (l r : List Pr) (y : Pr) : l ++ r = delL (l ++ y :: r) l.length := by
  have := List.drop_length_add_append (l₁ := l) (l₂ := y :: r) (i := 1)
  simp only [delL, this]
  simp
theorem delL_right (l r : List Pr) (y : Pr) (i : Nat) (h : l.length < i) : l ++ y :: delL r (i - l.length - 1) = delL (l ++ y :: r) i := by
  obtain ⟨j, rfl⟩ : ∃ j, i = l.length + (j + 1) := ⟨i - l.length - 1, by omega⟩
  have e : l.length + (j + 1) - l.length - 1 = j := by omega
  have e2 : l.length + (j + 1) + 1 = l.length + (j + 2) := by omega
  simp only [delL, e, e2, List.take_length_add_append, List.drop_length_add_append, List.take_succ_cons, List.drop_succ_cons]
  simp

set_option maxRecDepth 100000 in
set_option maxHeartbeats 4000000 in
theorem remove_any (T : TT) : ∀ (p : Option Addr) (i : Nat) (w : World), IsT w p T → i < T.list.length → T.list.length + 2 ≤ 1152921504606846976 →
    Calls Try.prog 51 #[.pointer p, .int .i64 (i : Int)] w fun e w' => ∃ p' T', e = .returned (.pointer p') ∧ IsT w' p' T' ∧ T'.list = delL T.list i ∧ Keep [] w w' := by
  induction T with
  | leaf => intro p i w _ hi; simp [TT.list] at hi
  | node A y B ihA ihB =>
    intro p i w ht hi hs
    have HLen : (TT.node A y B).list.length = A.list.length + B.list.length + 1 := by simp [TT.list]; omega
    rw [HLen] at hi hs
    obtain ⟨b, pl, pr, rfl, hbb, hA, hB⟩ := ht
    obtain ⟨r0, r1, r2, r3, _⟩ := node_cells hbb
    have hbl : b < w.heap.size := (Array.getElem?_eq_some_iff.1 hbb).1
    have HCA : Hid (∀ w9, Keep [] w w9 → Calls Try.prog 53 #[.pointer pl] w9 fun e w' => e = .returned (.int .i64 (A.list.length : Int)) ∧ w9 = w') := fun w9 k => (count_any pl A w9 (hA.keep k)).mono (fun e w' h => ⟨h.1, h.2.symm⟩)
    have HBC : Cs [(⟨b, 0, none⟩, .int .i64 y.k), (⟨b, 1, none⟩, .int .i64 y.m), (⟨b, 2, none⟩, .pointer pl), (⟨b, 3, none⟩, .pointer pr)] w w := ⟨r0, r1, r2, r3, Keep.refl _ _⟩
    by_cases hle : i < A.list.length
    · have hlei : (i : Int) < (A.list.length : Int) := by omega
      have HI : Hid (∀ w9, Keep [] w w9 → Calls Try.prog 51 #[.pointer pl, .int .i64 (i : Int)] w9 fun e w' => ∃ p' T', e = .returned (.pointer p') ∧ IsT w' p' T' ∧ T'.list = delL A.list i ∧ Keep [] w9 w') := fun w9 k =>
        ihA pl i w9 (hA.keep k) hle (by omega)
      have HBa : Hid (∀ p' T' w9, Keep [] w w9 → IsT w9 p' T' → T'.list = delL A.list i → Calls Try.prog 66 #[.pointer p', vP y, .pointer pr] w9 fun e w' => ∃ p' T2, e = .returned (.pointer p') ∧ IsT w' p' T2 ∧ T2.list = delL (TT.node A y B).list i ∧ Keep [] w9 w') := fun p' T' w9 k t' l' =>
        (balanced_any p' pr T' B y w9 t' (hB.keep k) (by have := delL_len _ _ hle; rw [l']; omega)).mono (by
          rintro e w' ⟨p2, T2, he, t2, l2, k2⟩
          exact ⟨p2, T2, he, t2, by rw [l2, l', delL_left _ _ _ _ hle]; rfl, k2⟩)
      clear ihA ihB hA hB hbb hi hs HLen
      go_enter Try.func51, Try.ntmps51
      go_wp2_with (go_at_call 53; refine (HCA.out _ (Keep.refl _ _)).mono ?_; clear HCA; rintro e w5 ⟨rfl, rfl⟩)
      go_region_held3 (fun w' => w'.cell? ⟨b, 0, none⟩ = some (.int .i64 y.k) ∧ w'.cell? ⟨b, 1, none⟩ = some (.int .i64 y.m) ∧ w'.cell? ⟨b, 2, none⟩ = some (.pointer pl) ∧ w'.cell? ⟨b, 3, none⟩ = some (.pointer pr) ∧ Hid (Keep [] w w'))
        (first | assumption | exact Cs.drew (l := [(⟨b, 0, none⟩, .int .i64 y.k), (⟨b, 1, none⟩, .int .i64 y.m), (⟨b, 2, none⟩, .pointer pl), (⟨b, 3, none⟩, .pointer pr)]) HBC | exact Cs.alloc (l := [(⟨b, 0, none⟩, .int .i64 y.k), (⟨b, 1, none⟩, .int .i64 y.m), (⟨b, 2, none⟩, .pointer pl), (⟨b, 3, none⟩, .pointer pr)]) _ (by assumption) | exact Cs.more (l := [(⟨b, 0, none⟩, .int .i64 y.k), (⟨b, 1, none⟩, .int .i64 y.m), (⟨b, 2, none⟩, .pointer pl), (⟨b, 3, none⟩, .pointer pr)]) (by assumption) (by assumption))
        (first | (go_at_call 51; refine (HI.out _ ((show Cs [(⟨b, 0, none⟩, .int .i64 y.k), (⟨b, 1, none⟩, .int .i64 y.m), (⟨b, 2, none⟩, .pointer pl), (⟨b, 3, none⟩, .pointer pr)] w _ from by assumption).kp)).mono ?_; clear HI; rintro e w5 ⟨p5, T5, rfl, t5, l5, k5⟩) | (go_at_call 66; refine (HBa.out p5 T5 _ ((show Cs [(⟨b, 0, none⟩, .int .i64 y.k), (⟨b, 1, none⟩, .int .i64 y.m), (⟨b, 2, none⟩, .pointer pl), (⟨b, 3, none⟩, .pointer pr)] w _ from by assumption).kp) (t5.keep (by first | exact Keep.refl _ _ | exact (Keep.refl _ _).drew)) l5).mono ?_; rintro e w6 ⟨p6, T6, rfl, t6, l6, k6⟩))
      go_wp2
      go_ret
      exact ⟨p6, T6, rfl, t6.keep (by first | exact Keep.refl _ _ | exact (Keep.refl _ _).drew), l6, ((show Cs [(⟨b, 0, none⟩, .int .i64 y.k), (⟨b, 1, none⟩, .int .i64 y.m), (⟨b, 2, none⟩, .pointer pl), (⟨b, 3, none⟩, .pointer pr)] w _ from by assumption).kp)⟩

    · by_cases hgt : A.list.length < i
      · have hlti : (A.list.length : Int) < (i : Int) := by omega
        have hii : (i : Int) ≤ 1152921504606846976 := by omega
        have e1 : IntKind.i64.wrap (IntKind.i64.wrap ((i : Int) - (A.list.length : Int)) - 1) = ((i - A.list.length - 1 : Nat) : Int) := by
          rw [wrap_ok ((i : Int) - (A.list.length : Int)) (by omega) (by omega), wrap_ok _ (by omega) (by omega)]; omega
        have HI : Hid (∀ w9, Keep [] w w9 → Calls Try.prog 51 #[.pointer pr, .int .i64 (IntKind.i64.wrap (IntKind.i64.wrap ((i : Int) - (A.list.length : Int)) - 1))] w9 fun e w' => ∃ p' T', e = .returned (.pointer p') ∧ IsT w' p' T' ∧ T'.list = delL B.list (i - A.list.length - 1) ∧ Keep [] w9 w') := by
          show ∀ w9, _
          rw [e1]
          exact fun w9 k => ihB pr (i - A.list.length - 1) w9 (hB.keep k) (by omega) (by omega)
        have HBa : Hid (∀ p' T' w9, Keep [] w w9 → IsT w9 p' T' → T'.list = delL B.list (i - A.list.length - 1) → Calls Try.prog 66 #[.pointer pl, vP y, .pointer p'] w9 fun e w' => ∃ p' T2, e = .returned (.pointer p') ∧ IsT w' p' T2 ∧ T2.list = delL (TT.node A y B).list i ∧ Keep [] w9 w') := fun p' T' w9 k t' l' =>
          (balanced_any pl p' A T' y w9 (hA.keep k) t' (by have := delL_len B.list (i - A.list.length - 1) (by omega); rw [l']; omega)).mono (by
            rintro e w' ⟨p2, T2, he, t2, l2, k2⟩
            exact ⟨p2, T2, he, t2, by rw [l2, l', delL_right _ _ _ _ hgt]; rfl, k2⟩)
        clear ihA ihB hA hB hbb hi hs HLen e1 hle
        go_enter Try.func51, Try.ntmps51
        go_wp2_with (go_at_call 53; refine (HCA.out _ (Keep.refl _ _)).mono ?_; clear HCA; rintro e w5 ⟨rfl, rfl⟩)
        go_region_held3 (fun w' => w'.cell? ⟨b, 0, none⟩ = some (.int .i64 y.k) ∧ w'.cell? ⟨b, 1, none⟩ = some (.int .i64 y.m) ∧ w'.cell? ⟨b, 2, none⟩ = some (.pointer pl) ∧ w'.cell? ⟨b, 3, none⟩ = some (.pointer pr) ∧ Hid (Keep [] w w'))
          (first | assumption | exact Cs.drew (l := [(⟨b, 0, none⟩, .int .i64 y.k), (⟨b, 1, none⟩, .int .i64 y.m), (⟨b, 2, none⟩, .pointer pl), (⟨b, 3, none⟩, .pointer pr)]) HBC | exact Cs.alloc (l := [(⟨b, 0, none⟩, .int .i64 y.k), (⟨b, 1, none⟩, .int .i64 y.m), (⟨b, 2, none⟩, .pointer pl), (⟨b, 3, none⟩, .pointer pr)]) _ (by assumption) | exact Cs.more (l := [(⟨b, 0, none⟩, .int .i64 y.k), (⟨b, 1, none⟩, .int .i64 y.m), (⟨b, 2, none⟩, .pointer pl), (⟨b, 3, none⟩, .pointer pr)]) (by assumption) (by assumption))
          (first | (go_at_call 51; refine (HI.out _ ((show Cs [(⟨b, 0, none⟩, .int .i64 y.k), (⟨b, 1, none⟩, .int .i64 y.m), (⟨b, 2, none⟩, .pointer pl), (⟨b, 3, none⟩, .pointer pr)] w _ from by assumption).kp)).mono ?_; clear HI; rintro e w5 ⟨p5, T5, rfl, t5, l5, k5⟩) | (go_at_call 66; refine (HBa.out p5 T5 _ ((show Cs [(⟨b, 0, none⟩, .int .i64 y.k), (⟨b, 1, none⟩, .int .i64 y.m), (⟨b, 2, none⟩, .pointer pl), (⟨b, 3, none⟩, .pointer pr)] w _ from by assumption).kp) (t5.keep (by first | exact Keep.refl _ _ | exact (Keep.refl _ _).drew)) l5).mono ?_; rintro e w6 ⟨p6, T6, rfl, t6, l6, k6⟩))
        go_wp2
        go_ret
        exact ⟨p6, T6, rfl, t6.keep (by first | exact Keep.refl _ _ | exact (Keep.refl _ _).drew), l6, ((show Cs [(⟨b, 0, none⟩, .int .i64 y.k), (⟨b, 1, none⟩, .int .i64 y.m), (⟨b, 2, none⟩, .pointer pl), (⟨b, 3, none⟩, .pointer pr)] w _ from by assumption).kp)⟩

      · obtain rfl : i = A.list.length := by omega
        cases A with
        | leaf =>
          obtain rfl : pl = none := hA
          have HB : Hid (IsT w pr B) := hB
          have HL0 : (((TT.leaf).list.length : Nat) : Int) = 0 := by simp [TT.list]
          rw [HL0] at HCA ⊢
          clear ihA ihB hB hbb hi hs HLen hle hgt HL0
          go_enter Try.func51, Try.ntmps51
          go_wp2_with (go_at_call 53; refine (HCA.out _ (Keep.refl _ _)).mono ?_; clear HCA; rintro e w5 ⟨rfl, rfl⟩)
          go_ret
          exact ⟨pr, B, rfl, HB.out, by simp [TT.list, delL], Keep.refl _ _⟩
        | node A1 z A2 =>
          have HAA := hA
          obtain ⟨bl, q1, q2, rfl, hbl2, _, _⟩ := hA
          cases B with
          | leaf =>
            obtain rfl : pr = none := hB
            have HA : Hid (IsT w (some ⟨bl, 0, none⟩) (.node A1 z A2)) := HAA
            clear ihA ihB hbb hi hs HLen hle hgt HAA hbl2
            go_enter Try.func51, Try.ntmps51
            go_wp2_with (go_at_call 53; refine (HCA.out _ (Keep.refl _ _)).mono ?_; clear HCA; rintro e w5 ⟨rfl, rfl⟩)
            go_ret
            exact ⟨_, .node A1 z A2, rfl, HA.out, by have := delL_mid (TT.node A1 z A2).list [] y; simp only [TT.list, List.append_nil] at this ⊢; exact this, Keep.refl _ _⟩
          | node B1 u B2 =>
            have HLB : (TT.node B1 u B2).list.length = B1.list.length + B2.list.length + 1 := by simp [TT.list]; omega
            have HI : Hid (∀ w9, Keep [] w w9 → Calls Try.prog 51 #[.pointer pr, .int .i64 0] w9 fun e w' => ∃ p' T', e = .returned (.pointer p') ∧ IsT w' p' T' ∧ T'.list = delL (TT.node B1 u B2).list 0 ∧ Keep [] w9 w') := fun w9 k =>
              ihB pr 0 w9 (hB.keep k) (by omega) (by omega)
            have HF : Hid (∀ w9, Keep [] w w9 → Calls Try.prog 67 #[.pointer pr] w9 fun e w' => ∃ v, e = .returned (vP v) ∧ (TT.node B1 u B2).list.head? = some v ∧ Keep [] w9 w') := fun w9 k => first_any pr B1 B2 u w9 (hB.keep k)
            have HBa : Hid (∀ v p' T' w9, Keep [] w w9 → IsT w9 p' T' → T'.list = delL (TT.node B1 u B2).list 0 → (TT.node B1 u B2).list.head? = some v → Calls Try.prog 66 #[.pointer (some ⟨bl, 0, none⟩), vP v, .pointer p'] w9 fun e w' => ∃ p' T2, e = .returned (.pointer p') ∧ IsT w' p' T2 ∧ T2.list = delL (TT.node (TT.node A1 z A2) y (TT.node B1 u B2)).list (TT.node A1 z A2).list.length ∧ Keep [] w9 w') := fun v p' T' w9 k t' l' hv =>
              (balanced_any _ p' (.node A1 z A2) T' v w9 (HAA.keep k) t' (by have := delL_len (TT.node B1 u B2).list 0 (by omega); rw [l']; omega)).mono (by
                rintro e w' ⟨p2, T2, he, t2, l2, k2⟩
                refine ⟨p2, T2, he, t2, ?_, k2⟩
                rw [l2, l']
                show _ = delL ((TT.node A1 z A2).list ++ y :: (TT.node B1 u B2).list) _
                rw [← delL_mid]
                congr 1
                generalize (TT.node B1 u B2).list = lb at *
                cases lb with
                | nil => cases hv
                | cons c t => simp at hv; subst hv; simp [delL])
            obtain ⟨br, q3, q4, rfl, hbr2, _, _⟩ := hB
            clear ihA ihB hbb hi hs HLen hle hgt HAA hbl2 hbr2 HLB
            go_enter Try.func51, Try.ntmps51
            go_wp2_with (go_at_call 53; refine (HCA.out _ (Keep.refl _ _)).mono ?_; clear HCA; rintro e w5 ⟨rfl, rfl⟩)
            go_region_held3 (fun w' => w'.cell? ⟨b, 0, none⟩ = some (.int .i64 y.k) ∧ w'.cell? ⟨b, 1, none⟩ = some (.int .i64 y.m) ∧ w'.cell? ⟨b, 2, none⟩ = some (.pointer (some ⟨bl, 0, none⟩)) ∧ w'.cell? ⟨b, 3, none⟩ = some (.pointer (some ⟨br, 0, none⟩)) ∧ Hid (Keep [] w w'))
              (first | assumption | exact Cs.drew (l := [(⟨b, 0, none⟩, .int .i64 y.k), (⟨b, 1, none⟩, .int .i64 y.m), (⟨b, 2, none⟩, .pointer (some ⟨bl, 0, none⟩)), (⟨b, 3, none⟩, .pointer (some ⟨br, 0, none⟩))]) HBC | exact Cs.alloc (l := [(⟨b, 0, none⟩, .int .i64 y.k), (⟨b, 1, none⟩, .int .i64 y.m), (⟨b, 2, none⟩, .pointer (some ⟨bl, 0, none⟩)), (⟨b, 3, none⟩, .pointer (some ⟨br, 0, none⟩))]) _ (by assumption) | exact Cs.more (l := [(⟨b, 0, none⟩, .int .i64 y.k), (⟨b, 1, none⟩, .int .i64 y.m), (⟨b, 2, none⟩, .pointer (some ⟨bl, 0, none⟩)), (⟨b, 3, none⟩, .pointer (some ⟨br, 0, none⟩))]) (by assumption) (by assumption))
              (first | (go_at_call 67; refine (HF.out _ ((show Cs [(⟨b, 0, none⟩, .int .i64 y.k), (⟨b, 1, none⟩, .int .i64 y.m), (⟨b, 2, none⟩, .pointer (some ⟨bl, 0, none⟩)), (⟨b, 3, none⟩, .pointer (some ⟨br, 0, none⟩))] w _ from by assumption).kp)).mono ?_; clear HF; rintro e w4 ⟨v4, rfl, l4, k4⟩) | (go_at_call 51; refine (HI.out _ ((show Cs [(⟨b, 0, none⟩, .int .i64 y.k), (⟨b, 1, none⟩, .int .i64 y.m), (⟨b, 2, none⟩, .pointer (some ⟨bl, 0, none⟩)), (⟨b, 3, none⟩, .pointer (some ⟨br, 0, none⟩))] w _ from by assumption).kp)).mono ?_; clear HI; rintro e w5 ⟨p5, T5, rfl, t5, l5, k5⟩) | (go_at_call 66; refine (HBa.out v4 p5 T5 _ ((show Cs [(⟨b, 0, none⟩, .int .i64 y.k), (⟨b, 1, none⟩, .int .i64 y.m), (⟨b, 2, none⟩, .pointer (some ⟨bl, 0, none⟩)), (⟨b, 3, none⟩, .pointer (some ⟨br, 0, none⟩))] w _ from by assumption).kp) (t5.keep (by first | exact Keep.refl _ _ | exact (Keep.refl _ _).drew)) l5 l4).mono ?_; rintro e w6 ⟨p6, T6, rfl, t6, l6, k6⟩))
            go_wp2
            go_ret
            exact ⟨p6, T6, rfl, t6.keep (by first | exact Keep.refl _ _ | exact (Keep.refl _ _).drew), l6, ((show Cs [(⟨b, 0, none⟩, .int .i64 y.k), (⟨b, 1, none⟩, .int .i64 y.m), (⟨b, 2, none⟩, .pointer (some ⟨bl, 0, none⟩)), (⟨b, 3, none⟩, .pointer (some ⟨br, 0, none⟩))] w _ from by assumption).kp)⟩


end Go.Proofs.Ytkelhglflpdpeaa
