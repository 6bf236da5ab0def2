/- Texts in a tree: tb. -/
import Derived.Test.YtkelhglflpdpeaaSb

namespace Go.Proofs.Ytkelhglflpdpeaa
open Go.RowKit Go.PlainAid

set_option maxRecDepth 100000 in
set_option maxHeartbeats 2000000 in
theorem sbalanced_any (pl pr : Option Addr) (A B : TS) (x : St) (w : World) (ha : IsS w pl A) (hb : IsS w pr B) (hs : A.list.length + B.list.length + 2 ≤ 1152921504606846976) :
    Calls Try.prog 74 #[.pointer pl, vT x, .pointer pr] w fun e w' => ∃ p' T', e = .returned (.pointer p') ∧ IsS w' p' T' ∧ T'.list = A.list ++ x :: B.list ∧ Keep [] w w' := by
  have HWA : Hid (∀ w9, Keep [] w w9 → Calls Try.prog 81 #[.pointer pl] w9 fun e w' => e = .returned (.int .i64 ((A.list.length : Int) + 1)) ∧ w' = w9) := fun w9 k => sweight_any pl A w9 (ha.keep k) (by omega)
  have HWB : Hid (∀ w9, Keep [] w w9 → Calls Try.prog 81 #[.pointer pr] w9 fun e w' => e = .returned (.int .i64 ((B.list.length : Int) + 1)) ∧ w' = w9) := fun w9 k => sweight_any pr B w9 (hb.keep k) (by omega)
  have h0 : (0 : Int) ≤ (A.list.length : Int) := by omega
  have h1 : (0 : Int) ≤ (B.list.length : Int) := by omega
  have h2 : (A.list.length : Int) ≤ 1152921504606846976 := by omega
  have h3 : (B.list.length : Int) ≤ 1152921504606846976 := by omega
  have HK : Keep [] w w := Keep.refl _ _
  by_cases hc : (B.list.length : Int) + 1 > 3 * ((A.list.length : Int) + 1)
  · cases B with
    | leaf => simp [TS.list] at hc; omega
    | node I y O =>
      have HLen : (TS.node I y O).list.length = I.list.length + O.list.length + 1 := by simp [TS.list]; omega
      obtain ⟨b, p1, p2, rfl, hbb, hi, ho⟩ := hb
      have HT : Hid (∀ w9, Keep [] w w9 → Calls Try.prog 82 #[.pointer pl, vT x, .pointer (some ⟨b, 0, none⟩)] w9 fun e w' => ∃ p' T', e = .returned (.pointer p') ∧ IsS w' p' T' ∧ T'.list = A.list ++ x :: (I.list ++ y :: O.list) ∧ Keep [] w9 w') := fun w9 k =>
        sturnedL_any pl b p1 p2 A I O x y w9 _ (ha.keep k) (k.ks0 _ _ hbb) (hi.keep k) (ho.keep k) (by omega)
      clear ha hbb hi ho HLen hs
      go_enter Try.func74, Try.ntmps74
      go_wp2_with (first | (go_at_call 81; refine (HWB.out _ HK).mono ?_; clear HWB; rintro e w5 ⟨rfl, rfl⟩) | (go_at_call 81; refine (HWA.out _ HK).mono ?_; clear HWA; rintro e w6 ⟨rfl, rfl⟩) | (go_at_call 82; refine (HT.out _ HK).mono ?_; rintro e w7 ⟨p7, T7, rfl, t7, l7, k7⟩))
      go_ret
      exact ⟨p7, T7, rfl, t7, l7, HK.trans' k7⟩
  · by_cases hd : (A.list.length : Int) + 1 > 3 * ((B.list.length : Int) + 1)
    · cases A with
      | leaf => simp [TS.list] at hd; omega
      | node O y I =>
        have HLen : (TS.node O y I).list.length = O.list.length + I.list.length + 1 := by simp [TS.list]; omega
        obtain ⟨b, p1, p2, rfl, hbb, ho, hi⟩ := ha
        have HT : Hid (∀ w9, Keep [] w w9 → Calls Try.prog 83 #[.pointer (some ⟨b, 0, none⟩), vT x, .pointer pr] w9 fun e w' => ∃ p' T', e = .returned (.pointer p') ∧ IsS w' p' T' ∧ T'.list = (O.list ++ y :: I.list) ++ x :: B.list ∧ Keep [] w9 w') := fun w9 k =>
          sturnedR_any pr b p2 p1 B I O x y w9 _ (hb.keep k) (k.ks0 _ _ hbb) (hi.keep k) (ho.keep k) (by omega)
        have HWA2 := HWA
        have HWB2 := HWB
        clear hb hbb hi ho HLen hs
        go_enter Try.func74, Try.ntmps74
        go_wp2_with (first | (go_at_call 81; refine (HWB.out _ HK).mono ?_; clear HWB; rintro e w5 ⟨rfl, rfl⟩) | (go_at_call 81; refine (HWA.out _ HK).mono ?_; clear HWA; rintro e w6 ⟨rfl, rfl⟩) | (go_at_call 81; refine (HWA2.out _ HK).mono ?_; clear HWA2; rintro e w5 ⟨rfl, rfl⟩) | (go_at_call 81; refine (HWB2.out _ HK).mono ?_; clear HWB2; rintro e w6 ⟨rfl, rfl⟩) | (go_at_call 83; refine (HT.out _ HK).mono ?_; rintro e w7 ⟨p7, T7, rfl, t7, l7, k7⟩))
        go_ret
        exact ⟨p7, T7, rfl, t7, l7, HK.trans' k7⟩
    · have HT : Hid (∀ w9, Keep [] w w9 → Calls Try.prog 73 #[.pointer pl, vT x, .pointer pr] w9 fun e w' => ∃ p', e = .returned (.pointer p') ∧ IsS w' p' (.node A x B) ∧ Keep [] w9 w') := fun w9 k =>
        sbranch_any pl pr A B x w9 (ha.keep k) (hb.keep k) (by omega)
      have HWA2 := HWA
      have HWB2 := HWB
      clear ha hb hs
      go_enter Try.func74, Try.ntmps74
      go_wp2_with (first | (go_at_call 81; refine (HWB.out _ HK).mono ?_; clear HWB; rintro e w5 ⟨rfl, rfl⟩) | (go_at_call 81; refine (HWA.out _ HK).mono ?_; clear HWA; rintro e w6 ⟨rfl, rfl⟩) | (go_at_call 81; refine (HWA2.out _ HK).mono ?_; clear HWA2; rintro e w5 ⟨rfl, rfl⟩) | (go_at_call 81; refine (HWB2.out _ HK).mono ?_; clear HWB2; rintro e w6 ⟨rfl, rfl⟩) | (go_at_call 73; refine (HT.out _ HK).mono ?_; rintro e w7 ⟨p7, rfl, t7, k7⟩))
      go_ret
      exact ⟨p7, _, rfl, t7, rfl, HK.trans' k7⟩

/-- the list with x at the place i -/
def sInsL (l : List St) (i : Nat) (x : St) : List St := l.take i ++ x :: l.drop i
theorem sInsL_len (l : List St) (i : Nat) (x : St) (h : i ≤ l.length) : (sInsL l i x).length = l.length + 1 := by simp [sInsL]; omega
theorem sInsL_left (l r : List St) (y : St) (i : Nat) (x : St) (h : i ≤ l.length) : sInsL l i x ++ y :: r = sInsL (l ++ y :: r) i x := by
  simp [sInsL, List.take_append_of_le_length h, List.drop_append_of_le_length h]
theorem sInsL_right (l r : List St) (y : St) (i : Nat) (x : St) (h : l.length < i) : l ++ y :: sInsL r (i - l.length - 1) x = sInsL (l ++ y :: r) i x := by
  obtain ⟨j, rfl⟩ : ∃ j, i = l.length + (j + 1) := ⟨i - l.length - 1, by omega⟩
  have e : l.length + (j + 1) - l.length - 1 = j := by omega
  simp only [sInsL, e, List.take_length_add_append, List.drop_length_add_append, List.take_succ_cons, List.drop_succ_cons]
  simp

set_option maxRecDepth 100000 in
set_option maxHeartbeats 2000000 in
theorem sinsert_any (x : St) (T : TS) : ∀ (p : Option Addr) (i : Nat) (w : World), IsS w p T → i ≤ T.list.length → T.list.length + 2 ≤ 1152921504606846976 →
    Calls Try.prog 59 #[.pointer p, .int .i64 (i : Int), vT x] w fun e w' => ∃ p' T', e = .returned (.pointer p') ∧ IsS w' p' T' ∧ T'.list = sInsL T.list i x ∧ Keep [] w w' := by
  induction T with
  | leaf =>
    intro p i w ht hi _
    obtain rfl : p = none := ht
    obtain rfl : i = 0 := by simp [TS.list] at hi; exact hi
    have HK : Keep [] w w := Keep.refl _ _
    have HT : Hid (∀ w9, Calls Try.prog 73 #[.pointer none, vT x, .pointer none] w9 fun e w' => ∃ p', e = .returned (.pointer p') ∧ IsS w' p' (.node .leaf x .leaf) ∧ Keep [] w9 w') := fun w9 =>
      sbranch_any none none .leaf .leaf x w9 rfl rfl (by simp [TS.list])
    go_enter Try.func59, Try.ntmps59
    go_wp2_with (go_at_call 73; refine (HT.out _).mono ?_; rintro e w7 ⟨p7, rfl, t7, k7⟩)
    go_ret
    exact ⟨p7, _, rfl, t7, rfl, HK.trans' k7⟩
  | node A y B ihA ihB =>
    intro p i w ht hi hs
    have HLen : (TS.node A y B).list.length = A.list.length + B.list.length + 1 := by simp [TS.list]; omega
    rw [HLen] at hi hs
    obtain ⟨b, pl, pr, rfl, hbb, hA, hB⟩ := ht
    obtain ⟨r0, r1, r2, _⟩ := nodeS_cells hbb
    have HK : Keep [] w w := Keep.refl _ _
    have hbl : b < w.heap.size := (Array.getElem?_eq_some_iff.1 hbb).1
    have HBC : Cs [(⟨b, 0, none⟩, .string y), (⟨b, 1, none⟩, .pointer pl), (⟨b, 2, none⟩, .pointer pr)] w w := ⟨r0, r1, r2, HK⟩
    have HCA : Hid (∀ w9, Keep [] w w9 → Calls Try.prog 63 #[.pointer pl] w9 fun e w' => e = .returned (.int .i64 (A.list.length : Int)) ∧ w9 = w') := fun w9 k => (scount_any pl A w9 (hA.keep k)).mono (fun e w' h => ⟨h.1, h.2.symm⟩)
    have HTT : Hid (IsS w pl A ∧ IsS w pr B) := ⟨hA, hB⟩
    by_cases hle : i ≤ A.list.length
    · have hlei : (i : Int) ≤ (A.list.length : Int) := by omega
      have HI : Hid (∀ w9, Keep [] w w9 → Calls Try.prog 59 #[.pointer pl, .int .i64 (i : Int), vT x] w9 fun e w' => ∃ p' T', e = .returned (.pointer p') ∧ IsS w' p' T' ∧ T'.list = sInsL A.list i x ∧ Keep [] w9 w') := fun w9 k =>
        ihA pl i w9 (hA.keep k) hle (by omega)
      have HBa : Hid (∀ p' T' w9, Keep [] w w9 → IsS w9 p' T' → T'.list = sInsL A.list i x → Calls Try.prog 74 #[.pointer p', vT y, .pointer pr] w9 fun e w' => ∃ p' T2, e = .returned (.pointer p') ∧ IsS w' p' T2 ∧ T2.list = sInsL (TS.node A y B).list i x ∧ Keep [] w9 w') := fun p' T' w9 k t' l' =>
        (sbalanced_any p' pr T' B y w9 t' (hB.keep k) (by rw [l', sInsL_len _ _ _ hle]; omega)).mono (by
          rintro e w' ⟨p2, T2, he, t2, l2, k2⟩
          exact ⟨p2, T2, he, t2, by rw [l2, l', sInsL_left _ _ _ _ _ hle]; rfl, k2⟩)
      clear ihA ihB hA hB hbb hi hs HLen
      go_enter Try.func59, Try.ntmps59
      go_wp2_with (go_at_call 63; refine (HCA.out _ HK).mono ?_; clear HCA; rintro e w5 ⟨rfl, rfl⟩)
      go_region_held3 (fun w' => w'.cell? ⟨b, 0, none⟩ = some (.string y) ∧ w'.cell? ⟨b, 1, none⟩ = some (.pointer pl) ∧ w'.cell? ⟨b, 2, none⟩ = some (.pointer pr) ∧ Hid (Keep [] w w'))
        (first | assumption | exact Cs.drew (l := [(⟨b, 0, none⟩, .string y), (⟨b, 1, none⟩, .pointer pl), (⟨b, 2, none⟩, .pointer pr)]) HBC | exact Cs.alloc (l := [(⟨b, 0, none⟩, .string y), (⟨b, 1, none⟩, .pointer pl), (⟨b, 2, none⟩, .pointer pr)]) _ (by assumption) | exact Cs.more (l := [(⟨b, 0, none⟩, .string y), (⟨b, 1, none⟩, .pointer pl), (⟨b, 2, none⟩, .pointer pr)]) (by assumption) (by assumption))
        (first | (go_at_call 59; refine (HI.out _ ((show Cs [(⟨b, 0, none⟩, .string y), (⟨b, 1, none⟩, .pointer pl), (⟨b, 2, none⟩, .pointer pr)] w _ from by assumption).kp)).mono ?_; clear HI; rintro e w5 ⟨p5, T5, rfl, t5, l5, k5⟩) | (go_at_call 74; refine (HBa.out p5 T5 _ ((show Cs [(⟨b, 0, none⟩, .string y), (⟨b, 1, none⟩, .pointer pl), (⟨b, 2, none⟩, .pointer pr)] w _ from by assumption).kp) (t5.keep (by first | exact Keep.refl _ _ | exact (Keep.refl _ _).drew)) l5).mono ?_; rintro e w6 ⟨p6, T6, rfl, t6, l6, k6⟩))
      go_wp2
      go_ret
      exact ⟨p6, T6, rfl, t6.keep (by first | exact Keep.refl _ _ | exact (Keep.refl _ _).drew), l6, ((show Cs [(⟨b, 0, none⟩, .string y), (⟨b, 1, none⟩, .pointer pl), (⟨b, 2, none⟩, .pointer pr)] w _ from by assumption).kp)⟩
    · have hlt : A.list.length < i := by omega
      have hlti : (A.list.length : Int) < (i : Int) := by omega
      have hii : (i : Int) ≤ 1152921504606846976 := by omega
      have e1 : IntKind.i64.wrap (IntKind.i64.wrap ((i : Int) - (A.list.length : Int)) - 1) = ((i - A.list.length - 1 : Nat) : Int) := by
        rw [wrap_ok ((i : Int) - (A.list.length : Int)) (by omega) (by omega), wrap_ok _ (by omega) (by omega)]; omega
      have HI : Hid (∀ w9, Keep [] w w9 → Calls Try.prog 59 #[.pointer pr, .int .i64 (IntKind.i64.wrap (IntKind.i64.wrap ((i : Int) - (A.list.length : Int)) - 1)), vT x] w9 fun e w' => ∃ p' T', e = .returned (.pointer p') ∧ IsS w' p' T' ∧ T'.list = sInsL B.list (i - A.list.length - 1) x ∧ Keep [] w9 w') := by
        show ∀ w9, _
        rw [e1]
        exact fun w9 k => ihB pr (i - A.list.length - 1) w9 (hB.keep k) (by omega) (by omega)
      have HBa : Hid (∀ p' T' w9, Keep [] w w9 → IsS w9 p' T' → T'.list = sInsL B.list (i - A.list.length - 1) x → Calls Try.prog 74 #[.pointer pl, vT y, .pointer p'] w9 fun e w' => ∃ p' T2, e = .returned (.pointer p') ∧ IsS w' p' T2 ∧ T2.list = sInsL (TS.node A y B).list i x ∧ Keep [] w9 w') := fun p' T' w9 k t' l' =>
        (sbalanced_any pl p' A T' y w9 (hA.keep k) t' (by rw [l', sInsL_len _ _ _ (by omega)]; omega)).mono (by
          rintro e w' ⟨p2, T2, he, t2, l2, k2⟩
          exact ⟨p2, T2, he, t2, by rw [l2, l', sInsL_right _ _ _ _ _ hlt]; rfl, k2⟩)
      clear ihA ihB hA hB hbb hi hs HLen e1 hle
      go_enter Try.func59, Try.ntmps59
      go_wp2_with (go_at_call 63; refine (HCA.out _ HK).mono ?_; clear HCA; rintro e w5 ⟨rfl, rfl⟩)
      go_region_held3 (fun w' => w'.cell? ⟨b, 0, none⟩ = some (.string y) ∧ w'.cell? ⟨b, 1, none⟩ = some (.pointer pl) ∧ w'.cell? ⟨b, 2, none⟩ = some (.pointer pr) ∧ Hid (Keep [] w w'))
        (first | assumption | exact Cs.drew (l := [(⟨b, 0, none⟩, .string y), (⟨b, 1, none⟩, .pointer pl), (⟨b, 2, none⟩, .pointer pr)]) HBC | exact Cs.alloc (l := [(⟨b, 0, none⟩, .string y), (⟨b, 1, none⟩, .pointer pl), (⟨b, 2, none⟩, .pointer pr)]) _ (by assumption) | exact Cs.more (l := [(⟨b, 0, none⟩, .string y), (⟨b, 1, none⟩, .pointer pl), (⟨b, 2, none⟩, .pointer pr)]) (by assumption) (by assumption))
        (first | (go_at_call 59; refine (HI.out _ ((show Cs [(⟨b, 0, none⟩, .string y), (⟨b, 1, none⟩, .pointer pl), (⟨b, 2, none⟩, .pointer pr)] w _ from by assumption).kp)).mono ?_; clear HI; rintro e w5 ⟨p5, T5, rfl, t5, l5, k5⟩) | (go_at_call 74; refine (HBa.out p5 T5 _ ((show Cs [(⟨b, 0, none⟩, .string y), (⟨b, 1, none⟩, .pointer pl), (⟨b, 2, none⟩, .pointer pr)] w _ from by assumption).kp) (t5.keep (by first | exact Keep.refl _ _ | exact (Keep.refl _ _).drew)) l5).mono ?_; rintro e w6 ⟨p6, T6, rfl, t6, l6, k6⟩))
      go_wp2
      go_ret
      exact ⟨p6, T6, rfl, t6.keep (by first | exact Keep.refl _ _ | exact (Keep.refl _ _).drew), l6, ((show Cs [(⟨b, 0, none⟩, .string y), (⟨b, 1, none⟩, .pointer pl), (⟨b, 2, none⟩, .pointer pr)] w _ from by assumption).kp)⟩

end Go.Proofs.Ytkelhglflpdpeaa
