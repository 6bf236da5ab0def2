/- Balanced; insert. -/
import Derived.Test.YtkelhglflpdpeaaTs

namespace Go.Proofs.Ytkelhglflpdpeaa
open Go.RowKit Go.PlainAid


set_option maxRecDepth 100000 in
set_option maxHeartbeats 2000000 in
theorem balanced_any (pl pr : Option Addr) (A B : TT) (x : Pr) (w : World) (ha : IsT w pl A) (hb : IsT w pr B) (hs : A.list.length + B.list.length + 2 ≤ 1152921504606846976) :
    Calls Try.prog 66 #[.pointer pl, vP x, .pointer pr] w fun e w' => ∃ p' T', e = .returned (.pointer p') ∧ IsT w' p' T' ∧ T'.list = A.list ++ x :: B.list ∧ Keep [] w w' := by
  have HX : Hid (Bp w w.heap.size x (w.alloc (.cells #[.int .i64 x.k, .int .i64 x.m] 29))) := Bp.new w x
  have HWA : Hid (∀ w9, Keep [] w w9 → Calls Try.prog 78 #[.pointer pl] w9 fun e w' => e = .returned (.int .i64 ((A.list.length : Int) + 1)) ∧ w' = w9) := fun w9 k => weight_any pl A w9 (ha.keep k) (by omega)
  have HWB : Hid (∀ w9, Keep [] w w9 → Calls Try.prog 78 #[.pointer pr] w9 fun e w' => e = .returned (.int .i64 ((B.list.length : Int) + 1)) ∧ w' = w9) := fun w9 k => weight_any pr B w9 (hb.keep k) (by omega)
  have h0 : (0 : Int) ≤ (A.list.length : Int) := by omega
  have h1 : (0 : Int) ≤ (B.list.length : Int) := by omega
  have h2 : (A.list.length : Int) ≤ 1152921504606846976 := by omega
  have h3 : (B.list.length : Int) ≤ 1152921504606846976 := by omega
  obtain ⟨x0, x1, hk⟩ := HX.out
  have HK : Keep [] w (w.alloc (.cells #[.int .i64 x.k, .int .i64 x.m] 29)) := hk.out
  clear hk
  by_cases hc : (B.list.length : Int) + 1 > 3 * ((A.list.length : Int) + 1)
  · cases B with
    | leaf => simp [TT.list] at hc; omega
    | node I y O =>
      have HLen : (TT.node I y O).list.length = I.list.length + O.list.length + 1 := by simp [TT.list]; omega
      obtain ⟨b, p1, p2, rfl, hbb, hi, ho⟩ := hb
      have HT : Hid (∀ w9, Keep [] w w9 → Calls Try.prog 79 #[.pointer pl, vP x, .pointer (some ⟨b, 0, none⟩)] w9 fun e w' => ∃ p' T', e = .returned (.pointer p') ∧ IsT w' p' T' ∧ T'.list = A.list ++ x :: (I.list ++ y :: O.list) ∧ Keep [] w9 w') := fun w9 k =>
        turnedL_any pl b p1 p2 A I O x y w9 _ (ha.keep k) (k.kt0 _ _ hbb) (hi.keep k) (ho.keep k) (by omega)
      clear ha hbb hi ho HLen hs
      go_enter Try.func66, Try.ntmps66
      go_wp2_with (first | (go_at_call 78; refine (HWB.out _ HK).mono ?_; clear HWB; rintro e w5 ⟨rfl, rfl⟩) | (go_at_call 78; refine (HWA.out _ HK).mono ?_; clear HWA; rintro e w6 ⟨rfl, rfl⟩) | (go_at_call 79; refine (HT.out _ HK).mono ?_; rintro e w7 ⟨p7, T7, rfl, t7, l7, k7⟩))
      go_ret
      exact ⟨p7, T7, rfl, t7, l7, HK.trans' k7⟩
  · by_cases hd : (A.list.length : Int) + 1 > 3 * ((B.list.length : Int) + 1)
    · cases A with
      | leaf => simp [TT.list] at hd; omega
      | node O y I =>
        have HLen : (TT.node O y I).list.length = O.list.length + I.list.length + 1 := by simp [TT.list]; omega
        obtain ⟨b, p1, p2, rfl, hbb, ho, hi⟩ := ha
        have HT : Hid (∀ w9, Keep [] w w9 → Calls Try.prog 80 #[.pointer (some ⟨b, 0, none⟩), vP x, .pointer pr] w9 fun e w' => ∃ p' T', e = .returned (.pointer p') ∧ IsT w' p' T' ∧ T'.list = (O.list ++ y :: I.list) ++ x :: B.list ∧ Keep [] w9 w') := fun w9 k =>
          turnedR_any pr b p2 p1 B I O x y w9 _ (hb.keep k) (k.kt0 _ _ hbb) (hi.keep k) (ho.keep k) (by omega)
        have HWA2 := HWA
        have HWB2 := HWB
        clear hb hbb hi ho HLen hs
        go_enter Try.func66, Try.ntmps66
        go_wp2_with (first | (go_at_call 78; refine (HWB.out _ HK).mono ?_; clear HWB; rintro e w5 ⟨rfl, rfl⟩) | (go_at_call 78; refine (HWA.out _ HK).mono ?_; clear HWA; rintro e w6 ⟨rfl, rfl⟩) | (go_at_call 78; refine (HWA2.out _ HK).mono ?_; clear HWA2; rintro e w5 ⟨rfl, rfl⟩) | (go_at_call 78; refine (HWB2.out _ HK).mono ?_; clear HWB2; rintro e w6 ⟨rfl, rfl⟩) | (go_at_call 80; refine (HT.out _ HK).mono ?_; rintro e w7 ⟨p7, T7, rfl, t7, l7, k7⟩))
        go_ret
        exact ⟨p7, T7, rfl, t7, l7, HK.trans' k7⟩
    · have HT : Hid (∀ w9, Keep [] w w9 → Calls Try.prog 65 #[.pointer pl, vP x, .pointer pr] w9 fun e w' => ∃ p', e = .returned (.pointer p') ∧ IsT w' p' (.node A x B) ∧ Keep [] w9 w') := fun w9 k =>
        branch_any pl pr A B x w9 (ha.keep k) (hb.keep k) (by omega)
      have HWA2 := HWA
      have HWB2 := HWB
      clear ha hb hs
      go_enter Try.func66, Try.ntmps66
      go_wp2_with (first | (go_at_call 78; refine (HWB.out _ HK).mono ?_; clear HWB; rintro e w5 ⟨rfl, rfl⟩) | (go_at_call 78; refine (HWA.out _ HK).mono ?_; clear HWA; rintro e w6 ⟨rfl, rfl⟩) | (go_at_call 78; refine (HWA2.out _ HK).mono ?_; clear HWA2; rintro e w5 ⟨rfl, rfl⟩) | (go_at_call 78; refine (HWB2.out _ HK).mono ?_; clear HWB2; rintro e w6 ⟨rfl, rfl⟩) | (go_at_call 65; refine (HT.out _ HK).mono ?_; rintro e w7 ⟨p7, rfl, t7, k7⟩))
      go_ret
      exact ⟨p7, _, rfl, t7, rfl, HK.trans' k7⟩

/-- the list with x at the place i -/
def insL (l : List Pr) (i : Nat) (x : Pr) : List Pr := l.take i ++ x :: l.drop i
theorem insL_len (l : List Pr) (i : Nat) (x : Pr) (h : i ≤ l.length) : (insL l i x).length = l.length + 1 := by simp [insL]; omega
theorem insL_left (l r : List Pr) (y : Pr) (i : Nat) (x : Pr) (h : i ≤ l.length) : insL l i x ++ y :: r = insL (l ++ y :: r) i x := by
  simp [insL, List.take_append_of_le_length h, List.drop_append_of_le_length h]
theorem insL_right (l r : List Pr) (y : Pr) (i : Nat) (x : Pr) (h : l.length < i) : l ++ y :: insL r (i - l.length - 1) x = insL (l ++ y :: r) i x := by
  obtain ⟨j, rfl⟩ : ∃ j, i = l.length + (j + 1) := ⟨i - l.length - 1, by omega⟩
  have e : l.length + (j + 1) - l.length - 1 = j := by omega
  simp only [insL, e, List.take_length_add_append, List.drop_length_add_append, List.take_succ_cons, List.drop_succ_cons]
  simp

set_option maxRecDepth 100000 in
set_option maxHeartbeats 2000000 in
theorem insert_any (x : Pr) (T : TT) : ∀ (p : Option Addr) (i : Nat) (w : World), IsT w p T → i ≤ T.list.length → T.list.length + 2 ≤ 1152921504606846976 →
    Calls Try.prog 49 #[.pointer p, .int .i64 (i : Int), vP x] w fun e w' => ∃ p' T', e = .returned (.pointer p') ∧ IsT w' p' T' ∧ T'.list = insL T.list i x ∧ Keep [] w w' := by
  induction T with
  | leaf =>
    intro p i w ht hi _
    obtain rfl : p = none := ht
    obtain rfl : i = 0 := by simp [TT.list] at hi; exact hi
    have HX : Hid (Bp w w.heap.size x (w.alloc (.cells #[.int .i64 x.k, .int .i64 x.m] 29))) := Bp.new w x
    obtain ⟨x0, x1, hk⟩ := HX.out
    have HK : Keep [] w (w.alloc (.cells #[.int .i64 x.k, .int .i64 x.m] 29)) := hk.out
    clear hk
    have HT : Hid (∀ w9, Calls Try.prog 65 #[.pointer none, vP x, .pointer none] w9 fun e w' => ∃ p', e = .returned (.pointer p') ∧ IsT w' p' (.node .leaf x .leaf) ∧ Keep [] w9 w') := fun w9 =>
      branch_any none none .leaf .leaf x w9 rfl rfl (by simp [TT.list])
    go_enter Try.func49, Try.ntmps49
    go_wp2_with (go_at_call 65; refine (HT.out _).mono ?_; rintro e w7 ⟨p7, rfl, t7, k7⟩)
    go_ret
    exact ⟨p7, _, rfl, t7, rfl, HK.trans' k7⟩
  | node A y B ihA ihB =>
    intro p i w ht hi hs
    have HLen : (TT.node A y B).list.length = A.list.length + B.list.length + 1 := by simp [TT.list]; omega
    rw [HLen] at hi hs
    obtain ⟨b, pl, pr, rfl, hbb, hA, hB⟩ := ht
    obtain ⟨r0, r1, r2, r3, _⟩ := node_cells hbb
    have HX : Hid (Bp w w.heap.size x (w.alloc (.cells #[.int .i64 x.k, .int .i64 x.m] 29))) := Bp.new w x
    obtain ⟨x0, x1, hk⟩ := HX.out
    have HK : Keep [] w (w.alloc (.cells #[.int .i64 x.k, .int .i64 x.m] 29)) := hk.out
    clear hk
    have hbl : b < w.heap.size := (Array.getElem?_eq_some_iff.1 hbb).1
    have HBC : Cs [(⟨w.heap.size, 0, none⟩, .int .i64 x.k), (⟨w.heap.size, 1, none⟩, .int .i64 x.m), (⟨b, 0, none⟩, .int .i64 y.k), (⟨b, 1, none⟩, .int .i64 y.m), (⟨b, 2, none⟩, .pointer pl), (⟨b, 3, none⟩, .pointer pr)] w (w.alloc (.cells #[.int .i64 x.k, .int .i64 x.m] 29)) := ⟨x0, x1, HK.cell' r0 (by simp), HK.cell' r1 (by simp), HK.cell' r2 (by simp), HK.cell' r3 (by simp), HK⟩
    have HCA : Hid (∀ w9, Keep [] w w9 → Calls Try.prog 53 #[.pointer pl] w9 fun e w' => e = .returned (.int .i64 (A.list.length : Int)) ∧ w' = w9) := fun w9 k => count_any pl A w9 (hA.keep k)
    have HTT : Hid (IsT w pl A ∧ IsT w pr B) := ⟨hA, hB⟩
    by_cases hle : i ≤ A.list.length
    · have hlei : (i : Int) ≤ (A.list.length : Int) := by omega
      have HI : Hid (∀ w9, Keep [] w w9 → Calls Try.prog 49 #[.pointer pl, .int .i64 (i : Int), vP x] w9 fun e w' => ∃ p' T', e = .returned (.pointer p') ∧ IsT w' p' T' ∧ T'.list = insL A.list i x ∧ Keep [] w9 w') := fun w9 k =>
        ihA pl i w9 (hA.keep k) hle (by omega)
      have HBa : Hid (∀ p' T' w9, Keep [] w w9 → IsT w9 p' T' → T'.list = insL A.list i x → Calls Try.prog 66 #[.pointer p', vP y, .pointer pr] w9 fun e w' => ∃ p' T2, e = .returned (.pointer p') ∧ IsT w' p' T2 ∧ T2.list = insL (TT.node A y B).list i x ∧ Keep [] w9 w') := fun p' T' w9 k t' l' =>
        (balanced_any p' pr T' B y w9 t' (hB.keep k) (by rw [l', insL_len _ _ _ hle]; omega)).mono (by
          rintro e w' ⟨p2, T2, he, t2, l2, k2⟩
          exact ⟨p2, T2, he, t2, by rw [l2, l', insL_left _ _ _ _ _ hle]; rfl, k2⟩)
      clear ihA ihB hA hB hbb hi hs HLen
      go_enter Try.func49, Try.ntmps49
      go_wp2_with (go_at_call 53; refine (HCA.out _ HK).mono ?_; clear HCA; rintro e w5 ⟨rfl, rfl⟩)
      go_region_held3 (fun w' => w'.cell? ⟨w.heap.size, 0, none⟩ = some (.int .i64 x.k) ∧ w'.cell? ⟨w.heap.size, 1, none⟩ = some (.int .i64 x.m) ∧ w'.cell? ⟨b, 0, none⟩ = some (.int .i64 y.k) ∧ w'.cell? ⟨b, 1, none⟩ = some (.int .i64 y.m) ∧ w'.cell? ⟨b, 2, none⟩ = some (.pointer pl) ∧ w'.cell? ⟨b, 3, none⟩ = some (.pointer pr) ∧ Hid (Keep [] w w'))
        (first | assumption | exact Cs.drew (l := [(⟨w.heap.size, 0, none⟩, .int .i64 x.k), (⟨w.heap.size, 1, none⟩, .int .i64 x.m), (⟨b, 0, none⟩, .int .i64 y.k), (⟨b, 1, none⟩, .int .i64 y.m), (⟨b, 2, none⟩, .pointer pl), (⟨b, 3, none⟩, .pointer pr)]) HBC | exact Cs.alloc (l := [(⟨w.heap.size, 0, none⟩, .int .i64 x.k), (⟨w.heap.size, 1, none⟩, .int .i64 x.m), (⟨b, 0, none⟩, .int .i64 y.k), (⟨b, 1, none⟩, .int .i64 y.m), (⟨b, 2, none⟩, .pointer pl), (⟨b, 3, none⟩, .pointer pr)]) _ (by assumption) | exact Cs.more (l := [(⟨w.heap.size, 0, none⟩, .int .i64 x.k), (⟨w.heap.size, 1, none⟩, .int .i64 x.m), (⟨b, 0, none⟩, .int .i64 y.k), (⟨b, 1, none⟩, .int .i64 y.m), (⟨b, 2, none⟩, .pointer pl), (⟨b, 3, none⟩, .pointer pr)]) (by assumption) (by assumption))
        (first | (go_at_call 49; refine (HI.out _ ((show Cs [(⟨w.heap.size, 0, none⟩, .int .i64 x.k), (⟨w.heap.size, 1, none⟩, .int .i64 x.m), (⟨b, 0, none⟩, .int .i64 y.k), (⟨b, 1, none⟩, .int .i64 y.m), (⟨b, 2, none⟩, .pointer pl), (⟨b, 3, none⟩, .pointer pr)] w _ from by assumption).kp)).mono ?_; clear HI; rintro e w5 ⟨p5, T5, rfl, t5, l5, k5⟩) | (go_at_call 66; refine (HBa.out p5 T5 _ ((show Cs [(⟨w.heap.size, 0, none⟩, .int .i64 x.k), (⟨w.heap.size, 1, none⟩, .int .i64 x.m), (⟨b, 0, none⟩, .int .i64 y.k), (⟨b, 1, none⟩, .int .i64 y.m), (⟨b, 2, none⟩, .pointer pl), (⟨b, 3, none⟩, .pointer pr)] w _ from by assumption).kp) (t5.keep (by first | exact Keep.refl _ _ | exact (Keep.refl _ _).drew)) l5).mono ?_; rintro e w6 ⟨p6, T6, rfl, t6, l6, k6⟩))
      go_wp2
      go_ret
      exact ⟨p6, T6, rfl, t6.keep (by first | exact Keep.refl _ _ | exact (Keep.refl _ _).drew), l6, ((show Cs [(⟨w.heap.size, 0, none⟩, .int .i64 x.k), (⟨w.heap.size, 1, none⟩, .int .i64 x.m), (⟨b, 0, none⟩, .int .i64 y.k), (⟨b, 1, none⟩, .int .i64 y.m), (⟨b, 2, none⟩, .pointer pl), (⟨b, 3, none⟩, .pointer pr)] w _ from by assumption).kp)⟩
    · have hlt : A.list.length < i := by omega
      have hlti : (A.list.length : Int) < (i : Int) := by omega
      have hii : (i : Int) ≤ 1152921504606846976 := by omega
      have e1 : IntKind.i64.wrap (IntKind.i64.wrap ((i : Int) - (A.list.length : Int)) - 1) = ((i - A.list.length - 1 : Nat) : Int) := by
        rw [wrap_ok ((i : Int) - (A.list.length : Int)) (by omega) (by omega), wrap_ok _ (by omega) (by omega)]; omega
      have HI : Hid (∀ w9, Keep [] w w9 → Calls Try.prog 49 #[.pointer pr, .int .i64 (IntKind.i64.wrap (IntKind.i64.wrap ((i : Int) - (A.list.length : Int)) - 1)), vP x] w9 fun e w' => ∃ p' T', e = .returned (.pointer p') ∧ IsT w' p' T' ∧ T'.list = insL B.list (i - A.list.length - 1) x ∧ Keep [] w9 w') := by
        show ∀ w9, _
        rw [e1]
        exact fun w9 k => ihB pr (i - A.list.length - 1) w9 (hB.keep k) (by omega) (by omega)
      have HBa : Hid (∀ p' T' w9, Keep [] w w9 → IsT w9 p' T' → T'.list = insL B.list (i - A.list.length - 1) x → Calls Try.prog 66 #[.pointer pl, vP y, .pointer p'] w9 fun e w' => ∃ p' T2, e = .returned (.pointer p') ∧ IsT w' p' T2 ∧ T2.list = insL (TT.node A y B).list i x ∧ Keep [] w9 w') := fun p' T' w9 k t' l' =>
        (balanced_any pl p' A T' y w9 (hA.keep k) t' (by rw [l', insL_len _ _ _ (by omega)]; omega)).mono (by
          rintro e w' ⟨p2, T2, he, t2, l2, k2⟩
          exact ⟨p2, T2, he, t2, by rw [l2, l', insL_right _ _ _ _ _ hlt]; rfl, k2⟩)
      clear ihA ihB hA hB hbb hi hs HLen e1 hle
      go_enter Try.func49, Try.ntmps49
      go_wp2_with (go_at_call 53; refine (HCA.out _ HK).mono ?_; clear HCA; rintro e w5 ⟨rfl, rfl⟩)
      go_region_held3 (fun w' => w'.cell? ⟨w.heap.size, 0, none⟩ = some (.int .i64 x.k) ∧ w'.cell? ⟨w.heap.size, 1, none⟩ = some (.int .i64 x.m) ∧ w'.cell? ⟨b, 0, none⟩ = some (.int .i64 y.k) ∧ w'.cell? ⟨b, 1, none⟩ = some (.int .i64 y.m) ∧ w'.cell? ⟨b, 2, none⟩ = some (.pointer pl) ∧ w'.cell? ⟨b, 3, none⟩ = some (.pointer pr) ∧ Hid (Keep [] w w'))
        (first | assumption | exact Cs.drew (l := [(⟨w.heap.size, 0, none⟩, .int .i64 x.k), (⟨w.heap.size, 1, none⟩, .int .i64 x.m), (⟨b, 0, none⟩, .int .i64 y.k), (⟨b, 1, none⟩, .int .i64 y.m), (⟨b, 2, none⟩, .pointer pl), (⟨b, 3, none⟩, .pointer pr)]) HBC | exact Cs.alloc (l := [(⟨w.heap.size, 0, none⟩, .int .i64 x.k), (⟨w.heap.size, 1, none⟩, .int .i64 x.m), (⟨b, 0, none⟩, .int .i64 y.k), (⟨b, 1, none⟩, .int .i64 y.m), (⟨b, 2, none⟩, .pointer pl), (⟨b, 3, none⟩, .pointer pr)]) _ (by assumption) | exact Cs.more (l := [(⟨w.heap.size, 0, none⟩, .int .i64 x.k), (⟨w.heap.size, 1, none⟩, .int .i64 x.m), (⟨b, 0, none⟩, .int .i64 y.k), (⟨b, 1, none⟩, .int .i64 y.m), (⟨b, 2, none⟩, .pointer pl), (⟨b, 3, none⟩, .pointer pr)]) (by assumption) (by assumption))
        (first | (go_at_call 49; refine (HI.out _ ((show Cs [(⟨w.heap.size, 0, none⟩, .int .i64 x.k), (⟨w.heap.size, 1, none⟩, .int .i64 x.m), (⟨b, 0, none⟩, .int .i64 y.k), (⟨b, 1, none⟩, .int .i64 y.m), (⟨b, 2, none⟩, .pointer pl), (⟨b, 3, none⟩, .pointer pr)] w _ from by assumption).kp)).mono ?_; clear HI; rintro e w5 ⟨p5, T5, rfl, t5, l5, k5⟩) | (go_at_call 66; refine (HBa.out p5 T5 _ ((show Cs [(⟨w.heap.size, 0, none⟩, .int .i64 x.k), (⟨w.heap.size, 1, none⟩, .int .i64 x.m), (⟨b, 0, none⟩, .int .i64 y.k), (⟨b, 1, none⟩, .int .i64 y.m), (⟨b, 2, none⟩, .pointer pl), (⟨b, 3, none⟩, .pointer pr)] w _ from by assumption).kp) (t5.keep (by first | exact Keep.refl _ _ | exact (Keep.refl _ _).drew)) l5).mono ?_; rintro e w6 ⟨p6, T6, rfl, t6, l6, k6⟩))
      go_wp2
      go_ret
      exact ⟨p6, T6, rfl, t6.keep (by first | exact Keep.refl _ _ | exact (Keep.refl _ _).drew), l6, ((show Cs [(⟨w.heap.size, 0, none⟩, .int .i64 x.k), (⟨w.heap.size, 1, none⟩, .int .i64 x.m), (⟨b, 0, none⟩, .int .i64 y.k), (⟨b, 1, none⟩, .int .i64 y.m), (⟨b, 2, none⟩, .pointer pl), (⟨b, 3, none⟩, .pointer pr)] w _ from by assumption).kp)⟩

end Go.Proofs.Ytkelhglflpdpeaa
