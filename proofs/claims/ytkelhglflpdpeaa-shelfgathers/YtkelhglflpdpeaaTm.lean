/- Replace; first; remove. -/
import Derived.Test.YtkelhglflpdpeaaTb

namespace Go.Proofs.Ytkelhglflpdpeaa
open Go.RowKit Go.PlainAid


/-- the list with x in the place i -/
def setL (l : List Pr) (i : Nat) (x : Pr) : List Pr := l.take i ++ x :: l.drop (i + 1)
theorem setL_len (l : List Pr) (i : Nat) (x : Pr) (h : i < l.length) : (setL l i x).length = l.length := by simp [setL]; omega
theorem setL_left (l r : List Pr) (y : Pr) (i : Nat) (x : Pr) (h : i < l.length) : setL l i x ++ y :: r = setL (l ++ y :: r) i x := by
  simp [setL, List.take_append_of_le_length (Nat.le_of_lt h), List.drop_append_of_le_length (show i + 1 ≤ l.length by omega)]
theorem setL_mid (l r : List Pr) (y : Pr) (x : Pr) : l ++ x :: r = setL (l ++ y :: r) l.length x := by
  have := List.drop_length_add_append (l₁ := l) (l₂ := y :: r) (i := 1)
  simp only [setL, this]
  simp
theorem setL_right (l r : List Pr) (y : Pr) (i : Nat) (x : Pr) (h : l.length < i) : l ++ y :: setL r (i - l.length - 1) x = setL (l ++ y :: r) i x := by
  obtain ⟨j, rfl⟩ : ∃ j, i = l.length + (j + 1) := ⟨i - l.length - 1, by omega⟩
  have e : l.length + (j + 1) - l.length - 1 = j := by omega
  have e2 : l.length + (j + 1) + 1 = l.length + (j + 2) := by omega
  simp only [setL, e, e2, List.take_length_add_append, List.drop_length_add_append, List.take_succ_cons, List.drop_succ_cons]
  simp

set_option maxRecDepth 100000 in
set_option maxHeartbeats 2000000 in
theorem replace_any (x : Pr) (T : TT) : ∀ (p : Option Addr) (i : Nat) (w : World), IsT w p T → i < T.list.length → T.list.length + 2 ≤ 1152921504606846976 →
    Calls Try.prog 50 #[.pointer p, .int .i64 (i : Int), vP x] w fun e w' => ∃ p' T', e = .returned (.pointer p') ∧ IsT w' p' T' ∧ T'.list = setL T.list i x ∧ Keep [] w w' := by
  induction T with
  | leaf => intro p i w _ hi; simp [TT.list] at hi
  | node A y B ihA ihB =>
    intro p i w ht hi hs
    have HLen : (TT.node A y B).list.length = A.list.length + B.list.length + 1 := by simp [TT.list]; omega
    rw [HLen] at hi hs
    obtain ⟨b, pl, pr, rfl, hbb, hA, hB⟩ := ht
    obtain ⟨r0, r1, r2, r3, _⟩ := node_cells hbb
    have hbl : b < w.heap.size := (Array.getElem?_eq_some_iff.1 hbb).1
    have HCA : Hid (∀ w9, Keep [] w w9 → Calls Try.prog 53 #[.pointer pl] w9 fun e w' => e = .returned (.int .i64 (A.list.length : Int)) ∧ w' = w9) := fun w9 k => count_any pl A w9 (hA.keep k)
    have HX : Hid (Bp w w.heap.size x (w.alloc (.cells #[.int .i64 x.k, .int .i64 x.m] 29))) := Bp.new w x
    obtain ⟨x0, x1, hk⟩ := HX.out
    have HK : Keep [] w (w.alloc (.cells #[.int .i64 x.k, .int .i64 x.m] 29)) := hk.out
    clear hk
    have HBC : Cs [(⟨w.heap.size, 0, none⟩, .int .i64 x.k), (⟨w.heap.size, 1, none⟩, .int .i64 x.m), (⟨b, 0, none⟩, .int .i64 y.k), (⟨b, 1, none⟩, .int .i64 y.m), (⟨b, 2, none⟩, .pointer pl), (⟨b, 3, none⟩, .pointer pr)] w (w.alloc (.cells #[.int .i64 x.k, .int .i64 x.m] 29)) := ⟨x0, x1, HK.cell' r0 (by simp), HK.cell' r1 (by simp), HK.cell' r2 (by simp), HK.cell' r3 (by simp), HK⟩
    by_cases hle : i < A.list.length
    · have hlei : (i : Int) < (A.list.length : Int) := by omega
      have HI : Hid (∀ w9, Keep [] w w9 → Calls Try.prog 50 #[.pointer pl, .int .i64 (i : Int), vP x] w9 fun e w' => ∃ p' T', e = .returned (.pointer p') ∧ IsT w' p' T' ∧ T'.list = setL A.list i x ∧ Keep [] w9 w') := fun w9 k =>
        ihA pl i w9 (hA.keep k) hle (by omega)
      have HBa : Hid (∀ p' T' w9, Keep [] w w9 → IsT w9 p' T' → T'.list = setL A.list i x → Calls Try.prog 65 #[.pointer p', vP y, .pointer pr] w9 fun e w' => ∃ p' T2, e = .returned (.pointer p') ∧ IsT w' p' T2 ∧ T2.list = setL (TT.node A y B).list i x ∧ Keep [] w9 w') := fun p' T' w9 k t' l' =>
        (branch_any p' pr T' B y w9 t' (hB.keep k) (by rw [l', setL_len _ _ _ hle]; omega)).mono (by
          rintro e w' ⟨p2, he, t2, k2⟩
          exact ⟨p2, _, he, t2, by simp only [TT.list]; rw [l', setL_left _ _ _ _ _ hle], k2⟩)
      clear ihA ihB hA hB hbb hi hs HLen
      go_enter Try.func50, Try.ntmps50
      go_wp2_with (go_at_call 53; refine (HCA.out _ HK).mono ?_; clear HCA; rintro e w5 ⟨rfl, rfl⟩)
      go_region_held3 (fun w' => w'.cell? ⟨w.heap.size, 0, none⟩ = some (.int .i64 x.k) ∧ w'.cell? ⟨w.heap.size, 1, none⟩ = some (.int .i64 x.m) ∧ w'.cell? ⟨b, 0, none⟩ = some (.int .i64 y.k) ∧ w'.cell? ⟨b, 1, none⟩ = some (.int .i64 y.m) ∧ w'.cell? ⟨b, 2, none⟩ = some (.pointer pl) ∧ w'.cell? ⟨b, 3, none⟩ = some (.pointer pr) ∧ Hid (Keep [] w w'))
        (first | assumption | exact Cs.drew (l := [(⟨w.heap.size, 0, none⟩, .int .i64 x.k), (⟨w.heap.size, 1, none⟩, .int .i64 x.m), (⟨b, 0, none⟩, .int .i64 y.k), (⟨b, 1, none⟩, .int .i64 y.m), (⟨b, 2, none⟩, .pointer pl), (⟨b, 3, none⟩, .pointer pr)]) HBC | exact Cs.alloc (l := [(⟨w.heap.size, 0, none⟩, .int .i64 x.k), (⟨w.heap.size, 1, none⟩, .int .i64 x.m), (⟨b, 0, none⟩, .int .i64 y.k), (⟨b, 1, none⟩, .int .i64 y.m), (⟨b, 2, none⟩, .pointer pl), (⟨b, 3, none⟩, .pointer pr)]) _ (by assumption) | exact Cs.more (l := [(⟨w.heap.size, 0, none⟩, .int .i64 x.k), (⟨w.heap.size, 1, none⟩, .int .i64 x.m), (⟨b, 0, none⟩, .int .i64 y.k), (⟨b, 1, none⟩, .int .i64 y.m), (⟨b, 2, none⟩, .pointer pl), (⟨b, 3, none⟩, .pointer pr)]) (by assumption) (by assumption))
        (first | (go_at_call 50; refine (HI.out _ ((show Cs [(⟨w.heap.size, 0, none⟩, .int .i64 x.k), (⟨w.heap.size, 1, none⟩, .int .i64 x.m), (⟨b, 0, none⟩, .int .i64 y.k), (⟨b, 1, none⟩, .int .i64 y.m), (⟨b, 2, none⟩, .pointer pl), (⟨b, 3, none⟩, .pointer pr)] w _ from by assumption).kp)).mono ?_; clear HI; rintro e w5 ⟨p5, T5, rfl, t5, l5, k5⟩) | (go_at_call 65; refine (HBa.out p5 T5 _ ((show Cs [(⟨w.heap.size, 0, none⟩, .int .i64 x.k), (⟨w.heap.size, 1, none⟩, .int .i64 x.m), (⟨b, 0, none⟩, .int .i64 y.k), (⟨b, 1, none⟩, .int .i64 y.m), (⟨b, 2, none⟩, .pointer pl), (⟨b, 3, none⟩, .pointer pr)] w _ from by assumption).kp) (t5.keep (by first | exact Keep.refl _ _ | exact (Keep.refl _ _).drew)) l5).mono ?_; rintro e w6 ⟨p6, T6, rfl, t6, l6, k6⟩))
      go_wp2
      go_ret
      exact ⟨p6, T6, rfl, t6.keep (by first | exact Keep.refl _ _ | exact (Keep.refl _ _).drew), l6, ((show Cs [(⟨w.heap.size, 0, none⟩, .int .i64 x.k), (⟨w.heap.size, 1, none⟩, .int .i64 x.m), (⟨b, 0, none⟩, .int .i64 y.k), (⟨b, 1, none⟩, .int .i64 y.m), (⟨b, 2, none⟩, .pointer pl), (⟨b, 3, none⟩, .pointer pr)] w _ from by assumption).kp)⟩
    · by_cases hgt : A.list.length < i
      · have hlti : (A.list.length : Int) < (i : Int) := by omega
        have hii : (i : Int) ≤ 1152921504606846976 := by omega
        have e1 : IntKind.i64.wrap (IntKind.i64.wrap ((i : Int) - (A.list.length : Int)) - 1) = ((i - A.list.length - 1 : Nat) : Int) := by
          rw [wrap_ok ((i : Int) - (A.list.length : Int)) (by omega) (by omega), wrap_ok _ (by omega) (by omega)]; omega
        have HI : Hid (∀ w9, Keep [] w w9 → Calls Try.prog 50 #[.pointer pr, .int .i64 (IntKind.i64.wrap (IntKind.i64.wrap ((i : Int) - (A.list.length : Int)) - 1)), vP x] w9 fun e w' => ∃ p' T', e = .returned (.pointer p') ∧ IsT w' p' T' ∧ T'.list = setL B.list (i - A.list.length - 1) x ∧ Keep [] w9 w') := by
          show ∀ w9, _
          rw [e1]
          exact fun w9 k => ihB pr (i - A.list.length - 1) w9 (hB.keep k) (by omega) (by omega)
        have HBa : Hid (∀ p' T' w9, Keep [] w w9 → IsT w9 p' T' → T'.list = setL B.list (i - A.list.length - 1) x → Calls Try.prog 65 #[.pointer pl, vP y, .pointer p'] w9 fun e w' => ∃ p' T2, e = .returned (.pointer p') ∧ IsT w' p' T2 ∧ T2.list = setL (TT.node A y B).list i x ∧ Keep [] w9 w') := fun p' T' w9 k t' l' =>
          (branch_any pl p' A T' y w9 (hA.keep k) t' (by rw [l', setL_len _ _ _ (by omega)]; omega)).mono (by
            rintro e w' ⟨p2, he, t2, k2⟩
            exact ⟨p2, _, he, t2, by simp only [TT.list]; rw [l', setL_right _ _ _ _ _ hgt], k2⟩)
        clear ihA ihB hA hB hbb hi hs HLen e1 hle
        go_enter Try.func50, Try.ntmps50
        go_wp2_with (go_at_call 53; refine (HCA.out _ HK).mono ?_; clear HCA; rintro e w5 ⟨rfl, rfl⟩)
        go_region_held3 (fun w' => w'.cell? ⟨w.heap.size, 0, none⟩ = some (.int .i64 x.k) ∧ w'.cell? ⟨w.heap.size, 1, none⟩ = some (.int .i64 x.m) ∧ w'.cell? ⟨b, 0, none⟩ = some (.int .i64 y.k) ∧ w'.cell? ⟨b, 1, none⟩ = some (.int .i64 y.m) ∧ w'.cell? ⟨b, 2, none⟩ = some (.pointer pl) ∧ w'.cell? ⟨b, 3, none⟩ = some (.pointer pr) ∧ Hid (Keep [] w w'))
          (first | assumption | exact Cs.drew (l := [(⟨w.heap.size, 0, none⟩, .int .i64 x.k), (⟨w.heap.size, 1, none⟩, .int .i64 x.m), (⟨b, 0, none⟩, .int .i64 y.k), (⟨b, 1, none⟩, .int .i64 y.m), (⟨b, 2, none⟩, .pointer pl), (⟨b, 3, none⟩, .pointer pr)]) HBC | exact Cs.alloc (l := [(⟨w.heap.size, 0, none⟩, .int .i64 x.k), (⟨w.heap.size, 1, none⟩, .int .i64 x.m), (⟨b, 0, none⟩, .int .i64 y.k), (⟨b, 1, none⟩, .int .i64 y.m), (⟨b, 2, none⟩, .pointer pl), (⟨b, 3, none⟩, .pointer pr)]) _ (by assumption) | exact Cs.more (l := [(⟨w.heap.size, 0, none⟩, .int .i64 x.k), (⟨w.heap.size, 1, none⟩, .int .i64 x.m), (⟨b, 0, none⟩, .int .i64 y.k), (⟨b, 1, none⟩, .int .i64 y.m), (⟨b, 2, none⟩, .pointer pl), (⟨b, 3, none⟩, .pointer pr)]) (by assumption) (by assumption))
          (first | (go_at_call 50; refine (HI.out _ ((show Cs [(⟨w.heap.size, 0, none⟩, .int .i64 x.k), (⟨w.heap.size, 1, none⟩, .int .i64 x.m), (⟨b, 0, none⟩, .int .i64 y.k), (⟨b, 1, none⟩, .int .i64 y.m), (⟨b, 2, none⟩, .pointer pl), (⟨b, 3, none⟩, .pointer pr)] w _ from by assumption).kp)).mono ?_; clear HI; rintro e w5 ⟨p5, T5, rfl, t5, l5, k5⟩) | (go_at_call 65; refine (HBa.out p5 T5 _ ((show Cs [(⟨w.heap.size, 0, none⟩, .int .i64 x.k), (⟨w.heap.size, 1, none⟩, .int .i64 x.m), (⟨b, 0, none⟩, .int .i64 y.k), (⟨b, 1, none⟩, .int .i64 y.m), (⟨b, 2, none⟩, .pointer pl), (⟨b, 3, none⟩, .pointer pr)] w _ from by assumption).kp) (t5.keep (by first | exact Keep.refl _ _ | exact (Keep.refl _ _).drew)) l5).mono ?_; rintro e w6 ⟨p6, T6, rfl, t6, l6, k6⟩))
        go_wp2
        go_ret
        exact ⟨p6, T6, rfl, t6.keep (by first | exact Keep.refl _ _ | exact (Keep.refl _ _).drew), l6, ((show Cs [(⟨w.heap.size, 0, none⟩, .int .i64 x.k), (⟨w.heap.size, 1, none⟩, .int .i64 x.m), (⟨b, 0, none⟩, .int .i64 y.k), (⟨b, 1, none⟩, .int .i64 y.m), (⟨b, 2, none⟩, .pointer pl), (⟨b, 3, none⟩, .pointer pr)] w _ from by assumption).kp)⟩
      · obtain rfl : i = A.list.length := by omega
        have HBa : Hid (∀ w9, Keep [] w w9 → Calls Try.prog 65 #[.pointer pl, vP x, .pointer pr] w9 fun e w' => ∃ p' T2, e = .returned (.pointer p') ∧ IsT w' p' T2 ∧ T2.list = setL (TT.node A y B).list A.list.length x ∧ Keep [] w9 w') := fun w9 k =>
          (branch_any pl pr A B x w9 (hA.keep k) (hB.keep k) (by omega)).mono (by
            rintro e w' ⟨p2, he, t2, k2⟩
            exact ⟨p2, _, he, t2, by simp only [TT.list]; rw [← setL_mid], k2⟩)
        clear ihA ihB hA hB hbb hi hs HLen hle hgt
        go_enter Try.func50, Try.ntmps50
        go_wp2_with (go_at_call 53; refine (HCA.out _ HK).mono ?_; clear HCA; rintro e w5 ⟨rfl, rfl⟩)
        go_region_held3 (fun w' => w'.cell? ⟨w.heap.size, 0, none⟩ = some (.int .i64 x.k) ∧ w'.cell? ⟨w.heap.size, 1, none⟩ = some (.int .i64 x.m) ∧ w'.cell? ⟨b, 0, none⟩ = some (.int .i64 y.k) ∧ w'.cell? ⟨b, 1, none⟩ = some (.int .i64 y.m) ∧ w'.cell? ⟨b, 2, none⟩ = some (.pointer pl) ∧ w'.cell? ⟨b, 3, none⟩ = some (.pointer pr) ∧ Hid (Keep [] w w'))
          (first | assumption | exact Cs.drew (l := [(⟨w.heap.size, 0, none⟩, .int .i64 x.k), (⟨w.heap.size, 1, none⟩, .int .i64 x.m), (⟨b, 0, none⟩, .int .i64 y.k), (⟨b, 1, none⟩, .int .i64 y.m), (⟨b, 2, none⟩, .pointer pl), (⟨b, 3, none⟩, .pointer pr)]) HBC | exact Cs.alloc (l := [(⟨w.heap.size, 0, none⟩, .int .i64 x.k), (⟨w.heap.size, 1, none⟩, .int .i64 x.m), (⟨b, 0, none⟩, .int .i64 y.k), (⟨b, 1, none⟩, .int .i64 y.m), (⟨b, 2, none⟩, .pointer pl), (⟨b, 3, none⟩, .pointer pr)]) _ (by assumption) | exact Cs.more (l := [(⟨w.heap.size, 0, none⟩, .int .i64 x.k), (⟨w.heap.size, 1, none⟩, .int .i64 x.m), (⟨b, 0, none⟩, .int .i64 y.k), (⟨b, 1, none⟩, .int .i64 y.m), (⟨b, 2, none⟩, .pointer pl), (⟨b, 3, none⟩, .pointer pr)]) (by assumption) (by assumption))
          (first | (go_at_call 65; refine (HBa.out _ ((show Cs [(⟨w.heap.size, 0, none⟩, .int .i64 x.k), (⟨w.heap.size, 1, none⟩, .int .i64 x.m), (⟨b, 0, none⟩, .int .i64 y.k), (⟨b, 1, none⟩, .int .i64 y.m), (⟨b, 2, none⟩, .pointer pl), (⟨b, 3, none⟩, .pointer pr)] w _ from by assumption).kp)).mono ?_; rintro e w6 ⟨p6, T6, rfl, t6, l6, k6⟩))
        go_wp2
        go_ret
        exact ⟨p6, T6, rfl, t6.keep (by first | exact Keep.refl _ _ | exact (Keep.refl _ _).drew), l6, ((show Cs [(⟨w.heap.size, 0, none⟩, .int .i64 x.k), (⟨w.heap.size, 1, none⟩, .int .i64 x.m), (⟨b, 0, none⟩, .int .i64 y.k), (⟨b, 1, none⟩, .int .i64 y.m), (⟨b, 2, none⟩, .pointer pl), (⟨b, 3, none⟩, .pointer pr)] w _ from by assumption).kp)⟩

/-- the size that a node tells -/
def szOf (w : World) : Value → Nat
  | .pointer (some a) => match w.cell? ⟨a.block, 4, none⟩ with
    | some (.int _ n) => n.toNat
    | _ => 0
  | _ => 0
theorem IsT.sz {w : World} {p : Option Addr} {T : TT} (h : IsT w p T) : szOf w (.pointer p) = T.list.length := by
  cases T with
  | leaf => obtain rfl : p = none := h; rfl
  | node l x r =>
    obtain ⟨b, pl, pr, rfl, hb, _, _⟩ := h
    have c4 := (node_cells hb).2.2.2.2
    simp only [szOf, c4, TT.list, List.length_append, List.length_cons]
    omega

set_option maxRecDepth 100000 in
set_option maxHeartbeats 2000000 in
theorem first_any (p : Option Addr) (A B : TT) (y : Pr) (w : World) (h : IsT w p (.node A y B)) : Calls Try.prog 67 #[.pointer p] w fun e w' => ∃ z, e = .returned (vP z) ∧ (TT.node A y B).list.head? = some z ∧ Keep [] w w' := by
  have HT : Hid (IsT w p (.node A y B)) := h
  clear h
  go_enter Try.func67, Try.ntmps67
  go_wp2
  go_loopw [0] (fun pv wr => wr = w.alloc (.cells #[.int .i64 0, .int .i64 0] 29) ∧ Hid (∃ q A' y' B', pv = .pointer q ∧ IsT w q (.node A' y' B') ∧ (TT.node A' y' B').list.head? = (TT.node A y B).list.head?)) (fun pv wr => szOf wr pv)
  case atStart => exact ⟨rfl, p, A, y, B, rfl, HT.out, rfl⟩
  case round =>
    obtain ⟨rfl, HR⟩ := hrel
    obtain ⟨q, A', y', B', rfl, ht, hh⟩ := HR.out
    have hsz := (ht.keep (Keep.alloc1 w (.cells #[.int .i64 0, .int .i64 0] 29))).sz
    obtain ⟨b, pl, pr, rfl, hbb, hA, hB⟩ := ht
    have hbl : b < w.heap.size := (Array.getElem?_eq_some_iff.1 hbb).1
    obtain ⟨r0, r1, r2, r3, _⟩ := node_cells hbb
    have HSZ : Hid (type_of% hsz) := hsz
    have HA : Hid (IsT w pl A') := hA
    have HH : Hid (type_of% hh) := hh
    cases A' with
    | leaf =>
      obtain rfl : pl = none := hA
      clear hB hbb hsz hh HR
      go_wp2
      refine bodyPost_ret (v := vP y') (by simp [results, Try.results67, go_sem]) rfl ?_
      exact ⟨y', rfl, by rw [← HH.out]; rfl, Keep.alloc1 _ _⟩
    | node A2 y2 B2 =>
      obtain ⟨b2, p2, q2, rfl, hb2, hA2, hB2⟩ := hA
      clear hA2 hB2 hB hbb hsz hh HR hb2
      go_wp2
      go_roundw
      case rel => exact ⟨trivial, _, A2, y2, B2, rfl, HA.out, by rw [← HH.out]; simp [TT.list]⟩
      case measure =>
        rw [HSZ.out, (HA.out.keep (Keep.alloc1 w (.cells #[.int .i64 0, .int .i64 0] 29))).sz]
        simp [TT.list]

end Go.Proofs.Ytkelhglflpdpeaa
