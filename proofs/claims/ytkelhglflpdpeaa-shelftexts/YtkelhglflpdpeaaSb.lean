/- Texts in a tree: ts. -/
import Derived.Test.YtkelhglflpdpeaaSa

namespace Go.Proofs.Ytkelhglflpdpeaa
open Go.RowKit Go.PlainAid

/-- the contract of branch, at whatever world comes later -/
def BrS (w : World) : Prop := ∀ (pl pr : Option Addr) (L R : TS) (x : St) (w9 : World), Keep [] w w9 → IsS w9 pl L → IsS w9 pr R → L.list.length + R.list.length ≤ 1152921504606846976 →
    Calls Try.prog 73 #[.pointer pl, vT x, .pointer pr] w9 fun e w' => ∃ p', e = .returned (.pointer p') ∧ IsS w' p' (.node L x R) ∧ Keep [] w9 w'
theorem brS (w : World) : BrS w := fun pl pr L R x w9 _ hl hr hs => sbranch_any pl pr L R x w9 hl hr hs

/-- the elements' cells of a node, and what lies behind -/
theorem Cs.nodeS {w w1 : World} {b : Nat} {y : St} {pl pr : Option Addr} {n : Int} {l : List (Addr × Value)} (h : w.heap[b]? = some (nodeS y pl pr n)) (k : Keep [] w w1) (hl : Cs l w w1) :
    Cs ((⟨b, 0, none⟩, .string y) :: (⟨b, 1, none⟩, .pointer pl) :: (⟨b, 2, none⟩, .pointer pr) :: l) w w1 := by
  obtain ⟨c0, c1, c2, _⟩ := nodeS_cells h
  exact ⟨k.cell' c0 (by simp), k.cell' c1 (by simp), k.cell' c2 (by simp), hl⟩

set_option maxRecDepth 100000 in
set_option maxHeartbeats 2000000 in
theorem sturnedL_any (pa : Option Addr) (b : Nat) (pi po : Option Addr) (A I O : TS) (x y : St) (w : World) (nn : Int) (ha : IsS w pa A) (hb : w.heap[b]? = some (nodeS y pi po nn)) (hi : IsS w pi I) (ho : IsS w po O)
    (hs : A.list.length + I.list.length + O.list.length + 2 ≤ 1152921504606846976) :
    Calls Try.prog 82 #[.pointer pa, vT x, .pointer (some ⟨b, 0, none⟩)] w fun e w' => ∃ p' T', e = .returned (.pointer p') ∧ IsS w' p' T' ∧ T'.list = A.list ++ x :: (I.list ++ y :: O.list) ∧ Keep [] w w' := by
  obtain ⟨r0, r1, r2, _⟩ := nodeS_cells hb
  have HWI : Hid (∀ w9, Keep [] w w9 → Calls Try.prog 81 #[.pointer pi] w9 fun e w' => e = .returned (.int .i64 ((I.list.length : Int) + 1)) ∧ w' = w9) := fun w9 k => sweight_any pi I w9 (hi.keep k) (by omega)
  have HWO : Hid (∀ w9, Keep [] w w9 → Calls Try.prog 81 #[.pointer po] w9 fun e w' => e = .returned (.int .i64 ((O.list.length : Int) + 1)) ∧ w' = w9) := fun w9 k => sweight_any po O w9 (ho.keep k) (by omega)
  have HBR : Hid (BrS w) := brS w
  have HB1 : Hid (BrS w) := brS w
  have HB2 : Hid (BrS w) := brS w
  have HT : Hid (IsS w pa A ∧ IsS w pi I ∧ IsS w po O) := ⟨ha, hi, ho⟩
  have HS : Hid (A.list.length + I.list.length + O.list.length + 2 ≤ 1152921504606846976) := hs
  have hbl : b < w.heap.size := (Array.getElem?_eq_some_iff.1 hb).1
  have h0 : (0 : Int) ≤ (I.list.length : Int) := by omega
  have h1 : (0 : Int) ≤ (O.list.length : Int) := by omega
  have h2 : (I.list.length : Int) ≤ 1152921504606846976 := by omega
  have h3 : (O.list.length : Int) ≤ 1152921504606846976 := by omega
  have HB0 : Hid (w.heap[b]? = some (nodeS y pi po nn)) := hb
  clear ha hb ho hs
  by_cases hc : (I.list.length : Int) + 1 < 2 * ((O.list.length : Int) + 1)
  · clear hi
    go_enter Try.func82, Try.ntmps82
    go_wp2
    have HBC : Cs [(⟨b, 0, none⟩, .string y), (⟨b, 1, none⟩, .pointer pi), (⟨b, 2, none⟩, .pointer po)] w w := ⟨r0, r1, r2, Keep.refl _ _⟩
    go_region_held3 (fun w' => w'.cell? ⟨b, 0, none⟩ = some (.string y) ∧ w'.cell? ⟨b, 1, none⟩ = some (.pointer pi) ∧ w'.cell? ⟨b, 2, none⟩ = some (.pointer po) ∧ Hid (Keep [] w w'))
      (first | assumption | exact Cs.drew (l := [(⟨b, 0, none⟩, .string y), (⟨b, 1, none⟩, .pointer pi), (⟨b, 2, none⟩, .pointer po)]) HBC | exact Cs.alloc (l := [(⟨b, 0, none⟩, .string y), (⟨b, 1, none⟩, .pointer pi), (⟨b, 2, none⟩, .pointer po)]) _ (by assumption) | exact Cs.more (l := [(⟨b, 0, none⟩, .string y), (⟨b, 1, none⟩, .pointer pi), (⟨b, 2, none⟩, .pointer po)]) (by assumption) (by assumption))
      (fail)
    rename_i hR1
    have hK1 := Cs.kp (l := [(⟨b, 0, none⟩, .string y), (⟨b, 1, none⟩, .pointer pi), (⟨b, 2, none⟩, .pointer po)]) hR1
    go_wp2_with (first | (go_at_call 81; refine (HWI.out _ hK1).mono ?_; clear HWI; rintro e w5 ⟨rfl, rfl⟩) | (go_at_call 81; refine (HWO.out _ hK1).mono ?_; clear HWO; rintro e w6 ⟨rfl, rfl⟩))
    clear hK1
    go_region_held3 (fun w' => w'.cell? ⟨b, 0, none⟩ = some (.string y) ∧ w'.cell? ⟨b, 1, none⟩ = some (.pointer pi) ∧ w'.cell? ⟨b, 2, none⟩ = some (.pointer po) ∧ Hid (Keep [] w w'))
      (first | assumption | exact Cs.drew (l := [(⟨b, 0, none⟩, .string y), (⟨b, 1, none⟩, .pointer pi), (⟨b, 2, none⟩, .pointer po)]) hR1 | exact Cs.alloc (l := [(⟨b, 0, none⟩, .string y), (⟨b, 1, none⟩, .pointer pi), (⟨b, 2, none⟩, .pointer po)]) _ (by assumption) | exact Cs.more (l := [(⟨b, 0, none⟩, .string y), (⟨b, 1, none⟩, .pointer pi), (⟨b, 2, none⟩, .pointer po)]) (by assumption) (by assumption))
      (first | (go_at_call 73; refine (HB1.out pa pi A I x _ ((show Cs [(⟨b, 0, none⟩, .string y), (⟨b, 1, none⟩, .pointer pi), (⟨b, 2, none⟩, .pointer po)] w _ from by assumption).kp) (HT.out.1.keep ((show Cs [(⟨b, 0, none⟩, .string y), (⟨b, 1, none⟩, .pointer pi), (⟨b, 2, none⟩, .pointer po)] w _ from by assumption).kp)) (HT.out.2.1.keep ((show Cs [(⟨b, 0, none⟩, .string y), (⟨b, 1, none⟩, .pointer pi), (⟨b, 2, none⟩, .pointer po)] w _ from by assumption).kp)) (by have := HS.out; omega)).mono ?_; clear HB1; rintro e w5 ⟨p5, rfl, t5, k5⟩) | (go_at_call 73; refine (HBR.out p5 po (.node A x I) O y _ ((show Cs [(⟨b, 0, none⟩, .string y), (⟨b, 1, none⟩, .pointer pi), (⟨b, 2, none⟩, .pointer po)] w _ from by assumption).kp) (t5.keep (by first | exact Keep.refl _ _ | exact (Keep.refl _ _).drew)) (HT.out.2.2.keep ((show Cs [(⟨b, 0, none⟩, .string y), (⟨b, 1, none⟩, .pointer pi), (⟨b, 2, none⟩, .pointer po)] w _ from by assumption).kp)) (by have := HS.out; simp [TS.list]; omega)).mono ?_; rintro e w6 ⟨p6, rfl, t6, k6⟩))
    go_wp2
    go_ret
    refine ⟨p6, .node (.node A x I) y O, rfl, t6.keep (by first | exact Keep.refl _ _ | exact (Keep.refl _ _).drew), by simp [TS.list], (show Cs [(⟨b, 0, none⟩, .string y), (⟨b, 1, none⟩, .pointer pi), (⟨b, 2, none⟩, .pointer po)] w _ from by assumption).kp⟩
  · cases I with
    | leaf => simp [TS.list] at hc; omega
    | node I1 z I2 =>
      obtain ⟨bi, q1, q2, rfl, hbi, hi1, hi2⟩ := hi
      obtain ⟨i0, i1, i2, _⟩ := nodeS_cells hbi
      have HI : Hid (IsS w q1 I1 ∧ IsS w q2 I2) := ⟨hi1, hi2⟩
      have HBI : Hid (w.heap[bi]? = some (nodeS z q1 q2 ((I1.list.length + I2.list.length + 1 : Nat) : Int))) := hbi
      have HSI : Hid ((TS.node I1 z I2).list.length = I1.list.length + I2.list.length + 1) := by show _ = _; simp [TS.list]; omega
      clear hbi hi1 hi2
      go_enter Try.func82, Try.ntmps82
      go_wp2
      have HBC : Cs [(⟨b, 0, none⟩, .string y), (⟨b, 1, none⟩, .pointer (some ⟨bi, 0, none⟩)), (⟨b, 2, none⟩, .pointer po), (⟨bi, 0, none⟩, .string z), (⟨bi, 1, none⟩, .pointer q1), (⟨bi, 2, none⟩, .pointer q2)] w w := ⟨r0, r1, r2, i0, i1, i2, Keep.refl _ _⟩
      go_region_held3 (fun w' => w'.cell? ⟨b, 0, none⟩ = some (.string y) ∧ w'.cell? ⟨b, 1, none⟩ = some (.pointer (some ⟨bi, 0, none⟩)) ∧ w'.cell? ⟨b, 2, none⟩ = some (.pointer po) ∧ w'.cell? ⟨bi, 0, none⟩ = some (.string z) ∧ w'.cell? ⟨bi, 1, none⟩ = some (.pointer q1) ∧ w'.cell? ⟨bi, 2, none⟩ = some (.pointer q2) ∧ Hid (Keep [] w w'))
        (first | assumption | exact Cs.drew (l := [(⟨b, 0, none⟩, .string y), (⟨b, 1, none⟩, .pointer (some ⟨bi, 0, none⟩)), (⟨b, 2, none⟩, .pointer po), (⟨bi, 0, none⟩, .string z), (⟨bi, 1, none⟩, .pointer q1), (⟨bi, 2, none⟩, .pointer q2)]) HBC | exact Cs.alloc (l := [(⟨b, 0, none⟩, .string y), (⟨b, 1, none⟩, .pointer (some ⟨bi, 0, none⟩)), (⟨b, 2, none⟩, .pointer po), (⟨bi, 0, none⟩, .string z), (⟨bi, 1, none⟩, .pointer q1), (⟨bi, 2, none⟩, .pointer q2)]) _ (by assumption) | exact Cs.more (l := [(⟨b, 0, none⟩, .string y), (⟨b, 1, none⟩, .pointer (some ⟨bi, 0, none⟩)), (⟨b, 2, none⟩, .pointer po), (⟨bi, 0, none⟩, .string z), (⟨bi, 1, none⟩, .pointer q1), (⟨bi, 2, none⟩, .pointer q2)]) (by assumption) (by assumption))
        (fail)
      rename_i hR1
      have hK1 := Cs.kp (l := [(⟨b, 0, none⟩, .string y), (⟨b, 1, none⟩, .pointer (some ⟨bi, 0, none⟩)), (⟨b, 2, none⟩, .pointer po), (⟨bi, 0, none⟩, .string z), (⟨bi, 1, none⟩, .pointer q1), (⟨bi, 2, none⟩, .pointer q2)]) hR1
      go_wp2_with (first | (go_at_call 81; refine (HWI.out _ hK1).mono ?_; clear HWI; rintro e w5 ⟨rfl, rfl⟩) | (go_at_call 81; refine (HWO.out _ hK1).mono ?_; clear HWO; rintro e w6 ⟨rfl, rfl⟩))
      clear hK1
      go_region_held3 (fun w' => w'.cell? ⟨b, 0, none⟩ = some (.string y) ∧ w'.cell? ⟨b, 1, none⟩ = some (.pointer (some ⟨bi, 0, none⟩)) ∧ w'.cell? ⟨b, 2, none⟩ = some (.pointer po) ∧ w'.cell? ⟨bi, 0, none⟩ = some (.string z) ∧ w'.cell? ⟨bi, 1, none⟩ = some (.pointer q1) ∧ w'.cell? ⟨bi, 2, none⟩ = some (.pointer q2) ∧ Hid (Keep [] w w'))
        (first | assumption | exact Cs.drew (l := [(⟨b, 0, none⟩, .string y), (⟨b, 1, none⟩, .pointer (some ⟨bi, 0, none⟩)), (⟨b, 2, none⟩, .pointer po), (⟨bi, 0, none⟩, .string z), (⟨bi, 1, none⟩, .pointer q1), (⟨bi, 2, none⟩, .pointer q2)]) hR1 | exact Cs.alloc (l := [(⟨b, 0, none⟩, .string y), (⟨b, 1, none⟩, .pointer (some ⟨bi, 0, none⟩)), (⟨b, 2, none⟩, .pointer po), (⟨bi, 0, none⟩, .string z), (⟨bi, 1, none⟩, .pointer q1), (⟨bi, 2, none⟩, .pointer q2)]) _ (by assumption) | exact Cs.more (l := [(⟨b, 0, none⟩, .string y), (⟨b, 1, none⟩, .pointer (some ⟨bi, 0, none⟩)), (⟨b, 2, none⟩, .pointer po), (⟨bi, 0, none⟩, .string z), (⟨bi, 1, none⟩, .pointer q1), (⟨bi, 2, none⟩, .pointer q2)]) (by assumption) (by assumption))
        (first | (go_at_call 73; refine (HB1.out pa q1 A I1 x _ ((show Cs [(⟨b, 0, none⟩, .string y), (⟨b, 1, none⟩, .pointer (some ⟨bi, 0, none⟩)), (⟨b, 2, none⟩, .pointer po), (⟨bi, 0, none⟩, .string z), (⟨bi, 1, none⟩, .pointer q1), (⟨bi, 2, none⟩, .pointer q2)] w _ from by assumption).kp) (HT.out.1.keep ((show Cs [(⟨b, 0, none⟩, .string y), (⟨b, 1, none⟩, .pointer (some ⟨bi, 0, none⟩)), (⟨b, 2, none⟩, .pointer po), (⟨bi, 0, none⟩, .string z), (⟨bi, 1, none⟩, .pointer q1), (⟨bi, 2, none⟩, .pointer q2)] w _ from by assumption).kp)) (HI.out.1.keep ((show Cs [(⟨b, 0, none⟩, .string y), (⟨b, 1, none⟩, .pointer (some ⟨bi, 0, none⟩)), (⟨b, 2, none⟩, .pointer po), (⟨bi, 0, none⟩, .string z), (⟨bi, 1, none⟩, .pointer q1), (⟨bi, 2, none⟩, .pointer q2)] w _ from by assumption).kp)) (by have := HS.out; have := HSI.out; omega)).mono ?_; clear HB1; rintro e w5 ⟨p5, rfl, t5, k5⟩) | (go_at_call 73; refine (HB2.out q2 po I2 O y _ ((show Cs [(⟨b, 0, none⟩, .string y), (⟨b, 1, none⟩, .pointer (some ⟨bi, 0, none⟩)), (⟨b, 2, none⟩, .pointer po), (⟨bi, 0, none⟩, .string z), (⟨bi, 1, none⟩, .pointer q1), (⟨bi, 2, none⟩, .pointer q2)] w _ from by assumption).kp) (HI.out.2.keep ((show Cs [(⟨b, 0, none⟩, .string y), (⟨b, 1, none⟩, .pointer (some ⟨bi, 0, none⟩)), (⟨b, 2, none⟩, .pointer po), (⟨bi, 0, none⟩, .string z), (⟨bi, 1, none⟩, .pointer q1), (⟨bi, 2, none⟩, .pointer q2)] w _ from by assumption).kp)) (HT.out.2.2.keep ((show Cs [(⟨b, 0, none⟩, .string y), (⟨b, 1, none⟩, .pointer (some ⟨bi, 0, none⟩)), (⟨b, 2, none⟩, .pointer po), (⟨bi, 0, none⟩, .string z), (⟨bi, 1, none⟩, .pointer q1), (⟨bi, 2, none⟩, .pointer q2)] w _ from by assumption).kp)) (by have := HS.out; have := HSI.out; omega)).mono ?_; clear HB2; rintro e w6 ⟨p6, rfl, t6, k6⟩) | (go_at_call 73; refine (HBR.out p5 p6 (.node A x I1) (.node I2 y O) z _ ((show Cs [(⟨b, 0, none⟩, .string y), (⟨b, 1, none⟩, .pointer (some ⟨bi, 0, none⟩)), (⟨b, 2, none⟩, .pointer po), (⟨bi, 0, none⟩, .string z), (⟨bi, 1, none⟩, .pointer q1), (⟨bi, 2, none⟩, .pointer q2)] w _ from by assumption).kp) (t5.keep (by first | exact k6 | exact (Keep.refl _ _).drew.trans' k6 | exact k6.drew | exact ((Keep.refl _ _).drew.trans' k6).drew)) (t6.keep (by first | exact Keep.refl _ _ | exact (Keep.refl _ _).drew)) (by have := HS.out; have := HSI.out; simp [TS.list]; omega)).mono ?_; rintro e w7 ⟨p7, rfl, t7, k7⟩))
      go_wp2
      go_ret
      refine ⟨p7, .node (.node A x I1) z (.node I2 y O), rfl, t7.keep (by first | exact Keep.refl _ _ | exact (Keep.refl _ _).drew), by simp [TS.list], (show Cs [(⟨b, 0, none⟩, .string y), (⟨b, 1, none⟩, .pointer (some ⟨bi, 0, none⟩)), (⟨b, 2, none⟩, .pointer po), (⟨bi, 0, none⟩, .string z), (⟨bi, 1, none⟩, .pointer q1), (⟨bi, 2, none⟩, .pointer q2)] w _ from by assumption).kp⟩

set_option maxRecDepth 100000 in
set_option maxHeartbeats 2000000 in
theorem sturnedR_any (pa : Option Addr) (b : Nat) (pi po : Option Addr) (A I O : TS) (x y : St) (w : World) (nn : Int) (ha : IsS w pa A) (hb : w.heap[b]? = some (nodeS y po pi nn)) (hi : IsS w pi I) (ho : IsS w po O)
    (hs : A.list.length + I.list.length + O.list.length + 2 ≤ 1152921504606846976) :
    Calls Try.prog 83 #[.pointer (some ⟨b, 0, none⟩), vT x, .pointer pa] w fun e w' => ∃ p' T', e = .returned (.pointer p') ∧ IsS w' p' T' ∧ T'.list = (O.list ++ y :: I.list) ++ x :: A.list ∧ Keep [] w w' := by
  obtain ⟨r0, r1, r2, _⟩ := nodeS_cells hb
  have HWI : Hid (∀ w9, Keep [] w w9 → Calls Try.prog 81 #[.pointer pi] w9 fun e w' => e = .returned (.int .i64 ((I.list.length : Int) + 1)) ∧ w' = w9) := fun w9 k => sweight_any pi I w9 (hi.keep k) (by omega)
  have HWO : Hid (∀ w9, Keep [] w w9 → Calls Try.prog 81 #[.pointer po] w9 fun e w' => e = .returned (.int .i64 ((O.list.length : Int) + 1)) ∧ w' = w9) := fun w9 k => sweight_any po O w9 (ho.keep k) (by omega)
  have HBR : Hid (BrS w) := brS w
  have HB1 : Hid (BrS w) := brS w
  have HB2 : Hid (BrS w) := brS w
  have HT : Hid (IsS w pa A ∧ IsS w pi I ∧ IsS w po O) := ⟨ha, hi, ho⟩
  have HS : Hid (A.list.length + I.list.length + O.list.length + 2 ≤ 1152921504606846976) := hs
  have hbl : b < w.heap.size := (Array.getElem?_eq_some_iff.1 hb).1
  have h0 : (0 : Int) ≤ (I.list.length : Int) := by omega
  have h1 : (0 : Int) ≤ (O.list.length : Int) := by omega
  have h2 : (I.list.length : Int) ≤ 1152921504606846976 := by omega
  have h3 : (O.list.length : Int) ≤ 1152921504606846976 := by omega
  have HB0 : Hid (w.heap[b]? = some (nodeS y po pi nn)) := hb
  clear ha hb ho hs
  by_cases hc : (I.list.length : Int) + 1 < 2 * ((O.list.length : Int) + 1)
  · clear hi
    go_enter Try.func83, Try.ntmps83
    go_wp2
    have HBC : Cs [(⟨b, 0, none⟩, .string y), (⟨b, 1, none⟩, .pointer po), (⟨b, 2, none⟩, .pointer pi)] w w := ⟨r0, r1, r2, Keep.refl _ _⟩
    go_region_held3 (fun w' => w'.cell? ⟨b, 0, none⟩ = some (.string y) ∧ w'.cell? ⟨b, 1, none⟩ = some (.pointer po) ∧ w'.cell? ⟨b, 2, none⟩ = some (.pointer pi) ∧ Hid (Keep [] w w'))
      (first | assumption | exact Cs.drew (l := [(⟨b, 0, none⟩, .string y), (⟨b, 1, none⟩, .pointer po), (⟨b, 2, none⟩, .pointer pi)]) HBC | exact Cs.alloc (l := [(⟨b, 0, none⟩, .string y), (⟨b, 1, none⟩, .pointer po), (⟨b, 2, none⟩, .pointer pi)]) _ (by assumption) | exact Cs.more (l := [(⟨b, 0, none⟩, .string y), (⟨b, 1, none⟩, .pointer po), (⟨b, 2, none⟩, .pointer pi)]) (by assumption) (by assumption))
      (fail)
    rename_i hR1
    have hK1 := Cs.kp (l := [(⟨b, 0, none⟩, .string y), (⟨b, 1, none⟩, .pointer po), (⟨b, 2, none⟩, .pointer pi)]) hR1
    go_wp2_with (first | (go_at_call 81; refine (HWI.out _ hK1).mono ?_; clear HWI; rintro e w5 ⟨rfl, rfl⟩) | (go_at_call 81; refine (HWO.out _ hK1).mono ?_; clear HWO; rintro e w6 ⟨rfl, rfl⟩))
    clear hK1
    go_region_held3 (fun w' => w'.cell? ⟨b, 0, none⟩ = some (.string y) ∧ w'.cell? ⟨b, 1, none⟩ = some (.pointer po) ∧ w'.cell? ⟨b, 2, none⟩ = some (.pointer pi) ∧ Hid (Keep [] w w'))
      (first | assumption | exact Cs.drew (l := [(⟨b, 0, none⟩, .string y), (⟨b, 1, none⟩, .pointer po), (⟨b, 2, none⟩, .pointer pi)]) hR1 | exact Cs.alloc (l := [(⟨b, 0, none⟩, .string y), (⟨b, 1, none⟩, .pointer po), (⟨b, 2, none⟩, .pointer pi)]) _ (by assumption) | exact Cs.more (l := [(⟨b, 0, none⟩, .string y), (⟨b, 1, none⟩, .pointer po), (⟨b, 2, none⟩, .pointer pi)]) (by assumption) (by assumption))
      (first | (go_at_call 73; refine (HB1.out pi pa I A x _ ((show Cs [(⟨b, 0, none⟩, .string y), (⟨b, 1, none⟩, .pointer po), (⟨b, 2, none⟩, .pointer pi)] w _ from by assumption).kp) (HT.out.2.1.keep ((show Cs [(⟨b, 0, none⟩, .string y), (⟨b, 1, none⟩, .pointer po), (⟨b, 2, none⟩, .pointer pi)] w _ from by assumption).kp)) (HT.out.1.keep ((show Cs [(⟨b, 0, none⟩, .string y), (⟨b, 1, none⟩, .pointer po), (⟨b, 2, none⟩, .pointer pi)] w _ from by assumption).kp)) (by have := HS.out; omega)).mono ?_; clear HB1; rintro e w5 ⟨p5, rfl, t5, k5⟩) | (go_at_call 73; refine (HBR.out po p5 O (.node I x A) y _ ((show Cs [(⟨b, 0, none⟩, .string y), (⟨b, 1, none⟩, .pointer po), (⟨b, 2, none⟩, .pointer pi)] w _ from by assumption).kp) (HT.out.2.2.keep ((show Cs [(⟨b, 0, none⟩, .string y), (⟨b, 1, none⟩, .pointer po), (⟨b, 2, none⟩, .pointer pi)] w _ from by assumption).kp)) (t5.keep (by first | exact Keep.refl _ _ | exact (Keep.refl _ _).drew)) (by have := HS.out; simp [TS.list]; omega)).mono ?_; rintro e w6 ⟨p6, rfl, t6, k6⟩))
    go_wp2
    go_ret
    refine ⟨p6, .node O y (.node I x A), rfl, t6.keep (by first | exact Keep.refl _ _ | exact (Keep.refl _ _).drew), by simp [TS.list], (show Cs [(⟨b, 0, none⟩, .string y), (⟨b, 1, none⟩, .pointer po), (⟨b, 2, none⟩, .pointer pi)] w _ from by assumption).kp⟩
  · cases I with
    | leaf => simp [TS.list] at hc; omega
    | node I1 z I2 =>
      obtain ⟨bi, q1, q2, rfl, hbi, hi1, hi2⟩ := hi
      obtain ⟨i0, i1, i2, _⟩ := nodeS_cells hbi
      have HI : Hid (IsS w q1 I1 ∧ IsS w q2 I2) := ⟨hi1, hi2⟩
      have HBI : Hid (w.heap[bi]? = some (nodeS z q1 q2 ((I1.list.length + I2.list.length + 1 : Nat) : Int))) := hbi
      have HSI : Hid ((TS.node I1 z I2).list.length = I1.list.length + I2.list.length + 1) := by show _ = _; simp [TS.list]; omega
      clear hbi hi1 hi2
      go_enter Try.func83, Try.ntmps83
      go_wp2
      have HBC : Cs [(⟨b, 0, none⟩, .string y), (⟨b, 1, none⟩, .pointer po), (⟨b, 2, none⟩, .pointer (some ⟨bi, 0, none⟩)), (⟨bi, 0, none⟩, .string z), (⟨bi, 1, none⟩, .pointer q1), (⟨bi, 2, none⟩, .pointer q2)] w w := ⟨r0, r1, r2, i0, i1, i2, Keep.refl _ _⟩
      go_region_held3 (fun w' => w'.cell? ⟨b, 0, none⟩ = some (.string y) ∧ w'.cell? ⟨b, 1, none⟩ = some (.pointer po) ∧ w'.cell? ⟨b, 2, none⟩ = some (.pointer (some ⟨bi, 0, none⟩)) ∧ w'.cell? ⟨bi, 0, none⟩ = some (.string z) ∧ w'.cell? ⟨bi, 1, none⟩ = some (.pointer q1) ∧ w'.cell? ⟨bi, 2, none⟩ = some (.pointer q2) ∧ Hid (Keep [] w w'))
        (first | assumption | exact Cs.drew (l := [(⟨b, 0, none⟩, .string y), (⟨b, 1, none⟩, .pointer po), (⟨b, 2, none⟩, .pointer (some ⟨bi, 0, none⟩)), (⟨bi, 0, none⟩, .string z), (⟨bi, 1, none⟩, .pointer q1), (⟨bi, 2, none⟩, .pointer q2)]) HBC | exact Cs.alloc (l := [(⟨b, 0, none⟩, .string y), (⟨b, 1, none⟩, .pointer po), (⟨b, 2, none⟩, .pointer (some ⟨bi, 0, none⟩)), (⟨bi, 0, none⟩, .string z), (⟨bi, 1, none⟩, .pointer q1), (⟨bi, 2, none⟩, .pointer q2)]) _ (by assumption) | exact Cs.more (l := [(⟨b, 0, none⟩, .string y), (⟨b, 1, none⟩, .pointer po), (⟨b, 2, none⟩, .pointer (some ⟨bi, 0, none⟩)), (⟨bi, 0, none⟩, .string z), (⟨bi, 1, none⟩, .pointer q1), (⟨bi, 2, none⟩, .pointer q2)]) (by assumption) (by assumption))
        (fail)
      rename_i hR1
      have hK1 := Cs.kp (l := [(⟨b, 0, none⟩, .string y), (⟨b, 1, none⟩, .pointer po), (⟨b, 2, none⟩, .pointer (some ⟨bi, 0, none⟩)), (⟨bi, 0, none⟩, .string z), (⟨bi, 1, none⟩, .pointer q1), (⟨bi, 2, none⟩, .pointer q2)]) hR1
      go_wp2_with (first | (go_at_call 81; refine (HWI.out _ hK1).mono ?_; clear HWI; rintro e w5 ⟨rfl, rfl⟩) | (go_at_call 81; refine (HWO.out _ hK1).mono ?_; clear HWO; rintro e w6 ⟨rfl, rfl⟩))
      clear hK1
      go_region_held3 (fun w' => w'.cell? ⟨b, 0, none⟩ = some (.string y) ∧ w'.cell? ⟨b, 1, none⟩ = some (.pointer po) ∧ w'.cell? ⟨b, 2, none⟩ = some (.pointer (some ⟨bi, 0, none⟩)) ∧ w'.cell? ⟨bi, 0, none⟩ = some (.string z) ∧ w'.cell? ⟨bi, 1, none⟩ = some (.pointer q1) ∧ w'.cell? ⟨bi, 2, none⟩ = some (.pointer q2) ∧ Hid (Keep [] w w'))
        (first | assumption | exact Cs.drew (l := [(⟨b, 0, none⟩, .string y), (⟨b, 1, none⟩, .pointer po), (⟨b, 2, none⟩, .pointer (some ⟨bi, 0, none⟩)), (⟨bi, 0, none⟩, .string z), (⟨bi, 1, none⟩, .pointer q1), (⟨bi, 2, none⟩, .pointer q2)]) hR1 | exact Cs.alloc (l := [(⟨b, 0, none⟩, .string y), (⟨b, 1, none⟩, .pointer po), (⟨b, 2, none⟩, .pointer (some ⟨bi, 0, none⟩)), (⟨bi, 0, none⟩, .string z), (⟨bi, 1, none⟩, .pointer q1), (⟨bi, 2, none⟩, .pointer q2)]) _ (by assumption) | exact Cs.more (l := [(⟨b, 0, none⟩, .string y), (⟨b, 1, none⟩, .pointer po), (⟨b, 2, none⟩, .pointer (some ⟨bi, 0, none⟩)), (⟨bi, 0, none⟩, .string z), (⟨bi, 1, none⟩, .pointer q1), (⟨bi, 2, none⟩, .pointer q2)]) (by assumption) (by assumption))
        (first | (go_at_call 73; refine (HB1.out po q1 O I1 y _ ((show Cs [(⟨b, 0, none⟩, .string y), (⟨b, 1, none⟩, .pointer po), (⟨b, 2, none⟩, .pointer (some ⟨bi, 0, none⟩)), (⟨bi, 0, none⟩, .string z), (⟨bi, 1, none⟩, .pointer q1), (⟨bi, 2, none⟩, .pointer q2)] w _ from by assumption).kp) (HT.out.2.2.keep ((show Cs [(⟨b, 0, none⟩, .string y), (⟨b, 1, none⟩, .pointer po), (⟨b, 2, none⟩, .pointer (some ⟨bi, 0, none⟩)), (⟨bi, 0, none⟩, .string z), (⟨bi, 1, none⟩, .pointer q1), (⟨bi, 2, none⟩, .pointer q2)] w _ from by assumption).kp)) (HI.out.1.keep ((show Cs [(⟨b, 0, none⟩, .string y), (⟨b, 1, none⟩, .pointer po), (⟨b, 2, none⟩, .pointer (some ⟨bi, 0, none⟩)), (⟨bi, 0, none⟩, .string z), (⟨bi, 1, none⟩, .pointer q1), (⟨bi, 2, none⟩, .pointer q2)] w _ from by assumption).kp)) (by have := HS.out; have := HSI.out; omega)).mono ?_; clear HB1; rintro e w5 ⟨p5, rfl, t5, k5⟩) | (go_at_call 73; refine (HB2.out q2 pa I2 A x _ ((show Cs [(⟨b, 0, none⟩, .string y), (⟨b, 1, none⟩, .pointer po), (⟨b, 2, none⟩, .pointer (some ⟨bi, 0, none⟩)), (⟨bi, 0, none⟩, .string z), (⟨bi, 1, none⟩, .pointer q1), (⟨bi, 2, none⟩, .pointer q2)] w _ from by assumption).kp) (HI.out.2.keep ((show Cs [(⟨b, 0, none⟩, .string y), (⟨b, 1, none⟩, .pointer po), (⟨b, 2, none⟩, .pointer (some ⟨bi, 0, none⟩)), (⟨bi, 0, none⟩, .string z), (⟨bi, 1, none⟩, .pointer q1), (⟨bi, 2, none⟩, .pointer q2)] w _ from by assumption).kp)) (HT.out.1.keep ((show Cs [(⟨b, 0, none⟩, .string y), (⟨b, 1, none⟩, .pointer po), (⟨b, 2, none⟩, .pointer (some ⟨bi, 0, none⟩)), (⟨bi, 0, none⟩, .string z), (⟨bi, 1, none⟩, .pointer q1), (⟨bi, 2, none⟩, .pointer q2)] w _ from by assumption).kp)) (by have := HS.out; have := HSI.out; omega)).mono ?_; clear HB2; rintro e w6 ⟨p6, rfl, t6, k6⟩) | (go_at_call 73; refine (HBR.out p5 p6 (.node O y I1) (.node I2 x A) z _ ((show Cs [(⟨b, 0, none⟩, .string y), (⟨b, 1, none⟩, .pointer po), (⟨b, 2, none⟩, .pointer (some ⟨bi, 0, none⟩)), (⟨bi, 0, none⟩, .string z), (⟨bi, 1, none⟩, .pointer q1), (⟨bi, 2, none⟩, .pointer q2)] w _ from by assumption).kp) (t5.keep (by first | exact k6 | exact (Keep.refl _ _).drew.trans' k6 | exact k6.drew | exact ((Keep.refl _ _).drew.trans' k6).drew)) (t6.keep (by first | exact Keep.refl _ _ | exact (Keep.refl _ _).drew)) (by have := HS.out; have := HSI.out; simp [TS.list]; omega)).mono ?_; rintro e w7 ⟨p7, rfl, t7, k7⟩))
      go_wp2
      go_ret
      refine ⟨p7, .node (.node O y I1) z (.node I2 x A), rfl, t7.keep (by first | exact Keep.refl _ _ | exact (Keep.refl _ _).drew), by simp [TS.list], (show Cs [(⟨b, 0, none⟩, .string y), (⟨b, 1, none⟩, .pointer po), (⟨b, 2, none⟩, .pointer (some ⟨bi, 0, none⟩)), (⟨bi, 0, none⟩, .string z), (⟨bi, 1, none⟩, .pointer q1), (⟨bi, 2, none⟩, .pointer q2)] w _ from by assumption).kp⟩

end Go.Proofs.Ytkelhglflpdpeaa
