/- Texts in a tree: tn. -/
import Derived.Test.YtkelhglflpdpeaaSc

namespace Go.Proofs.Ytkelhglflpdpeaa
open Go.RowKit Go.PlainAid

/-- how many elements a tree has, read off its node -/
def szS (w : World) (v : Value) : Nat := match v with
  | .pointer (some a) => match w.cell? ⟨a.block, 3, none⟩ with
    | some (.int _ n) => n.toNat
    | _ => 0
  | _ => 0
theorem IsS.sz {w : World} {p : Option Addr} {A B : TS} {y : St} (h : IsS w p (.node A y B)) : szS w (.pointer p) = (TS.node A y B).list.length := by
  obtain ⟨b, pl, pr, rfl, hb, _, _⟩ := h
  obtain ⟨_, _, _, c⟩ := nodeS_cells hb
  simp only [szS, c, TS.list, List.length_append, List.length_cons]
  omega

set_option maxRecDepth 100000 in
set_option maxHeartbeats 2000000 in
theorem sfirst_any (p : Option Addr) (A B : TS) (y : St) (w : World) (h : IsS w p (.node A y B)) : Calls Try.prog 77 #[.pointer p] w fun e w' => ∃ z, e = .returned (vT z) ∧ (TS.node A y B).list.head? = some z ∧ Keep [] w w' := by
  have HT : Hid (IsS w p (.node A y B)) := h
  clear h
  go_enter Try.func77, Try.ntmps77
  go_wp2
  go_loopw [0] (fun pv wr => wr = w ∧ Hid (∃ q A' y' B', pv = .pointer q ∧ IsS w q (.node A' y' B') ∧ (TS.node A' y' B').list.head? = (TS.node A y B).list.head?)) (fun pv wr => szS wr pv)
  case atStart => exact ⟨rfl, p, A, y, B, rfl, HT.out, rfl⟩
  case round =>
    obtain ⟨rfl, HR⟩ := hrel
    obtain ⟨q, A', y', B', rfl, ht, hh⟩ := HR.out
    have hsz := ht.sz
    obtain ⟨b, pl, pr, rfl, hbb, hA, hB⟩ := ht
    obtain ⟨r0, r1, r2, _⟩ := nodeS_cells hbb
    have HSZ : Hid (type_of% hsz) := hsz
    have HA : Hid (IsS wr pl A') := hA
    have HH : Hid (type_of% hh) := hh
    cases A' with
    | leaf =>
      obtain rfl : pl = none := hA
      clear hB hbb hsz hh HR
      go_wp2
      refine bodyPost_ret (v := vT y') (by simp [results, Try.results77, go_sem]) rfl ?_
      exact ⟨y', rfl, by rw [← HH.out]; rfl, Keep.refl _ _⟩
    | node A2 y2 B2 =>
      obtain ⟨b2, p2, q2, rfl, hb2, hA2, hB2⟩ := hA
      clear hA2 hB2 hB hbb hsz hh HR hb2
      go_wp2
      go_roundw
      case rel => exact ⟨trivial, _, A2, y2, B2, rfl, HA.out, by rw [← HH.out]; simp [TS.list]⟩
      case measure =>
        rw [HSZ.out, HA.out.sz]
        simp [TS.list]

/-- the list without what is at the place i -/
def sDelL (l : List St) (i : Nat) : List St := l.take i ++ l.drop (i + 1)
theorem sDelL_len (l : List St) (i : Nat) (h : i < l.length) : (sDelL l i).length + 1 = l.length := by simp [sDelL]; omega
theorem sDelL_left (l r : List St) (y : St) (i : Nat) (h : i < l.length) : sDelL l i ++ y :: r = sDelL (l ++ y :: r) i := by
  simp [sDelL, List.take_append_of_le_length (Nat.le_of_lt h), List.drop_append_of_le_length (show i + 1 ≤ l.length by omega)]
theorem sDelL_mid (l r : List St) (y : St) : l ++ r = sDelL (l ++ y :: r) l.length := by
  have := List.drop_length_add_append (l₁ := l) (l₂ := y :: r) (i := 1)
  simp only [sDelL, this]
  simp
theorem sDelL_right (l r : List St) (y : St) (i : Nat) (h : l.length < i) : l ++ y :: sDelL r (i - l.length - 1) = sDelL (l ++ y :: r) i := by
  obtain ⟨j, rfl⟩ : ∃ j, i = l.length + (j + 1) := ⟨i - l.length - 1, by omega⟩
  have e : l.length + (j + 1) - l.length - 1 = j := by omega
  have e2 : l.length + (j + 1) + 1 = l.length + (j + 2) := by omega
  simp only [sDelL, e, e2, List.take_length_add_append, List.drop_length_add_append, List.take_succ_cons, List.drop_succ_cons]
  simp

set_option maxRecDepth 100000 in
set_option maxHeartbeats 4000000 in
theorem sremove_any (T : TS) : ∀ (p : Option Addr) (i : Nat) (w : World), IsS w p T → i < T.list.length → T.list.length + 2 ≤ 1152921504606846976 →
    Calls Try.prog 64 #[.pointer p, .int .i64 (i : Int)] w fun e w' => ∃ p' T', e = .returned (.pointer p') ∧ IsS w' p' T' ∧ T'.list = sDelL T.list i ∧ Keep [] w w' := by
  induction T with
  | leaf => intro p i w _ hi; simp [TS.list] at hi
  | node A y B ihA ihB =>
    intro p i w ht hi hs
    have HLen : (TS.node A y B).list.length = A.list.length + B.list.length + 1 := by simp [TS.list]; omega
    rw [HLen] at hi hs
    obtain ⟨b, pl, pr, rfl, hbb, hA, hB⟩ := ht
    obtain ⟨r0, r1, r2, _⟩ := nodeS_cells hbb
    have hbl : b < w.heap.size := (Array.getElem?_eq_some_iff.1 hbb).1
    have HCA : Hid (∀ w9, Keep [] w w9 → Calls Try.prog 63 #[.pointer pl] w9 fun e w' => e = .returned (.int .i64 (A.list.length : Int)) ∧ w9 = w') := fun w9 k => (scount_any pl A w9 (hA.keep k)).mono (fun e w' h => ⟨h.1, h.2.symm⟩)
    have HBC : Cs [(⟨b, 0, none⟩, .string y), (⟨b, 1, none⟩, .pointer pl), (⟨b, 2, none⟩, .pointer pr)] w w := ⟨r0, r1, r2, Keep.refl _ _⟩
    by_cases hle : i < A.list.length
    · have hlei : (i : Int) < (A.list.length : Int) := by omega
      have HI : Hid (∀ w9, Keep [] w w9 → Calls Try.prog 64 #[.pointer pl, .int .i64 (i : Int)] w9 fun e w' => ∃ p' T', e = .returned (.pointer p') ∧ IsS w' p' T' ∧ T'.list = sDelL A.list i ∧ Keep [] w9 w') := fun w9 k =>
        ihA pl i w9 (hA.keep k) hle (by omega)
      have HBa : Hid (∀ p' T' w9, Keep [] w w9 → IsS w9 p' T' → T'.list = sDelL A.list i → Calls Try.prog 74 #[.pointer p', vT y, .pointer pr] w9 fun e w' => ∃ p' T2, e = .returned (.pointer p') ∧ IsS w' p' T2 ∧ T2.list = sDelL (TS.node A y B).list i ∧ Keep [] w9 w') := fun p' T' w9 k t' l' =>
        (sbalanced_any p' pr T' B y w9 t' (hB.keep k) (by have := sDelL_len _ _ hle; rw [l']; omega)).mono (by
          rintro e w' ⟨p2, T2, he, t2, l2, k2⟩
          exact ⟨p2, T2, he, t2, by rw [l2, l', sDelL_left _ _ _ _ hle]; rfl, k2⟩)
      clear ihA ihB hA hB hbb hi hs HLen
      go_enter Try.func64, Try.ntmps64
      go_wp2_with (go_at_call 63; refine (HCA.out _ (Keep.refl _ _)).mono ?_; clear HCA; rintro e w5 ⟨rfl, rfl⟩)
      go_region_held3 (fun w' => w'.cell? ⟨b, 0, none⟩ = some (.string y) ∧ w'.cell? ⟨b, 1, none⟩ = some (.pointer pl) ∧ w'.cell? ⟨b, 2, none⟩ = some (.pointer pr) ∧ Hid (Keep [] w w'))
        (first | assumption | exact Cs.drew (l := [(⟨b, 0, none⟩, .string y), (⟨b, 1, none⟩, .pointer pl), (⟨b, 2, none⟩, .pointer pr)]) HBC | exact Cs.alloc (l := [(⟨b, 0, none⟩, .string y), (⟨b, 1, none⟩, .pointer pl), (⟨b, 2, none⟩, .pointer pr)]) _ (by assumption) | exact Cs.more (l := [(⟨b, 0, none⟩, .string y), (⟨b, 1, none⟩, .pointer pl), (⟨b, 2, none⟩, .pointer pr)]) (by assumption) (by assumption))
        (first | (go_at_call 64; refine (HI.out _ ((show Cs [(⟨b, 0, none⟩, .string y), (⟨b, 1, none⟩, .pointer pl), (⟨b, 2, none⟩, .pointer pr)] w _ from by assumption).kp)).mono ?_; clear HI; rintro e w5 ⟨p5, T5, rfl, t5, l5, k5⟩) | (go_at_call 74; refine (HBa.out p5 T5 _ ((show Cs [(⟨b, 0, none⟩, .string y), (⟨b, 1, none⟩, .pointer pl), (⟨b, 2, none⟩, .pointer pr)] w _ from by assumption).kp) (t5.keep (by first | exact Keep.refl _ _ | exact (Keep.refl _ _).drew)) l5).mono ?_; rintro e w6 ⟨p6, T6, rfl, t6, l6, k6⟩))
      go_wp2
      go_ret
      exact ⟨p6, T6, rfl, t6.keep (by first | exact Keep.refl _ _ | exact (Keep.refl _ _).drew), l6, ((show Cs [(⟨b, 0, none⟩, .string y), (⟨b, 1, none⟩, .pointer pl), (⟨b, 2, none⟩, .pointer pr)] w _ from by assumption).kp)⟩

    · by_cases hgt : A.list.length < i
      · have hlti : (A.list.length : Int) < (i : Int) := by omega
        have hii : (i : Int) ≤ 1152921504606846976 := by omega
        have e1 : IntKind.i64.wrap (IntKind.i64.wrap ((i : Int) - (A.list.length : Int)) - 1) = ((i - A.list.length - 1 : Nat) : Int) := by
          rw [wrap_ok ((i : Int) - (A.list.length : Int)) (by omega) (by omega), wrap_ok _ (by omega) (by omega)]; omega
        have HI : Hid (∀ w9, Keep [] w w9 → Calls Try.prog 64 #[.pointer pr, .int .i64 (IntKind.i64.wrap (IntKind.i64.wrap ((i : Int) - (A.list.length : Int)) - 1))] w9 fun e w' => ∃ p' T', e = .returned (.pointer p') ∧ IsS w' p' T' ∧ T'.list = sDelL B.list (i - A.list.length - 1) ∧ Keep [] w9 w') := by
          show ∀ w9, _
          rw [e1]
          exact fun w9 k => ihB pr (i - A.list.length - 1) w9 (hB.keep k) (by omega) (by omega)
        have HBa : Hid (∀ p' T' w9, Keep [] w w9 → IsS w9 p' T' → T'.list = sDelL B.list (i - A.list.length - 1) → Calls Try.prog 74 #[.pointer pl, vT y, .pointer p'] w9 fun e w' => ∃ p' T2, e = .returned (.pointer p') ∧ IsS w' p' T2 ∧ T2.list = sDelL (TS.node A y B).list i ∧ Keep [] w9 w') := fun p' T' w9 k t' l' =>
          (sbalanced_any pl p' A T' y w9 (hA.keep k) t' (by have := sDelL_len B.list (i - A.list.length - 1) (by omega); rw [l']; omega)).mono (by
            rintro e w' ⟨p2, T2, he, t2, l2, k2⟩
            exact ⟨p2, T2, he, t2, by rw [l2, l', sDelL_right _ _ _ _ hgt]; rfl, k2⟩)
        clear ihA ihB hA hB hbb hi hs HLen e1 hle
        go_enter Try.func64, Try.ntmps64
        go_wp2_with (go_at_call 63; refine (HCA.out _ (Keep.refl _ _)).mono ?_; clear HCA; rintro e w5 ⟨rfl, rfl⟩)
        go_region_held3 (fun w' => w'.cell? ⟨b, 0, none⟩ = some (.string y) ∧ w'.cell? ⟨b, 1, none⟩ = some (.pointer pl) ∧ w'.cell? ⟨b, 2, none⟩ = some (.pointer pr) ∧ Hid (Keep [] w w'))
          (first | assumption | exact Cs.drew (l := [(⟨b, 0, none⟩, .string y), (⟨b, 1, none⟩, .pointer pl), (⟨b, 2, none⟩, .pointer pr)]) HBC | exact Cs.alloc (l := [(⟨b, 0, none⟩, .string y), (⟨b, 1, none⟩, .pointer pl), (⟨b, 2, none⟩, .pointer pr)]) _ (by assumption) | exact Cs.more (l := [(⟨b, 0, none⟩, .string y), (⟨b, 1, none⟩, .pointer pl), (⟨b, 2, none⟩, .pointer pr)]) (by assumption) (by assumption))
          (first | (go_at_call 64; refine (HI.out _ ((show Cs [(⟨b, 0, none⟩, .string y), (⟨b, 1, none⟩, .pointer pl), (⟨b, 2, none⟩, .pointer pr)] w _ from by assumption).kp)).mono ?_; clear HI; rintro e w5 ⟨p5, T5, rfl, t5, l5, k5⟩) | (go_at_call 74; refine (HBa.out p5 T5 _ ((show Cs [(⟨b, 0, none⟩, .string y), (⟨b, 1, none⟩, .pointer pl), (⟨b, 2, none⟩, .pointer pr)] w _ from by assumption).kp) (t5.keep (by first | exact Keep.refl _ _ | exact (Keep.refl _ _).drew)) l5).mono ?_; rintro e w6 ⟨p6, T6, rfl, t6, l6, k6⟩))
        go_wp2
        go_ret
        exact ⟨p6, T6, rfl, t6.keep (by first | exact Keep.refl _ _ | exact (Keep.refl _ _).drew), l6, ((show Cs [(⟨b, 0, none⟩, .string y), (⟨b, 1, none⟩, .pointer pl), (⟨b, 2, none⟩, .pointer pr)] w _ from by assumption).kp)⟩

      · obtain rfl : i = A.list.length := by omega
        cases A with
        | leaf =>
          obtain rfl : pl = none := hA
          have HB : Hid (IsS w pr B) := hB
          have HL0 : (((TS.leaf).list.length : Nat) : Int) = 0 := by simp [TS.list]
          rw [HL0] at HCA ⊢
          clear ihA ihB hB hbb hi hs HLen hle hgt HL0
          go_enter Try.func64, Try.ntmps64
          go_wp2_with (go_at_call 63; refine (HCA.out _ (Keep.refl _ _)).mono ?_; clear HCA; rintro e w5 ⟨rfl, rfl⟩)
          go_ret
          exact ⟨pr, B, rfl, HB.out, by simp [TS.list, sDelL], Keep.refl _ _⟩
        | node A1 z A2 =>
          have HAA := hA
          obtain ⟨bl, q1, q2, rfl, hbl2, _, _⟩ := hA
          cases B with
          | leaf =>
            obtain rfl : pr = none := hB
            have HA : Hid (IsS w (some ⟨bl, 0, none⟩) (.node A1 z A2)) := HAA
            clear ihA ihB hbb hi hs HLen hle hgt HAA hbl2
            go_enter Try.func64, Try.ntmps64
            go_wp2_with (go_at_call 63; refine (HCA.out _ (Keep.refl _ _)).mono ?_; clear HCA; rintro e w5 ⟨rfl, rfl⟩)
            go_ret
            exact ⟨_, .node A1 z A2, rfl, HA.out, by have := sDelL_mid (TS.node A1 z A2).list [] y; simp only [TS.list, List.append_nil] at this ⊢; exact this, Keep.refl _ _⟩
          | node B1 u B2 =>
            have HLB : (TS.node B1 u B2).list.length = B1.list.length + B2.list.length + 1 := by simp [TS.list]; omega
            have HI : Hid (∀ w9, Keep [] w w9 → Calls Try.prog 64 #[.pointer pr, .int .i64 0] w9 fun e w' => ∃ p' T', e = .returned (.pointer p') ∧ IsS w' p' T' ∧ T'.list = sDelL (TS.node B1 u B2).list 0 ∧ Keep [] w9 w') := fun w9 k =>
              ihB pr 0 w9 (hB.keep k) (by omega) (by omega)
            have HF : Hid (∀ w9, Keep [] w w9 → Calls Try.prog 77 #[.pointer pr] w9 fun e w' => ∃ v, e = .returned (vT v) ∧ (TS.node B1 u B2).list.head? = some v ∧ Keep [] w9 w') := fun w9 k => sfirst_any pr B1 B2 u w9 (hB.keep k)
            have HBa : Hid (∀ v p' T' w9, Keep [] w w9 → IsS w9 p' T' → T'.list = sDelL (TS.node B1 u B2).list 0 → (TS.node B1 u B2).list.head? = some v → Calls Try.prog 74 #[.pointer (some ⟨bl, 0, none⟩), vT v, .pointer p'] w9 fun e w' => ∃ p' T2, e = .returned (.pointer p') ∧ IsS w' p' T2 ∧ T2.list = sDelL (TS.node (TS.node A1 z A2) y (TS.node B1 u B2)).list (TS.node A1 z A2).list.length ∧ Keep [] w9 w') := fun v p' T' w9 k t' l' hv =>
              (sbalanced_any _ p' (.node A1 z A2) T' v w9 (HAA.keep k) t' (by have := sDelL_len (TS.node B1 u B2).list 0 (by omega); rw [l']; omega)).mono (by
                rintro e w' ⟨p2, T2, he, t2, l2, k2⟩
                refine ⟨p2, T2, he, t2, ?_, k2⟩
                rw [l2, l']
                show _ = sDelL ((TS.node A1 z A2).list ++ y :: (TS.node B1 u B2).list) _
                rw [← sDelL_mid]
                congr 1
                generalize (TS.node B1 u B2).list = lb at *
                cases lb with
                | nil => cases hv
                | cons c t => simp at hv; subst hv; simp [sDelL])
            obtain ⟨br, q3, q4, rfl, hbr2, _, _⟩ := hB
            clear ihA ihB hbb hi hs HLen hle hgt HAA hbl2 hbr2 HLB
            go_enter Try.func64, Try.ntmps64
            go_wp2_with (go_at_call 63; refine (HCA.out _ (Keep.refl _ _)).mono ?_; clear HCA; rintro e w5 ⟨rfl, rfl⟩)
            go_region_held3 (fun w' => w'.cell? ⟨b, 0, none⟩ = some (.string y) ∧ w'.cell? ⟨b, 1, none⟩ = some (.pointer (some ⟨bl, 0, none⟩)) ∧ w'.cell? ⟨b, 2, none⟩ = some (.pointer (some ⟨br, 0, none⟩)) ∧ Hid (Keep [] w w'))
              (first | assumption | exact Cs.drew (l := [(⟨b, 0, none⟩, .string y), (⟨b, 1, none⟩, .pointer (some ⟨bl, 0, none⟩)), (⟨b, 2, none⟩, .pointer (some ⟨br, 0, none⟩))]) HBC | exact Cs.alloc (l := [(⟨b, 0, none⟩, .string y), (⟨b, 1, none⟩, .pointer (some ⟨bl, 0, none⟩)), (⟨b, 2, none⟩, .pointer (some ⟨br, 0, none⟩))]) _ (by assumption) | exact Cs.more (l := [(⟨b, 0, none⟩, .string y), (⟨b, 1, none⟩, .pointer (some ⟨bl, 0, none⟩)), (⟨b, 2, none⟩, .pointer (some ⟨br, 0, none⟩))]) (by assumption) (by assumption))
              (first | (go_at_call 77; refine (HF.out _ ((show Cs [(⟨b, 0, none⟩, .string y), (⟨b, 1, none⟩, .pointer (some ⟨bl, 0, none⟩)), (⟨b, 2, none⟩, .pointer (some ⟨br, 0, none⟩))] w _ from by assumption).kp)).mono ?_; clear HF; rintro e w4 ⟨v4, rfl, l4, k4⟩) | (go_at_call 64; refine (HI.out _ ((show Cs [(⟨b, 0, none⟩, .string y), (⟨b, 1, none⟩, .pointer (some ⟨bl, 0, none⟩)), (⟨b, 2, none⟩, .pointer (some ⟨br, 0, none⟩))] w _ from by assumption).kp)).mono ?_; clear HI; rintro e w5 ⟨p5, T5, rfl, t5, l5, k5⟩) | (go_at_call 74; refine (HBa.out v4 p5 T5 _ ((show Cs [(⟨b, 0, none⟩, .string y), (⟨b, 1, none⟩, .pointer (some ⟨bl, 0, none⟩)), (⟨b, 2, none⟩, .pointer (some ⟨br, 0, none⟩))] w _ from by assumption).kp) (t5.keep (by first | exact Keep.refl _ _ | exact (Keep.refl _ _).drew)) l5 l4).mono ?_; rintro e w6 ⟨p6, T6, rfl, t6, l6, k6⟩))
            go_wp2
            go_ret
            exact ⟨p6, T6, rfl, t6.keep (by first | exact Keep.refl _ _ | exact (Keep.refl _ _).drew), l6, ((show Cs [(⟨b, 0, none⟩, .string y), (⟨b, 1, none⟩, .pointer (some ⟨bl, 0, none⟩)), (⟨b, 2, none⟩, .pointer (some ⟨br, 0, none⟩))] w _ from by assumption).kp)⟩


end Go.Proofs.Ytkelhglflpdpeaa
