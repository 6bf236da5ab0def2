/- May a tuple be: the document's May. -/
import Derived.Test.YtfpcpociejefaaaGreatDoorTwB
import Derived.Test.YtfpcpociejefaaaGreatDoorJRefC
namespace Go.Proofs.YtfpcpociejefaaaGreatDoor
open Go.RowKit Go.PlainAid
theorem Words.keep0 {w w' : World} (h : Words w) (k : Keep [] w w') : Words w' := h.below k.below
set_option maxRecDepth 1000000 in
set_option maxHeartbeats 40000000 in
theorem rMayT_run (y : K7) (u : Value) (n : Nat) (b1 b2 b3 b4 ge nz : Bool) (k z : Int) (w : World) (hge : (y.g.toList == ([] : List UInt8)) = ge) (hnz : decide ((0 : Int) < (n : Int)) = nz) (hz : z = 0 ∨ z = 41)
  (h1 : ∀ w1, Keep [] w w1 → Calls Tryz.prog 46 #[.string y.a] w1 fun e w' => e = .returned (.bool b1) ∧ w' = w1) (h2 : ∀ w1, Keep [] w w1 → Calls Tryz.prog 47 #[.string y.b] w1 fun e w' => e = .returned (.bool b2) ∧ w' = w1)
  (h3 : ∀ w1, Keep [] w w1 → Calls Tryz.prog 46 #[.string y.c] w1 fun e w' => e = .returned (.bool b3) ∧ w' = w1) (h4 : ∀ w1, Keep [] w w1 → Calls Tryz.prog 46 #[.string y.g] w1 fun e w' => e = .returned (.bool b4) ∧ w' = w1)
  (hk : ∀ w1, Keep [] w w1 → Calls Tryz.prog 48 #[.agg #[.string y.d, .string y.e, .string y.f]] w1 fun e w' => e = .returned (.int .i64 k) ∧ Below w1.heap.size w1 w')
  (h5 : ∀ w1, Keep [] w w1 → Calls Tryz.prog 49 #[u] w1 fun e w' => e = .returned (.int .i64 z) ∧ Keep [] w1 w') (hu : ∃ a c, u = .slice a n c) :
  Calls Tryz.prog 21 #[y.tup u] w fun e w' => e = .returned (.bool ((b1 && b2) && b3 && (k != 0) && (ge || b4) && (decide (z = 0) && (!ge || !nz)))) ∧ Keep [] w w' := by
 obtain ⟨ao, ca, rfl⟩ := hu
 obtain ⟨a, b, c, d, e, f, g⟩ := y
 have H1 : Hid (∀ w1, Keep [] w w1 → Calls Tryz.prog 46 #[.string a] w1 fun e w' => e = .returned (.bool b1) ∧ w' = w1) := h1
 have H2 : Hid (∀ w1, Keep [] w w1 → Calls Tryz.prog 47 #[.string b] w1 fun e w' => e = .returned (.bool b2) ∧ w' = w1) := h2
 have H3 : Hid (∀ w1, Keep [] w w1 → Calls Tryz.prog 46 #[.string c] w1 fun e w' => e = .returned (.bool b3) ∧ w' = w1) := h3
 have H4 : Hid (∀ w1, Keep [] w w1 → Calls Tryz.prog 46 #[.string g] w1 fun e w' => e = .returned (.bool b4) ∧ w' = w1) := h4
 have HKd : Hid (∀ w1, Keep [] w w1 → Calls Tryz.prog 48 #[.agg #[.string d, .string e, .string f]] w1 fun e w' => e = .returned (.int .i64 k) ∧ Below w1.heap.size w1 w') := hk
 have H5 : Hid (∀ w1, Keep [] w w1 → Calls Tryz.prog 49 #[.slice ao n ca] w1 fun e w' => e = .returned (.int .i64 z) ∧ Keep [] w1 w') := h5
 clear h1 h2 h3 h4 hk h5
 replace hge : (g.toList == ([] : List UInt8)) = ge := hge
 have K0 : Hid (Keep [] w (w.alloc (.cells #[.string a, .string b, .string c, .string d, .string e, .string f, .string g, .slice ao n ca] 28))) := Keep.alloc1 w _
 show Calls Tryz.prog 21 #[.agg #[.string a, .string b, .string c, .string d, .string e, .string f, .string g, .slice ao n ca]] w fun e w' => e = .returned (.bool ((b1 && b2) && b3 && (k != 0) && (ge || b4) && (decide (z = 0) && (!ge || !nz)))) ∧ Keep [] w w'
 cases b1 with
 | false =>
  go_enter Tryz.func21, Tryz.ntmps21
  go_wp2_with (first
   | (go_at_call 46; refine (H1.out _ K0.out).mono ?_; rintro e9 w9 ⟨rfl, hw9⟩; obtain rfl := hw9.symm; clear H1)
   | (go_at_call 47; refine (H2.out _ K0.out).mono ?_; rintro e9 w9 ⟨rfl, hw9⟩; obtain rfl := hw9.symm; clear H2))
  go_ret
  exact ⟨by simp, K0.out⟩
 | true =>
  cases b2 with
  | false =>
   go_enter Tryz.func21, Tryz.ntmps21
   go_wp2_with (first
    | (go_at_call 46; refine (H1.out _ K0.out).mono ?_; rintro e9 w9 ⟨rfl, hw9⟩; obtain rfl := hw9.symm; clear H1)
    | (go_at_call 47; refine (H2.out _ K0.out).mono ?_; rintro e9 w9 ⟨rfl, hw9⟩; obtain rfl := hw9.symm; clear H2))
   go_ret
   exact ⟨by simp, K0.out⟩
  | true =>
   cases b3 with
   | false =>
    go_enter Tryz.func21, Tryz.ntmps21
    go_wp2_with (first
     | (go_at_call 46; refine (H1.out _ K0.out).mono ?_; rintro e9 w9 ⟨rfl, hw9⟩; obtain rfl := hw9.symm; clear H1)
     | (go_at_call 47; refine (H2.out _ K0.out).mono ?_; rintro e9 w9 ⟨rfl, hw9⟩; obtain rfl := hw9.symm; clear H2)
     | (go_at_call 46; refine (H3.out _ K0.out).mono ?_; rintro e9 w9 ⟨rfl, hw9⟩; obtain rfl := hw9.symm; clear H3))
    go_ret
    exact ⟨by simp, K0.out⟩
   | true =>
    by_cases hk0 : (k == 0) = true
    ·have hkn : (k != 0) = false := by simpa using hk0
     rw [hkn]
     go_enter Tryz.func21, Tryz.ntmps21
     go_wp2_with (first
      | (go_at_call 46; refine (H1.out _ K0.out).mono ?_; rintro e9 w9 ⟨rfl, hw9⟩; obtain rfl := hw9.symm; clear H1)
      | (go_at_call 47; refine (H2.out _ K0.out).mono ?_; rintro e9 w9 ⟨rfl, hw9⟩; obtain rfl := hw9.symm; clear H2)
      | (go_at_call 46; refine (H3.out _ K0.out).mono ?_; rintro e9 w9 ⟨rfl, hw9⟩; obtain rfl := hw9.symm; clear H3)
      | (go_at_call 48; refine (HKd.out _ K0.out).mono ?_; rintro e9 w1 ⟨rfl, hb⟩; obtain ⟨c0, c1, c2, c3, c4, c5, c6, c7⟩ := cells8 (Keep.ofBelow hb); have HK1 : Hid (Keep [] w w1) := K0.out.trans' (Keep.ofBelow hb); clear hb HKd))
     go_ret
     exact ⟨by simp, HK1.out⟩
    ·replace hk0 : (k == 0) = false := by simpa using hk0
     have hkn : (k != 0) = true := by simpa using hk0
     rw [hkn]
     cases ge with
     | true =>
      cases nz with
      | true =>
       have hn0 : (0 : Int) < (n : Int) := of_decide_eq_true hnz
       go_enter Tryz.func21, Tryz.ntmps21
       go_wp2_with (first
        | (go_at_call 46; refine (H1.out _ K0.out).mono ?_; rintro e9 w9 ⟨rfl, hw9⟩; obtain rfl := hw9.symm; clear H1)
        | (go_at_call 47; refine (H2.out _ K0.out).mono ?_; rintro e9 w9 ⟨rfl, hw9⟩; obtain rfl := hw9.symm; clear H2)
        | (go_at_call 46; refine (H3.out _ K0.out).mono ?_; rintro e9 w9 ⟨rfl, hw9⟩; obtain rfl := hw9.symm; clear H3)
        | (go_at_call 48; refine (HKd.out _ K0.out).mono ?_; rintro e9 w1 ⟨rfl, hb⟩; obtain ⟨c0, c1, c2, c3, c4, c5, c6, c7⟩ := cells8 (Keep.ofBelow hb); have HK1 : Hid (Keep [] w w1) := K0.out.trans' (Keep.ofBelow hb); clear hb HKd))
       go_ret
       exact ⟨by simp, HK1.out⟩
      | false =>
       have hn0 : ¬ (0 : Int) < (n : Int) := of_decide_eq_false hnz
       rcases hz with rfl | rfl
       ·skip
        go_enter Tryz.func21, Tryz.ntmps21
        go_wp2_with (first
         | (go_at_call 46; refine (H1.out _ K0.out).mono ?_; rintro e9 w9 ⟨rfl, hw9⟩; obtain rfl := hw9.symm; clear H1)
         | (go_at_call 47; refine (H2.out _ K0.out).mono ?_; rintro e9 w9 ⟨rfl, hw9⟩; obtain rfl := hw9.symm; clear H2)
         | (go_at_call 46; refine (H3.out _ K0.out).mono ?_; rintro e9 w9 ⟨rfl, hw9⟩; obtain rfl := hw9.symm; clear H3)
         | (go_at_call 48; refine (HKd.out _ K0.out).mono ?_; rintro e9 w1 ⟨rfl, hb⟩; obtain ⟨c0, c1, c2, c3, c4, c5, c6, c7⟩ := cells8 (Keep.ofBelow hb); have HK1 : Hid (Keep [] w w1) := K0.out.trans' (Keep.ofBelow hb); clear hb HKd)
         | (go_at_call 49; refine (H5.out _ HK1.out).mono ?_; rintro e9 w2 ⟨rfl, k2⟩; have HK2 : Hid (Keep [] w w2) := HK1.out.trans' k2; clear k2))
        go_ret
        exact ⟨by simp, HK2.out⟩
       ·skip
        go_enter Tryz.func21, Tryz.ntmps21
        go_wp2_with (first
         | (go_at_call 46; refine (H1.out _ K0.out).mono ?_; rintro e9 w9 ⟨rfl, hw9⟩; obtain rfl := hw9.symm; clear H1)
         | (go_at_call 47; refine (H2.out _ K0.out).mono ?_; rintro e9 w9 ⟨rfl, hw9⟩; obtain rfl := hw9.symm; clear H2)
         | (go_at_call 46; refine (H3.out _ K0.out).mono ?_; rintro e9 w9 ⟨rfl, hw9⟩; obtain rfl := hw9.symm; clear H3)
         | (go_at_call 48; refine (HKd.out _ K0.out).mono ?_; rintro e9 w1 ⟨rfl, hb⟩; obtain ⟨c0, c1, c2, c3, c4, c5, c6, c7⟩ := cells8 (Keep.ofBelow hb); have HK1 : Hid (Keep [] w w1) := K0.out.trans' (Keep.ofBelow hb); clear hb HKd)
         | (go_at_call 49; refine (H5.out _ HK1.out).mono ?_; rintro e9 w2 ⟨rfl, k2⟩; have HK2 : Hid (Keep [] w w2) := HK1.out.trans' k2; clear k2))
        go_ret
        exact ⟨by simp, HK2.out⟩
     | false =>
      cases b4 with
      | false =>
       go_enter Tryz.func21, Tryz.ntmps21
       go_wp2_with (first
        | (go_at_call 46; refine (H1.out _ K0.out).mono ?_; rintro e9 w9 ⟨rfl, hw9⟩; obtain rfl := hw9.symm; clear H1)
        | (go_at_call 47; refine (H2.out _ K0.out).mono ?_; rintro e9 w9 ⟨rfl, hw9⟩; obtain rfl := hw9.symm; clear H2)
        | (go_at_call 46; refine (H3.out _ K0.out).mono ?_; rintro e9 w9 ⟨rfl, hw9⟩; obtain rfl := hw9.symm; clear H3)
        | (go_at_call 48; refine (HKd.out _ K0.out).mono ?_; rintro e9 w1 ⟨rfl, hb⟩; obtain ⟨c0, c1, c2, c3, c4, c5, c6, c7⟩ := cells8 (Keep.ofBelow hb); have HK1 : Hid (Keep [] w w1) := K0.out.trans' (Keep.ofBelow hb); clear hb HKd)
        | (go_at_call 46; refine (H4.out _ HK1.out).mono ?_; rintro e9 w9 ⟨rfl, hw9⟩; obtain rfl := hw9.symm; clear H4))
       go_ret
       exact ⟨by simp, HK1.out⟩
      | true =>
       rcases hz with rfl | rfl
       ·skip
        go_enter Tryz.func21, Tryz.ntmps21
        go_wp2_with (first
         | (go_at_call 46; refine (H1.out _ K0.out).mono ?_; rintro e9 w9 ⟨rfl, hw9⟩; obtain rfl := hw9.symm; clear H1)
         | (go_at_call 47; refine (H2.out _ K0.out).mono ?_; rintro e9 w9 ⟨rfl, hw9⟩; obtain rfl := hw9.symm; clear H2)
         | (go_at_call 46; refine (H3.out _ K0.out).mono ?_; rintro e9 w9 ⟨rfl, hw9⟩; obtain rfl := hw9.symm; clear H3)
         | (go_at_call 48; refine (HKd.out _ K0.out).mono ?_; rintro e9 w1 ⟨rfl, hb⟩; obtain ⟨c0, c1, c2, c3, c4, c5, c6, c7⟩ := cells8 (Keep.ofBelow hb); have HK1 : Hid (Keep [] w w1) := K0.out.trans' (Keep.ofBelow hb); clear hb HKd)
         | (go_at_call 46; refine (H4.out _ HK1.out).mono ?_; rintro e9 w9 ⟨rfl, hw9⟩; obtain rfl := hw9.symm; clear H4)
         | (go_at_call 49; refine (H5.out _ HK1.out).mono ?_; rintro e9 w2 ⟨rfl, k2⟩; have HK2 : Hid (Keep [] w w2) := HK1.out.trans' k2; clear k2))
        go_ret
        exact ⟨by simp, HK2.out⟩
       ·skip
        go_enter Tryz.func21, Tryz.ntmps21
        go_wp2_with (first
         | (go_at_call 46; refine (H1.out _ K0.out).mono ?_; rintro e9 w9 ⟨rfl, hw9⟩; obtain rfl := hw9.symm; clear H1)
         | (go_at_call 47; refine (H2.out _ K0.out).mono ?_; rintro e9 w9 ⟨rfl, hw9⟩; obtain rfl := hw9.symm; clear H2)
         | (go_at_call 46; refine (H3.out _ K0.out).mono ?_; rintro e9 w9 ⟨rfl, hw9⟩; obtain rfl := hw9.symm; clear H3)
         | (go_at_call 48; refine (HKd.out _ K0.out).mono ?_; rintro e9 w1 ⟨rfl, hb⟩; obtain ⟨c0, c1, c2, c3, c4, c5, c6, c7⟩ := cells8 (Keep.ofBelow hb); have HK1 : Hid (Keep [] w w1) := K0.out.trans' (Keep.ofBelow hb); clear hb HKd)
         | (go_at_call 46; refine (H4.out _ HK1.out).mono ?_; rintro e9 w9 ⟨rfl, hw9⟩; obtain rfl := hw9.symm; clear H4)
         | (go_at_call 49; refine (H5.out _ HK1.out).mono ?_; rintro e9 w2 ⟨rfl, k2⟩; have HK2 : Hid (Keep [] w w2) := HK1.out.trans' k2; clear k2))
        go_ret
        exact ⟨by simp, HK2.out⟩
theorem rMayT_any (y : K7) (u : Value) (l : List AD) (w : World) (hu : As w u l) (hW : Words w) :
  Calls Tryz.prog 21 #[y.tup u] w fun e w' => e = .returned (.bool (mayT y l)) ∧ Keep [] w w' := by
 obtain ⟨ao, ca, hs, _, _, _⟩ := hu.ex
 have h := rMayT_run y u l.length _ _ _ _ _ _ _ _ w rfl rfl (show argsZ l = 0 ∨ argsZ l = 41 by unfold argsZ; split <;> simp) (fun w1 k => rname_any y.a w1 (hW.keep0 k)) (fun w1 _ => rid_any y.b w1) (fun w1 k => rname_any y.c w1 (hW.keep0 k)) (fun w1 k => rname_any y.g w1 (hW.keep0 k)) (fun w1 k => rkind_any y.d y.e y.f w1 (hW.keep0 k)) (fun w1 k => rArgs_any u l w1 (hu.keep0 k) (hW.keep0 k)) ⟨ao, ca, hs⟩
 refine h.mono ?_
 rintro e w' ⟨rfl, hk⟩
 refine ⟨?_, hk⟩
 unfold mayT
 have e1 : (y.g.toList == ([] : List UInt8)) = y.g.toList.isEmpty := by cases y.g.toList <;> rfl
 have e2 : (!decide ((0 : Int) < (l.length : Int))) = decide (l.length = 0) := by
  by_cases h0 : l.length = 0
  ·rw [decide_eq_true h0, decide_eq_false (by omega)]; rfl
  ·rw [decide_eq_false h0, decide_eq_true (by omega)]; rfl
 rw [e1, e2]
end Go.Proofs.YtfpcpociejefaaaGreatDoor
