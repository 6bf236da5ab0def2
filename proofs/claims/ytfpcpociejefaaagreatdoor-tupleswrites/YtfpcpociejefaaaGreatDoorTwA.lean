/- May a tuple be: the program's mayBe and argsMayBe. -/
import Derived.Test.YtfpcpociejefaaaGreatDoorTwB
import Derived.Test.YtfpcpociejefaaaGreatDoorLgD
namespace Go.Proofs.YtfpcpociejefaaaGreatDoor
open Go.RowKit Go.PlainAid
set_option maxRecDepth 1000000 in
set_option maxHeartbeats 1000000 in
theorem argsMay_any (y : K7) (u : Value) (l : List AD) (w : World) (hu : As w u l) :
  Calls Tryz.prog 34 #[y.tup u] w fun e w' => e = .returned (.bool (decide (argsZ l = 0) && (!y.g.toList.isEmpty || decide (l.length = 0)))) ∧ Keep [] w w' := by
 have HA : Hid (∀ w1, Keep [] w w1 → Calls Tryz.prog 61 #[u] w1 fun e w' => e = .returned (.int .i64 (argsZ l)) ∧ Keep [] w1 w') := fun w1 k => args_any u l w1 (hu.keep0 k)
 obtain ⟨ao, ca, rfl, _, _, _⟩ := hu.ex
 clear hu
 obtain ⟨a, b, c, d, e, f, g⟩ := y
 have K0 : Hid (Keep [] w (w.alloc (.cells #[.string a, .string b, .string c, .string d, .string e, .string f, .string g, .slice ao l.length ca] 28))) := Keep.alloc1 w _
 show Calls Tryz.prog 34 #[.agg #[.string a, .string b, .string c, .string d, .string e, .string f, .string g, .slice ao l.length ca]] w fun e w' => e = .returned (.bool (decide (argsZ l = 0) && (!g.toList.isEmpty || decide (l.length = 0)))) ∧ Keep [] w w'
 have hz2 : argsZ l = 0 ∨ argsZ l = 41 := by unfold argsZ; split <;> simp
 rcases hz2 with hz | hz
 ·rw [hz] at HA
  rw [hz]
  by_cases hg : (g.toList == ([] : List UInt8)) = true
  ·have hi : g.toList.isEmpty = true := by simpa using hg
   by_cases hl : l.length = 0
   ·have hli : ((l.length : Int) == 0) = true := by simpa using hl
    have HL0 : Hid (l.length = 0) := hl
    clear hl
    go_enter Tryz.func34, Tryz.ntmps34
    go_wp2_with fail
    refine (HA.out _ K0.out).mono ?_
    rintro e9 w1 ⟨rfl, k1⟩
    obtain ⟨c0, c1, c2, c3, c4, c5, c6, c7⟩ := cells8 k1
    have HK1 : Hid (Keep [] w w1) := K0.out.trans' k1
    clear k1 HA
    go_wp2
    go_ret
    exact ⟨by simp [hi, HL0.out], HK1.out⟩
   ·have hli : ((l.length : Int) == 0) = false := by simpa using hl
    have HL0 : Hid (¬ l.length = 0) := hl
    clear hl
    go_enter Tryz.func34, Tryz.ntmps34
    go_wp2_with fail
    refine (HA.out _ K0.out).mono ?_
    rintro e9 w1 ⟨rfl, k1⟩
    obtain ⟨c0, c1, c2, c3, c4, c5, c6, c7⟩ := cells8 k1
    have HK1 : Hid (Keep [] w w1) := K0.out.trans' k1
    clear k1 HA
    go_wp2
    go_ret
    exact ⟨by simp [hi, HL0.out], HK1.out⟩
  ·have hg2 : (g.toList == ([] : List UInt8)) = false := by simpa using hg
   have hi : g.toList.isEmpty = false := by simpa using hg
   clear hg
   go_enter Tryz.func34, Tryz.ntmps34
   go_wp2_with fail
   refine (HA.out _ K0.out).mono ?_
   rintro e9 w1 ⟨rfl, k1⟩
   obtain ⟨c0, c1, c2, c3, c4, c5, c6, c7⟩ := cells8 k1
   have HK1 : Hid (Keep [] w w1) := K0.out.trans' k1
   clear k1 HA
   go_wp2
   go_ret
   exact ⟨by simp [hi], HK1.out⟩
 ·rw [hz] at HA
  rw [hz]
  go_enter Tryz.func34, Tryz.ntmps34
  go_wp2_with fail
  refine (HA.out _ K0.out).mono ?_
  rintro e9 w1 ⟨rfl, k1⟩
  have HK1 : Hid (Keep [] w w1) := K0.out.trans' k1
  clear k1 HA
  go_wp2
  go_ret
  exact ⟨by simp, HK1.out⟩
set_option maxRecDepth 1000000 in
set_option maxHeartbeats 40000000 in
theorem mayBe_run (y : K7) (u : Value) (b1 b2 b3 b4 b5 ge : Bool) (k : Int) (w : World) (hge : (y.g.toList == ([] : List UInt8)) = ge)
  (h1 : ∀ w, Calls Tryz.prog 31 #[.string y.a] w fun e w' => e = .returned (.bool b1) ∧ w' = w) (h2 : ∀ w, Calls Tryz.prog 32 #[.string y.b] w fun e w' => e = .returned (.bool b2) ∧ w' = w)
  (h3 : ∀ w, Calls Tryz.prog 31 #[.string y.c] w fun e w' => e = .returned (.bool b3) ∧ w' = w) (h4 : ∀ w, Calls Tryz.prog 31 #[.string y.g] w fun e w' => e = .returned (.bool b4) ∧ w' = w)
  (hk : ∀ w, Calls Tryz.prog 33 #[.agg #[.string y.d, .string y.e, .string y.f]] w fun e w' => e = .returned (.int .i64 k) ∧ Below w.heap.size w w')
  (h5 : ∀ w1, Keep [] w w1 → Calls Tryz.prog 34 #[y.tup u] w1 fun e w' => e = .returned (.bool b5) ∧ Keep [] w1 w') (hu : ∃ a n c, u = .slice a n c) :
  Calls Tryz.prog 12 #[y.tup u] w fun e w' => e = .returned (.bool ((b1 && b2) && b3 && (k != 0) && (ge || b4) && b5)) ∧ Keep [] w w' := by
 obtain ⟨ao, n, ca, rfl⟩ := hu
 have H5 : Hid (∀ w1, Keep [] w w1 → Calls Tryz.prog 34 #[y.tup (.slice ao n ca)] w1 fun e w' => e = .returned (.bool b5) ∧ Keep [] w1 w') := h5
 clear h5
 obtain ⟨a, b, c, d, e, f, g⟩ := y
 replace H5 : Hid (∀ w1, Keep [] w w1 → Calls Tryz.prog 34 #[.agg #[.string a, .string b, .string c, .string d, .string e, .string f, .string g, .slice ao n ca]] w1 fun e w' => e = .returned (.bool b5) ∧ Keep [] w1 w') := H5
 replace h1 : ∀ w, Calls Tryz.prog 31 #[.string a] w fun e w' => e = .returned (.bool b1) ∧ w' = w := h1
 replace h2 : ∀ w, Calls Tryz.prog 32 #[.string b] w fun e w' => e = .returned (.bool b2) ∧ w' = w := h2
 replace h3 : ∀ w, Calls Tryz.prog 31 #[.string c] w fun e w' => e = .returned (.bool b3) ∧ w' = w := h3
 replace h4 : ∀ w, Calls Tryz.prog 31 #[.string g] w fun e w' => e = .returned (.bool b4) ∧ w' = w := h4
 replace hk : ∀ w, Calls Tryz.prog 33 #[.agg #[.string d, .string e, .string f]] w fun e w' => e = .returned (.int .i64 k) ∧ Below w.heap.size w w' := hk
 have H1 : Hid _ := h1
 have H2 : Hid _ := h2
 have H3 : Hid _ := h3
 have H4 : Hid _ := h4
 have HKd : Hid _ := hk
 clear h1 h2 h3 h4 hk
 replace hge : (g.toList == ([] : List UInt8)) = ge := hge
 have K0 : Hid (Keep [] w (w.alloc (.cells #[.string a, .string b, .string c, .string d, .string e, .string f, .string g, .slice ao n ca] 28))) := Keep.alloc1 w _
 show Calls Tryz.prog 12 #[.agg #[.string a, .string b, .string c, .string d, .string e, .string f, .string g, .slice ao n ca]] w fun e w' => e = .returned (.bool ((b1 && b2) && b3 && (k != 0) && (ge || b4) && b5)) ∧ Keep [] w w'
 cases b1 with
 | false =>
  by_cases hk0 : (k != 0) = true
  ·rw [hk0]
   cases ge with
   | true =>
    go_enter Tryz.func12, Tryz.ntmps12
    go_wp2_with (first
     | (go_at_call 31; refine (H1.out _).mono ?_; rintro e9 w9 ⟨rfl, hw9⟩; obtain rfl := hw9.symm; clear H1)
     | (go_at_call 33; refine (HKd.out _).mono ?_; rintro e9 w1 ⟨rfl, hb⟩; obtain ⟨c0, c1, c2, c3, c4, c5, c6, c7⟩ := cells8 (Keep.ofBelow hb); have HK1 : Hid (Keep [] w w1) := K0.out.trans' (Keep.ofBelow hb); clear hb HKd))
    go_ret
    exact ⟨by simp, HK1.out⟩
   | false =>
    cases b4 with
    | false =>
     go_enter Tryz.func12, Tryz.ntmps12
     go_wp2_with (first
      | (go_at_call 31; refine (H1.out _).mono ?_; rintro e9 w9 ⟨rfl, hw9⟩; obtain rfl := hw9.symm; clear H1)
      | (go_at_call 33; refine (HKd.out _).mono ?_; rintro e9 w1 ⟨rfl, hb⟩; obtain ⟨c0, c1, c2, c3, c4, c5, c6, c7⟩ := cells8 (Keep.ofBelow hb); have HK1 : Hid (Keep [] w w1) := K0.out.trans' (Keep.ofBelow hb); clear hb HKd)
      | (go_at_call 31; refine (H4.out _).mono ?_; rintro e9 w9 ⟨rfl, hw9⟩; obtain rfl := hw9.symm; clear H4))
     go_ret
     exact ⟨by simp, HK1.out⟩
    | true =>
     go_enter Tryz.func12, Tryz.ntmps12
     go_wp2_with (first
      | (go_at_call 31; refine (H1.out _).mono ?_; rintro e9 w9 ⟨rfl, hw9⟩; obtain rfl := hw9.symm; clear H1)
      | (go_at_call 33; refine (HKd.out _).mono ?_; rintro e9 w1 ⟨rfl, hb⟩; obtain ⟨c0, c1, c2, c3, c4, c5, c6, c7⟩ := cells8 (Keep.ofBelow hb); have HK1 : Hid (Keep [] w w1) := K0.out.trans' (Keep.ofBelow hb); clear hb HKd)
      | (go_at_call 31; refine (H4.out _).mono ?_; rintro e9 w9 ⟨rfl, hw9⟩; obtain rfl := hw9.symm; clear H4))
     go_ret
     exact ⟨by simp, HK1.out⟩
  ·replace hk0 : (k != 0) = false := by simpa using hk0
   rw [hk0]
   cases ge with
   | true =>
    go_enter Tryz.func12, Tryz.ntmps12
    go_wp2_with (first
     | (go_at_call 31; refine (H1.out _).mono ?_; rintro e9 w9 ⟨rfl, hw9⟩; obtain rfl := hw9.symm; clear H1)
     | (go_at_call 33; refine (HKd.out _).mono ?_; rintro e9 w1 ⟨rfl, hb⟩; obtain ⟨c0, c1, c2, c3, c4, c5, c6, c7⟩ := cells8 (Keep.ofBelow hb); have HK1 : Hid (Keep [] w w1) := K0.out.trans' (Keep.ofBelow hb); clear hb HKd))
    go_ret
    exact ⟨by simp, HK1.out⟩
   | false =>
    cases b4 with
    | false =>
     go_enter Tryz.func12, Tryz.ntmps12
     go_wp2_with (first
      | (go_at_call 31; refine (H1.out _).mono ?_; rintro e9 w9 ⟨rfl, hw9⟩; obtain rfl := hw9.symm; clear H1)
      | (go_at_call 33; refine (HKd.out _).mono ?_; rintro e9 w1 ⟨rfl, hb⟩; obtain ⟨c0, c1, c2, c3, c4, c5, c6, c7⟩ := cells8 (Keep.ofBelow hb); have HK1 : Hid (Keep [] w w1) := K0.out.trans' (Keep.ofBelow hb); clear hb HKd)
      | (go_at_call 31; refine (H4.out _).mono ?_; rintro e9 w9 ⟨rfl, hw9⟩; obtain rfl := hw9.symm; clear H4))
     go_ret
     exact ⟨by simp, HK1.out⟩
    | true =>
     go_enter Tryz.func12, Tryz.ntmps12
     go_wp2_with (first
      | (go_at_call 31; refine (H1.out _).mono ?_; rintro e9 w9 ⟨rfl, hw9⟩; obtain rfl := hw9.symm; clear H1)
      | (go_at_call 33; refine (HKd.out _).mono ?_; rintro e9 w1 ⟨rfl, hb⟩; obtain ⟨c0, c1, c2, c3, c4, c5, c6, c7⟩ := cells8 (Keep.ofBelow hb); have HK1 : Hid (Keep [] w w1) := K0.out.trans' (Keep.ofBelow hb); clear hb HKd)
      | (go_at_call 31; refine (H4.out _).mono ?_; rintro e9 w9 ⟨rfl, hw9⟩; obtain rfl := hw9.symm; clear H4))
     go_ret
     exact ⟨by simp, HK1.out⟩
 | true =>
  cases b2 with
  | false =>
   by_cases hk0 : (k != 0) = true
   ·rw [hk0]
    cases ge with
    | true =>
     go_enter Tryz.func12, Tryz.ntmps12
     go_wp2_with (first
      | (go_at_call 31; refine (H1.out _).mono ?_; rintro e9 w9 ⟨rfl, hw9⟩; obtain rfl := hw9.symm; clear H1)
      | (go_at_call 32; refine (H2.out _).mono ?_; rintro e9 w9 ⟨rfl, hw9⟩; obtain rfl := hw9.symm; clear H2)
      | (go_at_call 33; refine (HKd.out _).mono ?_; rintro e9 w1 ⟨rfl, hb⟩; obtain ⟨c0, c1, c2, c3, c4, c5, c6, c7⟩ := cells8 (Keep.ofBelow hb); have HK1 : Hid (Keep [] w w1) := K0.out.trans' (Keep.ofBelow hb); clear hb HKd))
     go_ret
     exact ⟨by simp, HK1.out⟩
    | false =>
     cases b4 with
     | false =>
      go_enter Tryz.func12, Tryz.ntmps12
      go_wp2_with (first
       | (go_at_call 31; refine (H1.out _).mono ?_; rintro e9 w9 ⟨rfl, hw9⟩; obtain rfl := hw9.symm; clear H1)
       | (go_at_call 32; refine (H2.out _).mono ?_; rintro e9 w9 ⟨rfl, hw9⟩; obtain rfl := hw9.symm; clear H2)
       | (go_at_call 33; refine (HKd.out _).mono ?_; rintro e9 w1 ⟨rfl, hb⟩; obtain ⟨c0, c1, c2, c3, c4, c5, c6, c7⟩ := cells8 (Keep.ofBelow hb); have HK1 : Hid (Keep [] w w1) := K0.out.trans' (Keep.ofBelow hb); clear hb HKd)
       | (go_at_call 31; refine (H4.out _).mono ?_; rintro e9 w9 ⟨rfl, hw9⟩; obtain rfl := hw9.symm; clear H4))
      go_ret
      exact ⟨by simp, HK1.out⟩
     | true =>
      go_enter Tryz.func12, Tryz.ntmps12
      go_wp2_with (first
       | (go_at_call 31; refine (H1.out _).mono ?_; rintro e9 w9 ⟨rfl, hw9⟩; obtain rfl := hw9.symm; clear H1)
       | (go_at_call 32; refine (H2.out _).mono ?_; rintro e9 w9 ⟨rfl, hw9⟩; obtain rfl := hw9.symm; clear H2)
       | (go_at_call 33; refine (HKd.out _).mono ?_; rintro e9 w1 ⟨rfl, hb⟩; obtain ⟨c0, c1, c2, c3, c4, c5, c6, c7⟩ := cells8 (Keep.ofBelow hb); have HK1 : Hid (Keep [] w w1) := K0.out.trans' (Keep.ofBelow hb); clear hb HKd)
       | (go_at_call 31; refine (H4.out _).mono ?_; rintro e9 w9 ⟨rfl, hw9⟩; obtain rfl := hw9.symm; clear H4))
      go_ret
      exact ⟨by simp, HK1.out⟩
   ·replace hk0 : (k != 0) = false := by simpa using hk0
    rw [hk0]
    cases ge with
    | true =>
     go_enter Tryz.func12, Tryz.ntmps12
     go_wp2_with (first
      | (go_at_call 31; refine (H1.out _).mono ?_; rintro e9 w9 ⟨rfl, hw9⟩; obtain rfl := hw9.symm; clear H1)
      | (go_at_call 32; refine (H2.out _).mono ?_; rintro e9 w9 ⟨rfl, hw9⟩; obtain rfl := hw9.symm; clear H2)
      | (go_at_call 33; refine (HKd.out _).mono ?_; rintro e9 w1 ⟨rfl, hb⟩; obtain ⟨c0, c1, c2, c3, c4, c5, c6, c7⟩ := cells8 (Keep.ofBelow hb); have HK1 : Hid (Keep [] w w1) := K0.out.trans' (Keep.ofBelow hb); clear hb HKd))
     go_ret
     exact ⟨by simp, HK1.out⟩
    | false =>
     cases b4 with
     | false =>
      go_enter Tryz.func12, Tryz.ntmps12
      go_wp2_with (first
       | (go_at_call 31; refine (H1.out _).mono ?_; rintro e9 w9 ⟨rfl, hw9⟩; obtain rfl := hw9.symm; clear H1)
       | (go_at_call 32; refine (H2.out _).mono ?_; rintro e9 w9 ⟨rfl, hw9⟩; obtain rfl := hw9.symm; clear H2)
       | (go_at_call 33; refine (HKd.out _).mono ?_; rintro e9 w1 ⟨rfl, hb⟩; obtain ⟨c0, c1, c2, c3, c4, c5, c6, c7⟩ := cells8 (Keep.ofBelow hb); have HK1 : Hid (Keep [] w w1) := K0.out.trans' (Keep.ofBelow hb); clear hb HKd)
       | (go_at_call 31; refine (H4.out _).mono ?_; rintro e9 w9 ⟨rfl, hw9⟩; obtain rfl := hw9.symm; clear H4))
      go_ret
      exact ⟨by simp, HK1.out⟩
     | true =>
      go_enter Tryz.func12, Tryz.ntmps12
      go_wp2_with (first
       | (go_at_call 31; refine (H1.out _).mono ?_; rintro e9 w9 ⟨rfl, hw9⟩; obtain rfl := hw9.symm; clear H1)
       | (go_at_call 32; refine (H2.out _).mono ?_; rintro e9 w9 ⟨rfl, hw9⟩; obtain rfl := hw9.symm; clear H2)
       | (go_at_call 33; refine (HKd.out _).mono ?_; rintro e9 w1 ⟨rfl, hb⟩; obtain ⟨c0, c1, c2, c3, c4, c5, c6, c7⟩ := cells8 (Keep.ofBelow hb); have HK1 : Hid (Keep [] w w1) := K0.out.trans' (Keep.ofBelow hb); clear hb HKd)
       | (go_at_call 31; refine (H4.out _).mono ?_; rintro e9 w9 ⟨rfl, hw9⟩; obtain rfl := hw9.symm; clear H4))
      go_ret
      exact ⟨by simp, HK1.out⟩
  | true =>
   by_cases hk0 : (k != 0) = true
   ·rw [hk0]
    cases ge with
    | true =>
     cases b3 with
     | false =>
      go_enter Tryz.func12, Tryz.ntmps12
      go_wp2_with (first
       | (go_at_call 31; refine (H1.out _).mono ?_; rintro e9 w9 ⟨rfl, hw9⟩; obtain rfl := hw9.symm; clear H1)
       | (go_at_call 32; refine (H2.out _).mono ?_; rintro e9 w9 ⟨rfl, hw9⟩; obtain rfl := hw9.symm; clear H2)
       | (go_at_call 33; refine (HKd.out _).mono ?_; rintro e9 w1 ⟨rfl, hb⟩; obtain ⟨c0, c1, c2, c3, c4, c5, c6, c7⟩ := cells8 (Keep.ofBelow hb); have HK1 : Hid (Keep [] w w1) := K0.out.trans' (Keep.ofBelow hb); clear hb HKd)
       | (go_at_call 31; refine (H3.out _).mono ?_; rintro e9 w9 ⟨rfl, hw9⟩; obtain rfl := hw9.symm; clear H3))
      go_ret
      exact ⟨by simp, HK1.out⟩
     | true =>
      cases b5 with
      | false =>
       go_enter Tryz.func12, Tryz.ntmps12
       go_wp2_with (first
        | (go_at_call 31; refine (H1.out _).mono ?_; rintro e9 w9 ⟨rfl, hw9⟩; obtain rfl := hw9.symm; clear H1)
        | (go_at_call 32; refine (H2.out _).mono ?_; rintro e9 w9 ⟨rfl, hw9⟩; obtain rfl := hw9.symm; clear H2)
        | (go_at_call 33; refine (HKd.out _).mono ?_; rintro e9 w1 ⟨rfl, hb⟩; obtain ⟨c0, c1, c2, c3, c4, c5, c6, c7⟩ := cells8 (Keep.ofBelow hb); have HK1 : Hid (Keep [] w w1) := K0.out.trans' (Keep.ofBelow hb); clear hb HKd)
        | (go_at_call 31; refine (H3.out _).mono ?_; rintro e9 w9 ⟨rfl, hw9⟩; obtain rfl := hw9.symm; clear H3)
        | (go_at_call 34; refine (H5.out _ HK1.out).mono ?_; rintro e9 w2 ⟨rfl, k2⟩; have HK2 : Hid (Keep [] w w2) := HK1.out.trans' k2; clear k2))
       go_ret
       exact ⟨by simp, HK2.out⟩
      | true =>
       go_enter Tryz.func12, Tryz.ntmps12
       go_wp2_with (first
        | (go_at_call 31; refine (H1.out _).mono ?_; rintro e9 w9 ⟨rfl, hw9⟩; obtain rfl := hw9.symm; clear H1)
        | (go_at_call 32; refine (H2.out _).mono ?_; rintro e9 w9 ⟨rfl, hw9⟩; obtain rfl := hw9.symm; clear H2)
        | (go_at_call 33; refine (HKd.out _).mono ?_; rintro e9 w1 ⟨rfl, hb⟩; obtain ⟨c0, c1, c2, c3, c4, c5, c6, c7⟩ := cells8 (Keep.ofBelow hb); have HK1 : Hid (Keep [] w w1) := K0.out.trans' (Keep.ofBelow hb); clear hb HKd)
        | (go_at_call 31; refine (H3.out _).mono ?_; rintro e9 w9 ⟨rfl, hw9⟩; obtain rfl := hw9.symm; clear H3)
        | (go_at_call 34; refine (H5.out _ HK1.out).mono ?_; rintro e9 w2 ⟨rfl, k2⟩; have HK2 : Hid (Keep [] w w2) := HK1.out.trans' k2; clear k2))
       go_ret
       exact ⟨by simp, HK2.out⟩
    | false =>
     cases b4 with
     | false =>
      cases b3 with
      | false =>
       go_enter Tryz.func12, Tryz.ntmps12
       go_wp2_with (first
        | (go_at_call 31; refine (H1.out _).mono ?_; rintro e9 w9 ⟨rfl, hw9⟩; obtain rfl := hw9.symm; clear H1)
        | (go_at_call 32; refine (H2.out _).mono ?_; rintro e9 w9 ⟨rfl, hw9⟩; obtain rfl := hw9.symm; clear H2)
        | (go_at_call 33; refine (HKd.out _).mono ?_; rintro e9 w1 ⟨rfl, hb⟩; obtain ⟨c0, c1, c2, c3, c4, c5, c6, c7⟩ := cells8 (Keep.ofBelow hb); have HK1 : Hid (Keep [] w w1) := K0.out.trans' (Keep.ofBelow hb); clear hb HKd)
        | (go_at_call 31; refine (H4.out _).mono ?_; rintro e9 w9 ⟨rfl, hw9⟩; obtain rfl := hw9.symm; clear H4)
        | (go_at_call 31; refine (H3.out _).mono ?_; rintro e9 w9 ⟨rfl, hw9⟩; obtain rfl := hw9.symm; clear H3))
       go_ret
       exact ⟨by simp, HK1.out⟩
      | true =>
       go_enter Tryz.func12, Tryz.ntmps12
       go_wp2_with (first
        | (go_at_call 31; refine (H1.out _).mono ?_; rintro e9 w9 ⟨rfl, hw9⟩; obtain rfl := hw9.symm; clear H1)
        | (go_at_call 32; refine (H2.out _).mono ?_; rintro e9 w9 ⟨rfl, hw9⟩; obtain rfl := hw9.symm; clear H2)
        | (go_at_call 33; refine (HKd.out _).mono ?_; rintro e9 w1 ⟨rfl, hb⟩; obtain ⟨c0, c1, c2, c3, c4, c5, c6, c7⟩ := cells8 (Keep.ofBelow hb); have HK1 : Hid (Keep [] w w1) := K0.out.trans' (Keep.ofBelow hb); clear hb HKd)
        | (go_at_call 31; refine (H4.out _).mono ?_; rintro e9 w9 ⟨rfl, hw9⟩; obtain rfl := hw9.symm; clear H4)
        | (go_at_call 31; refine (H3.out _).mono ?_; rintro e9 w9 ⟨rfl, hw9⟩; obtain rfl := hw9.symm; clear H3))
       go_ret
       exact ⟨by simp, HK1.out⟩
     | true =>
      cases b3 with
      | false =>
       go_enter Tryz.func12, Tryz.ntmps12
       go_wp2_with (first
        | (go_at_call 31; refine (H1.out _).mono ?_; rintro e9 w9 ⟨rfl, hw9⟩; obtain rfl := hw9.symm; clear H1)
        | (go_at_call 32; refine (H2.out _).mono ?_; rintro e9 w9 ⟨rfl, hw9⟩; obtain rfl := hw9.symm; clear H2)
        | (go_at_call 33; refine (HKd.out _).mono ?_; rintro e9 w1 ⟨rfl, hb⟩; obtain ⟨c0, c1, c2, c3, c4, c5, c6, c7⟩ := cells8 (Keep.ofBelow hb); have HK1 : Hid (Keep [] w w1) := K0.out.trans' (Keep.ofBelow hb); clear hb HKd)
        | (go_at_call 31; refine (H4.out _).mono ?_; rintro e9 w9 ⟨rfl, hw9⟩; obtain rfl := hw9.symm; clear H4)
        | (go_at_call 31; refine (H3.out _).mono ?_; rintro e9 w9 ⟨rfl, hw9⟩; obtain rfl := hw9.symm; clear H3))
       go_ret
       exact ⟨by simp, HK1.out⟩
      | true =>
       cases b5 with
       | false =>
        go_enter Tryz.func12, Tryz.ntmps12
        go_wp2_with (first
         | (go_at_call 31; refine (H1.out _).mono ?_; rintro e9 w9 ⟨rfl, hw9⟩; obtain rfl := hw9.symm; clear H1)
         | (go_at_call 32; refine (H2.out _).mono ?_; rintro e9 w9 ⟨rfl, hw9⟩; obtain rfl := hw9.symm; clear H2)
         | (go_at_call 33; refine (HKd.out _).mono ?_; rintro e9 w1 ⟨rfl, hb⟩; obtain ⟨c0, c1, c2, c3, c4, c5, c6, c7⟩ := cells8 (Keep.ofBelow hb); have HK1 : Hid (Keep [] w w1) := K0.out.trans' (Keep.ofBelow hb); clear hb HKd)
         | (go_at_call 31; refine (H4.out _).mono ?_; rintro e9 w9 ⟨rfl, hw9⟩; obtain rfl := hw9.symm; clear H4)
         | (go_at_call 31; refine (H3.out _).mono ?_; rintro e9 w9 ⟨rfl, hw9⟩; obtain rfl := hw9.symm; clear H3)
         | (go_at_call 34; refine (H5.out _ HK1.out).mono ?_; rintro e9 w2 ⟨rfl, k2⟩; have HK2 : Hid (Keep [] w w2) := HK1.out.trans' k2; clear k2))
        go_ret
        exact ⟨by simp, HK2.out⟩
       | true =>
        go_enter Tryz.func12, Tryz.ntmps12
        go_wp2_with (first
         | (go_at_call 31; refine (H1.out _).mono ?_; rintro e9 w9 ⟨rfl, hw9⟩; obtain rfl := hw9.symm; clear H1)
         | (go_at_call 32; refine (H2.out _).mono ?_; rintro e9 w9 ⟨rfl, hw9⟩; obtain rfl := hw9.symm; clear H2)
         | (go_at_call 33; refine (HKd.out _).mono ?_; rintro e9 w1 ⟨rfl, hb⟩; obtain ⟨c0, c1, c2, c3, c4, c5, c6, c7⟩ := cells8 (Keep.ofBelow hb); have HK1 : Hid (Keep [] w w1) := K0.out.trans' (Keep.ofBelow hb); clear hb HKd)
         | (go_at_call 31; refine (H4.out _).mono ?_; rintro e9 w9 ⟨rfl, hw9⟩; obtain rfl := hw9.symm; clear H4)
         | (go_at_call 31; refine (H3.out _).mono ?_; rintro e9 w9 ⟨rfl, hw9⟩; obtain rfl := hw9.symm; clear H3)
         | (go_at_call 34; refine (H5.out _ HK1.out).mono ?_; rintro e9 w2 ⟨rfl, k2⟩; have HK2 : Hid (Keep [] w w2) := HK1.out.trans' k2; clear k2))
        go_ret
        exact ⟨by simp, HK2.out⟩
   ·replace hk0 : (k != 0) = false := by simpa using hk0
    rw [hk0]
    cases ge with
    | true =>
     cases b3 with
     | false =>
      go_enter Tryz.func12, Tryz.ntmps12
      go_wp2_with (first
       | (go_at_call 31; refine (H1.out _).mono ?_; rintro e9 w9 ⟨rfl, hw9⟩; obtain rfl := hw9.symm; clear H1)
       | (go_at_call 32; refine (H2.out _).mono ?_; rintro e9 w9 ⟨rfl, hw9⟩; obtain rfl := hw9.symm; clear H2)
       | (go_at_call 33; refine (HKd.out _).mono ?_; rintro e9 w1 ⟨rfl, hb⟩; obtain ⟨c0, c1, c2, c3, c4, c5, c6, c7⟩ := cells8 (Keep.ofBelow hb); have HK1 : Hid (Keep [] w w1) := K0.out.trans' (Keep.ofBelow hb); clear hb HKd)
       | (go_at_call 31; refine (H3.out _).mono ?_; rintro e9 w9 ⟨rfl, hw9⟩; obtain rfl := hw9.symm; clear H3))
      go_ret
      exact ⟨by simp, HK1.out⟩
     | true =>
      go_enter Tryz.func12, Tryz.ntmps12
      go_wp2_with (first
       | (go_at_call 31; refine (H1.out _).mono ?_; rintro e9 w9 ⟨rfl, hw9⟩; obtain rfl := hw9.symm; clear H1)
       | (go_at_call 32; refine (H2.out _).mono ?_; rintro e9 w9 ⟨rfl, hw9⟩; obtain rfl := hw9.symm; clear H2)
       | (go_at_call 33; refine (HKd.out _).mono ?_; rintro e9 w1 ⟨rfl, hb⟩; obtain ⟨c0, c1, c2, c3, c4, c5, c6, c7⟩ := cells8 (Keep.ofBelow hb); have HK1 : Hid (Keep [] w w1) := K0.out.trans' (Keep.ofBelow hb); clear hb HKd)
       | (go_at_call 31; refine (H3.out _).mono ?_; rintro e9 w9 ⟨rfl, hw9⟩; obtain rfl := hw9.symm; clear H3))
      go_ret
      exact ⟨by simp, HK1.out⟩
    | false =>
     cases b4 with
     | false =>
      cases b3 with
      | false =>
       go_enter Tryz.func12, Tryz.ntmps12
       go_wp2_with (first
        | (go_at_call 31; refine (H1.out _).mono ?_; rintro e9 w9 ⟨rfl, hw9⟩; obtain rfl := hw9.symm; clear H1)
        | (go_at_call 32; refine (H2.out _).mono ?_; rintro e9 w9 ⟨rfl, hw9⟩; obtain rfl := hw9.symm; clear H2)
        | (go_at_call 33; refine (HKd.out _).mono ?_; rintro e9 w1 ⟨rfl, hb⟩; obtain ⟨c0, c1, c2, c3, c4, c5, c6, c7⟩ := cells8 (Keep.ofBelow hb); have HK1 : Hid (Keep [] w w1) := K0.out.trans' (Keep.ofBelow hb); clear hb HKd)
        | (go_at_call 31; refine (H4.out _).mono ?_; rintro e9 w9 ⟨rfl, hw9⟩; obtain rfl := hw9.symm; clear H4)
        | (go_at_call 31; refine (H3.out _).mono ?_; rintro e9 w9 ⟨rfl, hw9⟩; obtain rfl := hw9.symm; clear H3))
       go_ret
       exact ⟨by simp, HK1.out⟩
      | true =>
       go_enter Tryz.func12, Tryz.ntmps12
       go_wp2_with (first
        | (go_at_call 31; refine (H1.out _).mono ?_; rintro e9 w9 ⟨rfl, hw9⟩; obtain rfl := hw9.symm; clear H1)
        | (go_at_call 32; refine (H2.out _).mono ?_; rintro e9 w9 ⟨rfl, hw9⟩; obtain rfl := hw9.symm; clear H2)
        | (go_at_call 33; refine (HKd.out _).mono ?_; rintro e9 w1 ⟨rfl, hb⟩; obtain ⟨c0, c1, c2, c3, c4, c5, c6, c7⟩ := cells8 (Keep.ofBelow hb); have HK1 : Hid (Keep [] w w1) := K0.out.trans' (Keep.ofBelow hb); clear hb HKd)
        | (go_at_call 31; refine (H4.out _).mono ?_; rintro e9 w9 ⟨rfl, hw9⟩; obtain rfl := hw9.symm; clear H4)
        | (go_at_call 31; refine (H3.out _).mono ?_; rintro e9 w9 ⟨rfl, hw9⟩; obtain rfl := hw9.symm; clear H3))
       go_ret
       exact ⟨by simp, HK1.out⟩
     | true =>
      cases b3 with
      | false =>
       go_enter Tryz.func12, Tryz.ntmps12
       go_wp2_with (first
        | (go_at_call 31; refine (H1.out _).mono ?_; rintro e9 w9 ⟨rfl, hw9⟩; obtain rfl := hw9.symm; clear H1)
        | (go_at_call 32; refine (H2.out _).mono ?_; rintro e9 w9 ⟨rfl, hw9⟩; obtain rfl := hw9.symm; clear H2)
        | (go_at_call 33; refine (HKd.out _).mono ?_; rintro e9 w1 ⟨rfl, hb⟩; obtain ⟨c0, c1, c2, c3, c4, c5, c6, c7⟩ := cells8 (Keep.ofBelow hb); have HK1 : Hid (Keep [] w w1) := K0.out.trans' (Keep.ofBelow hb); clear hb HKd)
        | (go_at_call 31; refine (H4.out _).mono ?_; rintro e9 w9 ⟨rfl, hw9⟩; obtain rfl := hw9.symm; clear H4)
        | (go_at_call 31; refine (H3.out _).mono ?_; rintro e9 w9 ⟨rfl, hw9⟩; obtain rfl := hw9.symm; clear H3))
       go_ret
       exact ⟨by simp, HK1.out⟩
      | true =>
       go_enter Tryz.func12, Tryz.ntmps12
       go_wp2_with (first
        | (go_at_call 31; refine (H1.out _).mono ?_; rintro e9 w9 ⟨rfl, hw9⟩; obtain rfl := hw9.symm; clear H1)
        | (go_at_call 32; refine (H2.out _).mono ?_; rintro e9 w9 ⟨rfl, hw9⟩; obtain rfl := hw9.symm; clear H2)
        | (go_at_call 33; refine (HKd.out _).mono ?_; rintro e9 w1 ⟨rfl, hb⟩; obtain ⟨c0, c1, c2, c3, c4, c5, c6, c7⟩ := cells8 (Keep.ofBelow hb); have HK1 : Hid (Keep [] w w1) := K0.out.trans' (Keep.ofBelow hb); clear hb HKd)
        | (go_at_call 31; refine (H4.out _).mono ?_; rintro e9 w9 ⟨rfl, hw9⟩; obtain rfl := hw9.symm; clear H4)
        | (go_at_call 31; refine (H3.out _).mono ?_; rintro e9 w9 ⟨rfl, hw9⟩; obtain rfl := hw9.symm; clear H3))
       go_ret
       exact ⟨by simp, HK1.out⟩
theorem mayBe_any (y : K7) (u : Value) (l : List AD) (w : World) (hu : As w u l) :
  Calls Tryz.prog 12 #[y.tup u] w fun e w' => e = .returned (.bool (mayT y l)) ∧ Keep [] w w' := by
 obtain ⟨ao, ca, hs, _, _, _⟩ := hu.ex
 exact mayBe_run y u _ _ _ _ _ _ _ w (show (y.g.toList == ([] : List UInt8)) = y.g.toList.isEmpty by cases y.g.toList <;> rfl) (fun w => name_any y.a w) (fun w => id_any y.b w) (fun w => name_any y.c w) (fun w => name_any y.g w) (fun w => kind_any y.d y.e y.f w) (fun w1 k => argsMay_any y u l w1 (hu.keep0 k)) ⟨ao, _, ca, hs⟩
end Go.Proofs.YtfpcpociejefaaaGreatDoor
