/- The walk of TuplesFilters. -/
import Derived.Test.YtbflhpafejmelaaFilG
namespace Go.Proofs.Ytbflhpafejmelaa
open Go.RowKit Go.PlainAid

set_option maxRecDepth 1000000 in
set_option maxHeartbeats 8000000 in
theorem filters_2 (a b c d e f g a' b' c' d' e' f' g' : ByteArray) (u : Value) (w : World) (_hs : b'.size ≤ 9223372036854775806) (z : Int) (ha : okB a a' = true) (hb : okB b b' = true) (hc : okB c c' = false) :
    Calls Try.prog 5 #[.agg #[.string a, .string b, .string c, .string d, .string e, .string f, .string g], .agg #[.string a', .string b', .string c', .string d', .string e', .string f', .string g', u], .int .i64 z] w fun e w' => e = .returned (.bool true) ∧ Keep [] w w' := by
    have A0 : Hid (∀ w, Calls Try.prog 14 #[.agg #[.string a, .string ByteArray.empty, .string ByteArray.empty, .string ByteArray.empty, .string ByteArray.empty, .string ByteArray.empty, .string ByteArray.empty], .agg #[.string a', .string b', .string c', .string d', .string e', .string f', .string g', u]] w fun e w' => e = .returned (.bool true) ∧ Keep [] w w') := fun w => lets_said (lets_of ha (okB_nil _) (okB_nil _) (okB_nil _) (okB_nil _) (okB_nil _) (okB_nil _)) u w
    have A1 : Hid (∀ w, Calls Try.prog 14 #[.agg #[.string ByteArray.empty, .string b, .string ByteArray.empty, .string ByteArray.empty, .string ByteArray.empty, .string ByteArray.empty, .string ByteArray.empty], .agg #[.string a', .string b', .string c', .string d', .string e', .string f', .string g', u]] w fun e w' => e = .returned (.bool true) ∧ Keep [] w w') := fun w => lets_said (lets_of (okB_nil _) hb (okB_nil _) (okB_nil _) (okB_nil _) (okB_nil _) (okB_nil _)) u w
    have A2 : Hid (∀ w, Calls Try.prog 14 #[.agg #[.string ByteArray.empty, .string ByteArray.empty, .string c, .string ByteArray.empty, .string ByteArray.empty, .string ByteArray.empty, .string ByteArray.empty], .agg #[.string a', .string b', .string c', .string d', .string e', .string f', .string g', u]] w fun e w' => e = .returned (.bool false) ∧ Keep [] w w') := fun w => lets_said (lets_of (okB_nil _) (okB_nil _) hc (okB_nil _) (okB_nil _) (okB_nil _) (okB_nil _)) u w
    have AW : Hid (∀ w, Calls Try.prog 14 #[.agg #[.string a, .string b, .string c, .string d, .string e, .string f, .string g], .agg #[.string a', .string b', .string c', .string d', .string e', .string f', .string g', u]] w fun e w' => e = .returned (.bool false) ∧ Keep [] w w') := fun w => lets_said (by simp [letsB, ha, hb, hc]) u w
    have AE : Hid (∀ w, Calls Try.prog 14 #[.agg #[.string ByteArray.empty, .string ByteArray.empty, .string ByteArray.empty, .string ByteArray.empty, .string ByteArray.empty, .string ByteArray.empty, .string ByteArray.empty], .agg #[.string a', .string b', .string c', .string d', .string e', .string f', .string g', u]] w fun e w' => e = .returned (.bool true) ∧ Keep [] w w') := fun w => lets_said (lets_of (okB_nil _) (okB_nil _) (okB_nil _) (okB_nil _) (okB_nil _) (okB_nil _) (okB_nil _) ) u w
    have AG : Hid (∀ w, Calls Try.prog 14 #[.agg #[.string a', .string b', .string c', .string d', .string e', .string f', .string g'], .agg #[.string a', .string b', .string c', .string d', .string e', .string f', .string g', u]] w fun e w' => e = .returned (.bool true) ∧ Keep [] w w') := fun w => lets_said (lets_of (okB_self _) (okB_self _) (okB_self _) (okB_self _) (okB_self _) (okB_self _) (okB_self _) ) u w
    clear ha hb hc
    go_enter Try.func5, Try.ntmps5
    go_wp2_with fail
    refine (A0.out _).mono ?_
    rintro e w9 ⟨rfl, k9⟩
    obtain ⟨T0, k0⟩ := Two.first (x := ⟨a, b, c, d, e, f, g⟩) (y := ⟨a', b', c', d', e', f', g'⟩) k9
    have HT0 : Hid _ := T0
    have HK0 : Hid _ := k0
    clear k9 T0 k0
    obtain ⟨f0, f1, f2, f3, f4, f5, f6, t0, t1, t2, t3, t4, t5, t6, t7⟩ := HT0.out
    go_wp2_with fail
    refine (A1.out _).mono ?_
    rintro e w9 ⟨rfl, k9⟩
    have HT1 : Hid _ := HT0.out.keep k9
    have HK1 : Hid _ := HK0.out.trans' k9
    clear f0 f1 f2 f3 f4 f5 f6 t0 t1 t2 t3 t4 t5 t6 t7 k9 HT0 HK0
    obtain ⟨f0, f1, f2, f3, f4, f5, f6, t0, t1, t2, t3, t4, t5, t6, t7⟩ := HT1.out
    go_wp2_with fail
    refine (A2.out _).mono ?_
    rintro e w9 ⟨rfl, k9⟩
    have HT2 : Hid _ := HT1.out.keep k9
    have HK2 : Hid _ := HK1.out.trans' k9
    clear f0 f1 f2 f3 f4 f5 f6 t0 t1 t2 t3 t4 t5 t6 t7 k9 HT1 HK1
    obtain ⟨f0, f1, f2, f3, f4, f5, f6, t0, t1, t2, t3, t4, t5, t6, t7⟩ := HT2.out
    go_wp2_with fail
    refine (AW.out _).mono ?_
    rintro e w9 ⟨rfl, k9⟩
    have HT3 : Hid _ := HT2.out.keep k9
    have HK3 : Hid _ := HK2.out.trans' k9
    clear f0 f1 f2 f3 f4 f5 f6 t0 t1 t2 t3 t4 t5 t6 t7 k9 HT2 HK2
    obtain ⟨f0, f1, f2, f3, f4, f5, f6, t0, t1, t2, t3, t4, t5, t6, t7⟩ := HT3.out
    go_wp2_with fail
    refine (AE.out _).mono ?_
    rintro e w9 ⟨rfl, k9⟩
    have HT4 : Hid _ := HT3.out.keep k9
    have HK4 : Hid _ := HK3.out.trans' k9
    clear f0 f1 f2 f3 f4 f5 f6 t0 t1 t2 t3 t4 t5 t6 t7 k9 HT3 HK3
    obtain ⟨f0, f1, f2, f3, f4, f5, f6, t0, t1, t2, t3, t4, t5, t6, t7⟩ := HT4.out
    have HA : Hid _ := HT4.out.box
    obtain ⟨q0, q1, q2, q3, q4, q5, q6, q7⟩ := HA.out
    go_wp2_with fail
    refine (AG.out _).mono ?_
    rintro e w9 ⟨rfl, k9⟩
    have HT5 : Hid _ := (HT4.out.keep (Keep.alloc1 _ _)).keep k9
    have HG : Hid _ := G7.first k9
    have HK5 : Hid _ := (HK4.out.alloc _).trans' k9
    have HB : Hid _ := HT4.out.off HK4.out
    clear f0 f1 f2 f3 f4 f5 f6 t0 t1 t2 t3 t4 t5 t6 t7 k9 HT4 HK4
    obtain ⟨f0, f1, f2, f3, f4, f5, f6, t0, t1, t2, t3, t4, t5, t6, t7⟩ := HT5.out
    obtain ⟨⟨g0, g1, g2, g3, g4, g5, g6⟩, gn⟩ := HG.out
    have HN : Hid _ := HT5.out.lt
    have n1 := HB.out.2.1
    have n2 := HB.out.2.2
    clear q0 q1 q2 q3 q4 q5 q6 q7 HA
    rcases (show z = 0 ∨ z = 1 ∨ z = 2 ∨ z = 3 ∨ z = 4 ∨ z = 5 ∨ (¬ z = 0 ∧ ¬ z = 1 ∧ ¬ z = 2 ∧ ¬ z = 3 ∧ ¬ z = 4 ∧ ¬ z = 5) by omega) with rfl | rfl | rfl | rfl | rfl | rfl | ⟨z0, z1, z2, z3, z4, z5⟩
    · have AL : Hid (∀ w, Calls Try.prog 14 #[.agg #[.string ByteArray.empty, .string b', .string c', .string d', .string e', .string f', .string g'], .agg #[.string a', .string b', .string c', .string d', .string e', .string f', .string g', u]] w fun e w' => e = .returned (.bool true) ∧ Keep [] w w') := fun w => lets_said (lets_of (okB_nil _) (okB_self _) (okB_self _) (okB_self _) (okB_self _) (okB_self _) (okB_self _)) u w
      go_wp2_with fail
      refine (AL.out _).mono ?_
      rintro e w9 ⟨rfl, k9⟩
      go_wp2
      go_ret
      exact ⟨rfl, (HK5.out.setCell (.inr HB.out.1) _).trans' k9⟩
    · have AL : Hid (∀ w, Calls Try.prog 14 #[.agg #[.string a', .string ByteArray.empty, .string c', .string d', .string e', .string f', .string g'], .agg #[.string a', .string b', .string c', .string d', .string e', .string f', .string g', u]] w fun e w' => e = .returned (.bool true) ∧ Keep [] w w') := fun w => lets_said (lets_of (okB_self _) (okB_nil _) (okB_self _) (okB_self _) (okB_self _) (okB_self _) (okB_self _)) u w
      go_wp2_with fail
      refine (AL.out _).mono ?_
      rintro e w9 ⟨rfl, k9⟩
      go_wp2
      go_ret
      exact ⟨rfl, (HK5.out.setCell (.inr HB.out.1) _).trans' k9⟩
    · have AL : Hid (∀ w, Calls Try.prog 14 #[.agg #[.string a', .string b', .string ByteArray.empty, .string d', .string e', .string f', .string g'], .agg #[.string a', .string b', .string c', .string d', .string e', .string f', .string g', u]] w fun e w' => e = .returned (.bool true) ∧ Keep [] w w') := fun w => lets_said (lets_of (okB_self _) (okB_self _) (okB_nil _) (okB_self _) (okB_self _) (okB_self _) (okB_self _)) u w
      go_wp2_with fail
      refine (AL.out _).mono ?_
      rintro e w9 ⟨rfl, k9⟩
      go_wp2
      go_ret
      exact ⟨rfl, (HK5.out.setCell (.inr HB.out.1) _).trans' k9⟩
    · have AL : Hid (∀ w, Calls Try.prog 14 #[.agg #[.string a', .string b', .string c', .string ByteArray.empty, .string ByteArray.empty, .string ByteArray.empty, .string g'], .agg #[.string a', .string b', .string c', .string d', .string e', .string f', .string g', u]] w fun e w' => e = .returned (.bool true) ∧ Keep [] w w') := fun w => lets_said (lets_of (okB_self _) (okB_self _) (okB_self _) (okB_nil _) (okB_nil _) (okB_nil _) (okB_self _)) u w
      go_wp2_with fail
      refine (AL.out _).mono ?_
      rintro e w9 ⟨rfl, k9⟩
      go_wp2
      go_ret
      exact ⟨rfl, (((HK5.out.setCell (.inr HB.out.1) _).setCell (.inr HB.out.1) _).setCell (.inr HB.out.1) _).trans' k9⟩
    · have AL : Hid (∀ w, Calls Try.prog 14 #[.agg #[.string a', .string b', .string c', .string d', .string e', .string f', .string ByteArray.empty], .agg #[.string a', .string b', .string c', .string d', .string e', .string f', .string g', u]] w fun e w' => e = .returned (.bool true) ∧ Keep [] w w') := fun w => lets_said (lets_of (okB_self _) (okB_self _) (okB_self _) (okB_self _) (okB_self _) (okB_self _) (okB_nil _)) u w
      go_wp2_with fail
      refine (AL.out _).mono ?_
      rintro e w9 ⟨rfl, k9⟩
      go_wp2
      go_ret
      exact ⟨rfl, (HK5.out.setCell (.inr HB.out.1) _).trans' k9⟩
    · have AL : Hid (∀ w, Calls Try.prog 14 #[.agg #[.string a', .string (b' ++ ⟨#[120]⟩), .string c', .string d', .string e', .string f', .string g'], .agg #[.string a', .string b', .string c', .string d', .string e', .string f', .string g', u]] w fun e w' => e = .returned (.bool false) ∧ Keep [] w w') := fun w => lets_said (lets_of (okB_self _) (okB_more _) (okB_self _) (okB_self _) (okB_self _) (okB_self _) (okB_self _)) u w
      go_wp2_with fail
      refine (AL.out _).mono ?_
      rintro e w9 ⟨rfl, k9⟩
      go_wp2
      go_ret
      exact ⟨rfl, (HK5.out.setCell (.inr HB.out.1) _).trans' k9⟩
    · have AL : Hid (∀ w, Calls Try.prog 14 #[.agg #[.string a', .string b', .string c', .string d', .string e', .string f', .string g'], .agg #[.string a', .string b', .string c', .string d', .string e', .string f', .string g', u]] w fun e w' => e = .returned (.bool true) ∧ Keep [] w w') := fun w => lets_said (lets_of (okB_self _) (okB_self _) (okB_self _) (okB_self _) (okB_self _) (okB_self _) (okB_self _)) u w
      go_wp2_with fail
      refine (AL.out _).mono ?_
      rintro e w9 ⟨rfl, k9⟩
      go_wp2
      go_ret
      exact ⟨rfl, HK5.out.trans' k9⟩
set_option maxRecDepth 1000000 in
set_option maxHeartbeats 8000000 in
theorem filters_3 (a b c d e f g a' b' c' d' e' f' g' : ByteArray) (u : Value) (w : World) (_hs : b'.size ≤ 9223372036854775806) (z : Int) (ha : okB a a' = true) (hb : okB b b' = true) (hc : okB c c' = true) (hg : okB g g' = false) :
    Calls Try.prog 5 #[.agg #[.string a, .string b, .string c, .string d, .string e, .string f, .string g], .agg #[.string a', .string b', .string c', .string d', .string e', .string f', .string g', u], .int .i64 z] w fun e w' => e = .returned (.bool true) ∧ Keep [] w w' := by
    have A0 : Hid (∀ w, Calls Try.prog 14 #[.agg #[.string a, .string ByteArray.empty, .string ByteArray.empty, .string ByteArray.empty, .string ByteArray.empty, .string ByteArray.empty, .string ByteArray.empty], .agg #[.string a', .string b', .string c', .string d', .string e', .string f', .string g', u]] w fun e w' => e = .returned (.bool true) ∧ Keep [] w w') := fun w => lets_said (lets_of ha (okB_nil _) (okB_nil _) (okB_nil _) (okB_nil _) (okB_nil _) (okB_nil _)) u w
    have A1 : Hid (∀ w, Calls Try.prog 14 #[.agg #[.string ByteArray.empty, .string b, .string ByteArray.empty, .string ByteArray.empty, .string ByteArray.empty, .string ByteArray.empty, .string ByteArray.empty], .agg #[.string a', .string b', .string c', .string d', .string e', .string f', .string g', u]] w fun e w' => e = .returned (.bool true) ∧ Keep [] w w') := fun w => lets_said (lets_of (okB_nil _) hb (okB_nil _) (okB_nil _) (okB_nil _) (okB_nil _) (okB_nil _)) u w
    have A2 : Hid (∀ w, Calls Try.prog 14 #[.agg #[.string ByteArray.empty, .string ByteArray.empty, .string c, .string ByteArray.empty, .string ByteArray.empty, .string ByteArray.empty, .string ByteArray.empty], .agg #[.string a', .string b', .string c', .string d', .string e', .string f', .string g', u]] w fun e w' => e = .returned (.bool true) ∧ Keep [] w w') := fun w => lets_said (lets_of (okB_nil _) (okB_nil _) hc (okB_nil _) (okB_nil _) (okB_nil _) (okB_nil _)) u w
    have A3 : Hid (∀ w, Calls Try.prog 14 #[.agg #[.string ByteArray.empty, .string ByteArray.empty, .string ByteArray.empty, .string ByteArray.empty, .string ByteArray.empty, .string ByteArray.empty, .string g], .agg #[.string a', .string b', .string c', .string d', .string e', .string f', .string g', u]] w fun e w' => e = .returned (.bool false) ∧ Keep [] w w') := fun w => lets_said (lets_of (okB_nil _) (okB_nil _) (okB_nil _) (okB_nil _) (okB_nil _) (okB_nil _) hg) u w
    have AW : Hid (∀ w, Calls Try.prog 14 #[.agg #[.string a, .string b, .string c, .string d, .string e, .string f, .string g], .agg #[.string a', .string b', .string c', .string d', .string e', .string f', .string g', u]] w fun e w' => e = .returned (.bool false) ∧ Keep [] w w') := fun w => lets_said (by simp [letsB, ha, hb, hc, hg]) u w
    have AE : Hid (∀ w, Calls Try.prog 14 #[.agg #[.string ByteArray.empty, .string ByteArray.empty, .string ByteArray.empty, .string ByteArray.empty, .string ByteArray.empty, .string ByteArray.empty, .string ByteArray.empty], .agg #[.string a', .string b', .string c', .string d', .string e', .string f', .string g', u]] w fun e w' => e = .returned (.bool true) ∧ Keep [] w w') := fun w => lets_said (lets_of (okB_nil _) (okB_nil _) (okB_nil _) (okB_nil _) (okB_nil _) (okB_nil _) (okB_nil _) ) u w
    have AG : Hid (∀ w, Calls Try.prog 14 #[.agg #[.string a', .string b', .string c', .string d', .string e', .string f', .string g'], .agg #[.string a', .string b', .string c', .string d', .string e', .string f', .string g', u]] w fun e w' => e = .returned (.bool true) ∧ Keep [] w w') := fun w => lets_said (lets_of (okB_self _) (okB_self _) (okB_self _) (okB_self _) (okB_self _) (okB_self _) (okB_self _) ) u w
    clear ha hb hc hg
    go_enter Try.func5, Try.ntmps5
    go_wp2_with fail
    refine (A0.out _).mono ?_
    rintro e w9 ⟨rfl, k9⟩
    obtain ⟨T0, k0⟩ := Two.first (x := ⟨a, b, c, d, e, f, g⟩) (y := ⟨a', b', c', d', e', f', g'⟩) k9
    have HT0 : Hid _ := T0
    have HK0 : Hid _ := k0
    clear k9 T0 k0
    obtain ⟨f0, f1, f2, f3, f4, f5, f6, t0, t1, t2, t3, t4, t5, t6, t7⟩ := HT0.out
    go_wp2_with fail
    refine (A1.out _).mono ?_
    rintro e w9 ⟨rfl, k9⟩
    have HT1 : Hid _ := HT0.out.keep k9
    have HK1 : Hid _ := HK0.out.trans' k9
    clear f0 f1 f2 f3 f4 f5 f6 t0 t1 t2 t3 t4 t5 t6 t7 k9 HT0 HK0
    obtain ⟨f0, f1, f2, f3, f4, f5, f6, t0, t1, t2, t3, t4, t5, t6, t7⟩ := HT1.out
    go_wp2_with fail
    refine (A2.out _).mono ?_
    rintro e w9 ⟨rfl, k9⟩
    have HT2 : Hid _ := HT1.out.keep k9
    have HK2 : Hid _ := HK1.out.trans' k9
    clear f0 f1 f2 f3 f4 f5 f6 t0 t1 t2 t3 t4 t5 t6 t7 k9 HT1 HK1
    obtain ⟨f0, f1, f2, f3, f4, f5, f6, t0, t1, t2, t3, t4, t5, t6, t7⟩ := HT2.out
    go_wp2_with fail
    refine (A3.out _).mono ?_
    rintro e w9 ⟨rfl, k9⟩
    have HT3 : Hid _ := HT2.out.keep k9
    have HK3 : Hid _ := HK2.out.trans' k9
    clear f0 f1 f2 f3 f4 f5 f6 t0 t1 t2 t3 t4 t5 t6 t7 k9 HT2 HK2
    obtain ⟨f0, f1, f2, f3, f4, f5, f6, t0, t1, t2, t3, t4, t5, t6, t7⟩ := HT3.out
    go_wp2_with fail
    refine (AW.out _).mono ?_
    rintro e w9 ⟨rfl, k9⟩
    have HT4 : Hid _ := HT3.out.keep k9
    have HK4 : Hid _ := HK3.out.trans' k9
    clear f0 f1 f2 f3 f4 f5 f6 t0 t1 t2 t3 t4 t5 t6 t7 k9 HT3 HK3
    obtain ⟨f0, f1, f2, f3, f4, f5, f6, t0, t1, t2, t3, t4, t5, t6, t7⟩ := HT4.out
    go_wp2_with fail
    refine (AE.out _).mono ?_
    rintro e w9 ⟨rfl, k9⟩
    have HT5 : Hid _ := HT4.out.keep k9
    have HK5 : Hid _ := HK4.out.trans' k9
    clear f0 f1 f2 f3 f4 f5 f6 t0 t1 t2 t3 t4 t5 t6 t7 k9 HT4 HK4
    obtain ⟨f0, f1, f2, f3, f4, f5, f6, t0, t1, t2, t3, t4, t5, t6, t7⟩ := HT5.out
    have HA : Hid _ := HT5.out.box
    obtain ⟨q0, q1, q2, q3, q4, q5, q6, q7⟩ := HA.out
    go_wp2_with fail
    refine (AG.out _).mono ?_
    rintro e w9 ⟨rfl, k9⟩
    have HT6 : Hid _ := (HT5.out.keep (Keep.alloc1 _ _)).keep k9
    have HG : Hid _ := G7.first k9
    have HK6 : Hid _ := (HK5.out.alloc _).trans' k9
    have HB : Hid _ := HT5.out.off HK5.out
    clear f0 f1 f2 f3 f4 f5 f6 t0 t1 t2 t3 t4 t5 t6 t7 k9 HT5 HK5
    obtain ⟨f0, f1, f2, f3, f4, f5, f6, t0, t1, t2, t3, t4, t5, t6, t7⟩ := HT6.out
    obtain ⟨⟨g0, g1, g2, g3, g4, g5, g6⟩, gn⟩ := HG.out
    have HN : Hid _ := HT6.out.lt
    have n1 := HB.out.2.1
    have n2 := HB.out.2.2
    clear q0 q1 q2 q3 q4 q5 q6 q7 HA
    rcases (show z = 0 ∨ z = 1 ∨ z = 2 ∨ z = 3 ∨ z = 4 ∨ z = 5 ∨ (¬ z = 0 ∧ ¬ z = 1 ∧ ¬ z = 2 ∧ ¬ z = 3 ∧ ¬ z = 4 ∧ ¬ z = 5) by omega) with rfl | rfl | rfl | rfl | rfl | rfl | ⟨z0, z1, z2, z3, z4, z5⟩
    · have AL : Hid (∀ w, Calls Try.prog 14 #[.agg #[.string ByteArray.empty, .string b', .string c', .string d', .string e', .string f', .string g'], .agg #[.string a', .string b', .string c', .string d', .string e', .string f', .string g', u]] w fun e w' => e = .returned (.bool true) ∧ Keep [] w w') := fun w => lets_said (lets_of (okB_nil _) (okB_self _) (okB_self _) (okB_self _) (okB_self _) (okB_self _) (okB_self _)) u w
      go_wp2_with fail
      refine (AL.out _).mono ?_
      rintro e w9 ⟨rfl, k9⟩
      go_wp2
      go_ret
      exact ⟨rfl, (HK6.out.setCell (.inr HB.out.1) _).trans' k9⟩
    · have AL : Hid (∀ w, Calls Try.prog 14 #[.agg #[.string a', .string ByteArray.empty, .string c', .string d', .string e', .string f', .string g'], .agg #[.string a', .string b', .string c', .string d', .string e', .string f', .string g', u]] w fun e w' => e = .returned (.bool true) ∧ Keep [] w w') := fun w => lets_said (lets_of (okB_self _) (okB_nil _) (okB_self _) (okB_self _) (okB_self _) (okB_self _) (okB_self _)) u w
      go_wp2_with fail
      refine (AL.out _).mono ?_
      rintro e w9 ⟨rfl, k9⟩
      go_wp2
      go_ret
      exact ⟨rfl, (HK6.out.setCell (.inr HB.out.1) _).trans' k9⟩
    · have AL : Hid (∀ w, Calls Try.prog 14 #[.agg #[.string a', .string b', .string ByteArray.empty, .string d', .string e', .string f', .string g'], .agg #[.string a', .string b', .string c', .string d', .string e', .string f', .string g', u]] w fun e w' => e = .returned (.bool true) ∧ Keep [] w w') := fun w => lets_said (lets_of (okB_self _) (okB_self _) (okB_nil _) (okB_self _) (okB_self _) (okB_self _) (okB_self _)) u w
      go_wp2_with fail
      refine (AL.out _).mono ?_
      rintro e w9 ⟨rfl, k9⟩
      go_wp2
      go_ret
      exact ⟨rfl, (HK6.out.setCell (.inr HB.out.1) _).trans' k9⟩
    · have AL : Hid (∀ w, Calls Try.prog 14 #[.agg #[.string a', .string b', .string c', .string ByteArray.empty, .string ByteArray.empty, .string ByteArray.empty, .string g'], .agg #[.string a', .string b', .string c', .string d', .string e', .string f', .string g', u]] w fun e w' => e = .returned (.bool true) ∧ Keep [] w w') := fun w => lets_said (lets_of (okB_self _) (okB_self _) (okB_self _) (okB_nil _) (okB_nil _) (okB_nil _) (okB_self _)) u w
      go_wp2_with fail
      refine (AL.out _).mono ?_
      rintro e w9 ⟨rfl, k9⟩
      go_wp2
      go_ret
      exact ⟨rfl, (((HK6.out.setCell (.inr HB.out.1) _).setCell (.inr HB.out.1) _).setCell (.inr HB.out.1) _).trans' k9⟩
    · have AL : Hid (∀ w, Calls Try.prog 14 #[.agg #[.string a', .string b', .string c', .string d', .string e', .string f', .string ByteArray.empty], .agg #[.string a', .string b', .string c', .string d', .string e', .string f', .string g', u]] w fun e w' => e = .returned (.bool true) ∧ Keep [] w w') := fun w => lets_said (lets_of (okB_self _) (okB_self _) (okB_self _) (okB_self _) (okB_self _) (okB_self _) (okB_nil _)) u w
      go_wp2_with fail
      refine (AL.out _).mono ?_
      rintro e w9 ⟨rfl, k9⟩
      go_wp2
      go_ret
      exact ⟨rfl, (HK6.out.setCell (.inr HB.out.1) _).trans' k9⟩
    · have AL : Hid (∀ w, Calls Try.prog 14 #[.agg #[.string a', .string (b' ++ ⟨#[120]⟩), .string c', .string d', .string e', .string f', .string g'], .agg #[.string a', .string b', .string c', .string d', .string e', .string f', .string g', u]] w fun e w' => e = .returned (.bool false) ∧ Keep [] w w') := fun w => lets_said (lets_of (okB_self _) (okB_more _) (okB_self _) (okB_self _) (okB_self _) (okB_self _) (okB_self _)) u w
      go_wp2_with fail
      refine (AL.out _).mono ?_
      rintro e w9 ⟨rfl, k9⟩
      go_wp2
      go_ret
      exact ⟨rfl, (HK6.out.setCell (.inr HB.out.1) _).trans' k9⟩
    · have AL : Hid (∀ w, Calls Try.prog 14 #[.agg #[.string a', .string b', .string c', .string d', .string e', .string f', .string g'], .agg #[.string a', .string b', .string c', .string d', .string e', .string f', .string g', u]] w fun e w' => e = .returned (.bool true) ∧ Keep [] w w') := fun w => lets_said (lets_of (okB_self _) (okB_self _) (okB_self _) (okB_self _) (okB_self _) (okB_self _) (okB_self _)) u w
      go_wp2_with fail
      refine (AL.out _).mono ?_
      rintro e w9 ⟨rfl, k9⟩
      go_wp2
      go_ret
      exact ⟨rfl, HK6.out.trans' k9⟩
end Go.Proofs.Ytbflhpafejmelaa
