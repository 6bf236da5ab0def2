/- The document's Nan, FromKey, Next, Compare; the walks of the statements on orders, keys and the next real. -/
import Derived.Test.YtgpjmadleaiioaaGreatDoorRefH
import Derived.Test.YtgpjmadleaiioaaGreatDoorOrdP
namespace Go.Proofs.YtgpjmadleaiioaaGreatDoor
open Go.RowKit Go.PlainAid

theorem keepN {B : Nat} {a w : World} (h : Below B a w) (n : Nat) : Below B a (w.drewN n) := ⟨h.os, h.tape, h.output, h.size, h.block⟩

theorem rNan_any (w : World) : Calls Tryz.prog 46 #[] w fun e w' => ∃ r, e = .returned (.float .f32 r) ∧ r < 4294967296 ∧ keyN r = 4290772992 ∧ ∃ n, w' = w.drewN n := by
  obtain ⟨r, hr1, hr2⟩ := run_nan .quo 0 0 (by decide) (by simp)
  go_enter Tryz.func46, Tryz.ntmps46
  go_wp2
  go_ret
  exact ⟨_, rfl, (hr1 _).2, key_nan _ (hr1 _).1, 1, rfl⟩

/-- a real whose key is k; nan, if there is none -/
def RealK (k : Nat) (r : Nat) : Prop := r < 4294967296 ∧ keyN r = if 8388607 ≤ k ∧ k ≤ 4286578688 then k else 4290772992

set_option maxRecDepth 1000000 in
set_option maxHeartbeats 1600000 in
theorem rFromKey_any (k : Nat) (h : k < 4294967296) (w : World) : Calls Tryz.prog 23 #[.int .u32 (k : Int)] w fun e w' => ∃ r, e = .returned (.float .f32 r) ∧ RealK k r ∧ ∃ n, w' = w.drewN n := by
  have hN := rNan_any
  by_cases h1 : 2147483648 ≤ k
  · obtain ⟨m, rfl⟩ : ∃ m, k = m + 2147483648 := ⟨k - 2147483648, by omega⟩
    have t1 : (2147483648 : Int) ≤ (m : Int) + 2147483648 := by omega
    by_cases h2 : m ≤ 2139095040
    · have hF := float_any false m h2
      have t2 : (m : Int) ≤ 2139095040 := by omega
      simp only [Bool.false_eq_true, if_false] at hF
      have hR : RealK (m + 2147483648) m := ⟨by omega, by
        have hn : nanB m = false := by unfold nanB; simp; omega
        unfold keyN
        rw [hn, if_neg (by decide), if_neg (by omega), if_pos (by omega)]⟩
      go_enter Tryz.func23, Tryz.ntmps23
      go_wp2_with (first | (go_at_call 41; refine (hF _).mono ?_; rintro e9 w9 ⟨rfl, hw9⟩; obtain rfl := hw9.symm))
      go_ret
      exact ⟨_, rfl, hR, 0, rfl⟩
    · have t2 : ¬ (m : Int) ≤ 2139095040 := by omega
      have t3 : ¬ (m : Int) + 2147483648 < 2147483648 := by omega
      go_enter Tryz.func23, Tryz.ntmps23
      go_wp2_with (first | (go_at_call 46; refine (hN _).mono ?_; rintro e9 w9 ⟨r, rfl, hr1, hr2, n, rfl⟩))
      go_ret
      exact ⟨_, rfl, ⟨hr1, by rw [hr2, if_neg (by omega)]⟩, n, rfl⟩
  · have e1 : ((2147483647 - k : Nat) : Int) = 2147483647 - (k : Int) := by omega
    have t1 : ¬ (2147483648 : Int) ≤ (k : Int) := by omega
    have t0 : (k : Int) < 2147483648 := by omega
    by_cases h2 : 8388607 ≤ k
    · have hF := float_any true (2147483647 - k) (by omega)
      rw [e1] at hF
      have t2 : 2147483647 - (k : Int) ≤ 2139095040 := by omega
      simp only [if_true] at hF
      have hR : Hid (RealK k (2147483647 - k + 2147483648)) := ⟨by omega, by
        have hn : nanB (2147483647 - k + 2147483648) = false := by unfold nanB; simp; omega
        unfold keyN
        rw [hn, if_neg (by decide), if_pos (by omega), if_pos (by omega)]
        omega⟩
      clear e1 h1 h
      generalize 2147483647 - k + 2147483648 = z at *
      go_enter Tryz.func23, Tryz.ntmps23
      go_wp2_with (first | (go_at_call 41; refine (hF _).mono ?_; rintro e9 w9 ⟨rfl, hw9⟩; obtain rfl := hw9.symm))
      go_ret
      exact ⟨_, rfl, hR.out, 0, rfl⟩
    · have t2 : ¬ 2147483647 - (k : Int) ≤ 2139095040 := by omega
      clear e1 h1 h
      go_enter Tryz.func23, Tryz.ntmps23
      go_wp2_with (first | (go_at_call 46; refine (hN _).mono ?_; rintro e9 w9 ⟨r, rfl, hr1, hr2, n, rfl⟩))
      go_ret
      exact ⟨_, rfl, ⟨hr1, by rw [hr2, if_neg (by omega)]⟩, n, rfl⟩

set_option maxRecDepth 1000000 in
theorem rCompare_any (a b : Nat) (ha : a < 4294967296) (hb : b < 4294967296) (w : World) : Calls Tryz.prog 12 #[.float .f32 a, .float .f32 b] w fun e w' => e = .returned (.int .i64 (cmpI (keyN a) (keyN b))) ∧ w' = w := by
  have hA := rKey_any a ha
  have hB := rKey_any b hb
  generalize keyN a = ka at *
  generalize keyN b = kb at *
  rcases Int.lt_trichotomy (ka : Int) (kb : Int) with h | h | h
  · rw [cmpI_lt h]
    go_enter Tryz.func12, Tryz.ntmps12
    go_wp2_with fail
    refine (hA _).mono ?_
    rintro e9 w9 ⟨rfl, hw9⟩; obtain rfl := hw9.symm
    go_wp2_with fail
    refine (hB _).mono ?_
    rintro e9 w9 ⟨rfl, hw9⟩; obtain rfl := hw9.symm
    go_wp2
    go_ret
    exact ⟨rfl, rfl⟩
  · rw [cmpI_eq h]
    have h1 : ¬ (ka : Int) < kb := by omega
    have h2 : ¬ (kb : Int) < ka := by omega
    clear h
    go_enter Tryz.func12, Tryz.ntmps12
    go_wp2_with fail
    refine (hA _).mono ?_
    rintro e9 w9 ⟨rfl, hw9⟩; obtain rfl := hw9.symm
    go_wp2_with fail
    refine (hB _).mono ?_
    rintro e9 w9 ⟨rfl, hw9⟩; obtain rfl := hw9.symm
    go_wp2
    go_ret
    exact ⟨rfl, rfl⟩
  · rw [cmpI_gt h]
    have h1 : ¬ (ka : Int) < kb := by omega
    go_enter Tryz.func12, Tryz.ntmps12
    go_wp2_with fail
    refine (hA _).mono ?_
    rintro e9 w9 ⟨rfl, hw9⟩; obtain rfl := hw9.symm
    go_wp2_with fail
    refine (hB _).mono ?_
    rintro e9 w9 ⟨rfl, hw9⟩; obtain rfl := hw9.symm
    go_wp2
    go_ret
    exact ⟨rfl, rfl⟩

set_option maxRecDepth 1000000 in
set_option maxHeartbeats 1600000 in
theorem orders_walk (a b : Nat) (ha : a < 4294967296) (hb : b < 4294967296) (w : World) (hT : Tabx w) : Calls Tryz.prog 3 #[.float .f32 a, .float .f32 b] w fun e w' => e = .returned (.bool true) ∧ Below w.heap.size w w' := by
  have hW := awake_any w hT
  have h1 := realSame_any a b ha hb
  have h2 := rSame_any a b ha hb
  have h3 := compare_any a b ha hb
  have h4 := rCompare_any a b ha hb
  generalize cmpI (keyN a : Int) (keyN b) = c at *
  generalize sameR a b = s at *
  clear hT
  go_enter Tryz.func3, Tryz.ntmps3
  go_wp2_with (first
    | (go_at_call 9; refine (h1 _).mono ?_; rintro e9 w9 ⟨rfl, hw9⟩; obtain rfl := hw9.symm)
    | (go_at_call 10; refine (h2 _).mono ?_; rintro e9 w9 ⟨rfl, hw9⟩; obtain rfl := hw9.symm)
    | (go_at_call 11; refine (h3 _).mono ?_; rintro e9 w9 ⟨rfl, hw9⟩; obtain rfl := hw9.symm)
    | (go_at_call 12; refine (h4 _).mono ?_; rintro e9 w9 ⟨rfl, hw9⟩; obtain rfl := hw9.symm)
    | (go_at_call 13; refine hW.mono ?_; rintro e9 w1 ⟨rfl, hb1⟩))
  go_ret
  exact ⟨rfl, hb1⟩

set_option maxRecDepth 1000000 in
set_option maxHeartbeats 1600000 in
theorem keys_walk (x k : Nat) (hx : x < 4294967296) (hk : k < 4294967296) (w : World) (hT : Tabx w) : Calls Tryz.prog 5 #[.float .f32 x, .int .u32 (k : Int)] w fun e w' => e = .returned (.bool true) ∧ Below w.heap.size w w' := by
  have h1 := key_any x hx
  have h2 := rKey_any x hx
  have h3 := fromKey_any k hk
  have h4 := rFromKey_any k hk
  generalize keyN x = kx at *
  go_enter Tryz.func5, Tryz.ntmps5
  go_wp2_with (first
    | (go_at_call 20; refine (h1 _).mono ?_; rintro e9 w9 ⟨rfl, hw9⟩; obtain rfl := hw9.symm)
    | (go_at_call 21; refine (h2 _).mono ?_; rintro e9 w9 ⟨rfl, hw9⟩; obtain rfl := hw9.symm)
    | (go_at_call 22; refine (h3 _).mono ?_; rintro e9 w9 ⟨rfl, hw9⟩; obtain rfl := hw9.symm)
    | (go_at_call 23; refine (h4 _).mono ?_; rintro e9 w1 ⟨r, rfl, hr, n1, hw1⟩; have HB1 : Hid (Below w.heap.size w w1) := (by rw [hw1]; exact keepN (Below.refl _ _) n1); have HR : Hid (RealK k r) := hr; clear hw1 hr)
    | (go_at_call 10; refine (rSame_any _ _ (fromN_lt k hk) HR.out.1 _).mono ?_; rintro e9 w9 ⟨rfl, hw9⟩; obtain rfl := hw9.symm; rw [same_key _ _ (fromN_lt k hk) HR.out.1, key_from k hk, HR.out.2, decide_eq_true (Eq.refl _)])
    | (go_at_call 13; refine (awake_any _ (hT.below HB1.out)).mono ?_; rintro e9 w2 ⟨rfl, hb2⟩))
  go_ret
  exact ⟨rfl, HB1.out.trans (hb2.mono HB1.out.size)⟩

theorem keys_walk_int (x : Nat) (k : Int) (hx : x < 4294967296) (hk : 0 ≤ k ∧ k ≤ 4294967295) (w : World) (hT : Tabx w) : Calls Tryz.prog 5 #[.float .f32 x, .int .u32 k] w fun e w' => e = .returned (.bool true) ∧ Below w.heap.size w w' := by
  have h := keys_walk x k.toNat hx (by omega) w hT
  rwa [show ((k.toNat : Nat) : Int) = k by omega] at h

set_option maxRecDepth 1000000 in
set_option maxHeartbeats 3200000 in
theorem rNext_any (x : Nat) (h : x < 4294967296) (up : Bool) (w : World) : Calls Tryz.prog 25 #[.float .f32 x, .bool up] w fun e w' => ∃ r, e = .returned (.float .f32 r) ∧ (r < 4294967296 ∧ keyN r = keyN (nextN x up)) ∧ ∃ n, w' = w.drewN n := by
  have hK := rKey_any x h
  have hFt := float_any true 2139095040 (by decide)
  have hFf := float_any false 2139095040 (by decide)
  have e1 : ((2139095040 : Nat) : Int) = 2139095040 := rfl
  rw [e1] at hFt hFf
  simp only [Bool.false_eq_true, if_false, if_true] at hFt hFf
  have hKt := rKey_any 4286578688 (by decide)
  have hKf := rKey_any 2139095040 (by decide)
  have k1 : ((keyN 4286578688 : Nat) : Int) = 8388607 := by decide
  have k2 : ((keyN 2139095040 : Nat) : Int) = 4286578688 := by decide
  rw [k1] at hKt
  rw [k2] at hKf
  have hN := rNan_any
  have r1 := key_range x h
  cases up
  · obtain ⟨q1, q2⟩ := key_down x h
    generalize keyN (nextN x false) = m at *
    have HX : Hid (x < 4294967296 ∧ True) := ⟨h, trivial⟩
    generalize hkx : keyN x = k at *
    by_cases h1 : k = 8388607
    · subst h1
      have HX : Hid (x < 4294967296 ∧ keyN x = m) := ⟨h, by rw [hkx, q2]; rfl⟩
      clear q1 q2 hkx
      go_enter Tryz.func25, Tryz.ntmps25
      go_wp2_with (first
        | (go_at_call_of 21 x; refine (hK _).mono ?_; rintro e9 w9 ⟨rfl, hw9⟩; obtain rfl := hw9.symm)
        | (go_at_call 41; refine (hFt _).mono ?_; rintro e9 w9 ⟨rfl, hw9⟩; obtain rfl := hw9.symm)
        | (go_at_call 21; refine (hKt _).mono ?_; rintro e9 w9 ⟨rfl, hw9⟩; obtain rfl := hw9.symm))
      go_ret
      exact ⟨_, rfl, HX.out, 0, rfl⟩
    · have t1 : ((k : Int) == 8388607) = false := by simp; omega
      by_cases h2 : k = 4290772992
      · subst h2
        have HR : Hid ((2139095040 : Nat) < 4294967296 ∧ keyN 2139095040 = m) := ⟨by decide, by rw [q2]; decide⟩
        clear q1 q2 hkx
        go_enter Tryz.func25, Tryz.ntmps25
        go_wp2_with (first
          | (go_at_call_of 21 x; refine (hK _).mono ?_; rintro e9 w9 ⟨rfl, hw9⟩; obtain rfl := hw9.symm)
          | (go_at_call_of 41 true; refine (hFt _).mono ?_; rintro e9 w9 ⟨rfl, hw9⟩; obtain rfl := hw9.symm)
          | (go_at_call 41; refine (hFf _).mono ?_; rintro e9 w9 ⟨rfl, hw9⟩; obtain rfl := hw9.symm)
          | (go_at_call 21; refine (hKt _).mono ?_; rintro e9 w9 ⟨rfl, hw9⟩; obtain rfl := hw9.symm))
        go_ret
        exact ⟨_, rfl, HR.out, 0, rfl⟩
      · have t2 : ((k : Int) == 4290772992) = false := by simp; omega
        have hF := rFromKey_any (k - 1) (by omega)
        rw [show ((k - 1 : Nat) : Int) = (k : Int) - 1 by omega] at hF
        have HR : Hid (∀ r, RealK (k - 1) r → r < 4294967296 ∧ keyN r = m) := fun r hr => ⟨hr.1, by rw [hr.2, q2, if_neg h2, if_neg h1]; (repeat' split) <;> omega⟩
        have hk1 : (1 : Int) ≤ (k : Int) := by omega
        have hk2 : (k : Int) ≤ 4294967295 := by omega
        clear q1 q2 hkx r1 h1 h2
        go_enter Tryz.func25, Tryz.ntmps25
        go_wp2_with (first
          | (go_at_call_of 21 x; refine (hK _).mono ?_; rintro e9 w9 ⟨rfl, hw9⟩; obtain rfl := hw9.symm)
          | (go_at_call 41; refine (hFt _).mono ?_; rintro e9 w9 ⟨rfl, hw9⟩; obtain rfl := hw9.symm)
          | (go_at_call 21; refine (hKt _).mono ?_; rintro e9 w9 ⟨rfl, hw9⟩; obtain rfl := hw9.symm)
          | (go_at_call 23; refine (hF _).mono ?_; rintro e9 w9 ⟨r, rfl, hr, n, rfl⟩))
        go_ret
        exact ⟨_, rfl, HR.out r hr, n, rfl⟩
  · obtain ⟨q1, q2⟩ := key_up x h
    generalize keyN (nextN x true) = m at *
    generalize hkx : keyN x = k at *
    by_cases h1 : k = 4290772992
    · subst h1
      have HX : Hid (x < 4294967296 ∧ keyN x = m) := ⟨h, by rw [hkx, q2]; rfl⟩
      clear q1 q2 hkx
      go_enter Tryz.func25, Tryz.ntmps25
      go_wp2_with (first
        | (go_at_call_of 21 x; refine (hK _).mono ?_; rintro e9 w9 ⟨rfl, hw9⟩; obtain rfl := hw9.symm))
      go_ret
      exact ⟨_, rfl, HX.out, 0, rfl⟩
    · have t1 : ((k : Int) == 4290772992) = false := by simp; omega
      by_cases h2 : k = 4286578688
      · subst h2
        have HR : Hid (∀ r, r < 4294967296 → keyN r = 4290772992 → r < 4294967296 ∧ keyN r = m) := fun r a b => ⟨a, by rw [b, q2]; decide⟩
        clear q1 q2 hkx
        go_enter Tryz.func25, Tryz.ntmps25
        go_wp2_with (first
          | (go_at_call_of 21 x; refine (hK _).mono ?_; rintro e9 w9 ⟨rfl, hw9⟩; obtain rfl := hw9.symm)
          | (go_at_call 41; refine (hFf _).mono ?_; rintro e9 w9 ⟨rfl, hw9⟩; obtain rfl := hw9.symm)
          | (go_at_call 21; refine (hKf _).mono ?_; rintro e9 w9 ⟨rfl, hw9⟩; obtain rfl := hw9.symm)
          | (go_at_call 46; refine (hN _).mono ?_; rintro e9 w9 ⟨r, rfl, hr1, hr2, n, rfl⟩))
        go_ret
        exact ⟨_, rfl, HR.out r hr1 hr2, n, rfl⟩
      · have t2 : ((k : Int) == 4286578688) = false := by simp; omega
        have hF := rFromKey_any (k + 1) (by omega)
        rw [show ((k + 1 : Nat) : Int) = (k : Int) + 1 by omega] at hF
        have HR : Hid (∀ r, RealK (k + 1) r → r < 4294967296 ∧ keyN r = m) := fun r hr => ⟨hr.1, by rw [hr.2, q2]; (repeat' split) <;> omega⟩
        have hk2 : (k : Int) ≤ 4294967294 := by omega
        clear q1 q2 hkx r1 h1 h2
        go_enter Tryz.func25, Tryz.ntmps25
        go_wp2_with (first
          | (go_at_call_of 21 x; refine (hK _).mono ?_; rintro e9 w9 ⟨rfl, hw9⟩; obtain rfl := hw9.symm)
          | (go_at_call 41; refine (hFf _).mono ?_; rintro e9 w9 ⟨rfl, hw9⟩; obtain rfl := hw9.symm)
          | (go_at_call 21; refine (hKf _).mono ?_; rintro e9 w9 ⟨rfl, hw9⟩; obtain rfl := hw9.symm)
          | (go_at_call 23; refine (hF _).mono ?_; rintro e9 w9 ⟨r, rfl, hr, n, rfl⟩))
        go_ret
        exact ⟨_, rfl, HR.out r hr, n, rfl⟩

theorem nextN_lt (x : Nat) (h : x < 4294967296) (up : Bool) : nextN x up < 4294967296 := by
  cases up
  · exact (key_down x h).1
  · exact (key_up x h).1

set_option maxRecDepth 1000000 in
set_option maxHeartbeats 1600000 in
theorem nexts_walk (x : Nat) (hx : x < 4294967296) (w : World) (hT : Tabx w) : Calls Tryz.prog 6 #[.float .f32 x] w fun e w' => e = .returned (.bool true) ∧ Below w.heap.size w w' := by
  have a1 := next_any x hx true
  have a2 := next_any x hx false
  have b1 := rNext_any x hx true
  have b2 := rNext_any x hx false
  have l1 := nextN_lt x hx true
  have l2 := nextN_lt x hx false
  have HL : Hid (nextN x true < 4294967296 ∧ nextN x false < 4294967296) := ⟨l1, l2⟩
  clear l1 l2
  go_enter Tryz.func6, Tryz.ntmps6
  go_wp2_with fail
  refine (a1 _).mono ?_
  rintro e9 w9 ⟨rfl, hw9⟩; obtain rfl := hw9.symm
  clear hw9
  go_wp2_with fail
  refine (b1 _).mono ?_
  rintro e9 w1 ⟨r1, rfl, hr1, n1, hw1⟩
  have HB1 : Hid (Below w.heap.size w w1) := (by rw [hw1]; exact keepN (Below.refl _ _) n1)
  have hS1 := rSame_any (nextN x true) r1 HL.out.1 hr1.1
  rw [same_key _ _ HL.out.1 hr1.1, hr1.2, decide_eq_true (Eq.refl _)] at hS1
  clear hw1 hr1
  go_wp2_with fail
  refine (hS1 _).mono ?_
  rintro e9 w9 ⟨rfl, hw9⟩; obtain rfl := hw9.symm
  clear hw9
  go_wp2_with fail
  refine (a2 _).mono ?_
  rintro e9 w9 ⟨rfl, hw9⟩; obtain rfl := hw9.symm
  clear hw9
  go_wp2_with fail
  refine (b2 _).mono ?_
  rintro e9 w2 ⟨r2, rfl, hr2, n2, hw2⟩
  have HB2 : Hid (Below w.heap.size w w2) := (by rw [hw2]; exact keepN HB1.out n2)
  have hS2 := rSame_any (nextN x false) r2 HL.out.2 hr2.1
  rw [same_key _ _ HL.out.2 hr2.1, hr2.2, decide_eq_true (Eq.refl _)] at hS2
  clear hw2 hr2
  go_wp2_with fail
  refine (hS2 _).mono ?_
  rintro e9 w9 ⟨rfl, hw9⟩; obtain rfl := hw9.symm
  clear hw9
  go_wp2_with fail
  refine (awake_any _ (hT.below HB2.out)).mono ?_
  rintro e9 w3 ⟨rfl, hb3⟩
  go_wp2
  go_ret
  exact ⟨rfl, HB2.out.trans (hb3.mono HB2.out.size)⟩
end Go.Proofs.YtgpjmadleaiioaaGreatDoor
