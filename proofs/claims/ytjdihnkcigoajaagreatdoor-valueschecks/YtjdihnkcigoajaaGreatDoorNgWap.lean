/- The reference's IsNan, Below, Same, Key, FromKey. -/
import Derived.Test.YtjdihnkcigoajaaGreatDoorQuI
import Derived.Test.YtjdihnkcigoajaaGreatDoorNgB
import Derived.Test.YtjdihnkcigoajaaGreatDoorNgA

namespace Go.Proofs.YtjdihnkcigoajaaGreatDoor
open Go.RowKit Go.PlainAid Go.Lib

theorem rIsNan_any (x : Nat) (w : World) : Calls Tryz.prog 47 #[.float .f32 x] w fun e w' => e = .returned (.bool (nanB x)) ∧ w' = w := by
  have hn := neq_self x
  cases hb : nanB x <;> rw [hb] at hn
  all_goals
    go_enter Tryz.func47, Tryz.ntmps47
    go_wp2
    go_ret
    exact ⟨rfl, rfl⟩

theorem order_nan (x y : Nat) (h : nanB x = true) (o : Ordering) : (FloatKind.f32.format.order x y == some o) = false := by
  show (Ieee.single.order x y == some o) = _
  rw [order_any, if_pos (.inl (by simpa [nanB, rungN] using h))]
  rfl

set_option maxRecDepth 100000 in
set_option maxHeartbeats 1600000 in
theorem rBelow_any (x : Nat) (h : x < 4294967296) (w : World) : Calls Tryz.prog 48 #[.float .f32 x] w fun e w' => e = .returned (.bool (belowB x)) ∧ w' = w := by
  unfold belowB
  cases hx : nanB x
  · have hr : rungN x ≤ 2139095040 := by simpa [nanB, rungN] using hx
    have k1 := rlt_any x 0 hr (by decide)
    have k2 := req_any x 0 hr (by decide)
    rw [(srung_low 0 (by decide)).1] at k1 k2
    by_cases hs : 2147483648 ≤ x
    · rw [show decide (2147483648 ≤ x) = true by simpa using hs]
      have hz : srungZ x = -(rungN x : Int) := by unfold srungZ; rw [if_pos (by omega)]
      by_cases h0 : rungN x = 0
      · obtain rfl : x = 2147483648 := by unfold rungN at h0; omega
        rw [show decide (srungZ 2147483648 < ((0 : Nat) : Int)) = false by decide] at k1
        rw [show decide (srungZ 2147483648 = ((0 : Nat) : Int)) = true by decide] at k2
        have hq : ∀ w, (binOp .quo 22 (.float .f32 1065353216) (.float .f32 2147483648)).run Tryz.prog w = .ok (.float .f32 4286578688) w := fun w => run_float_arith w .quo 22 .f32 _ _ _ (by decide)
        have k3 : (FloatKind.f32.format.order 4286578688 0 == some Ordering.lt) = true := by decide
        go_enter Tryz.func48, Tryz.ntmps48
        go_wp2
        go_ret
        exact ⟨rfl, rfl⟩
      · rw [show decide (srungZ x < ((0 : Nat) : Int)) = true by simp; omega] at k1
        clear k2 hz h0
        go_enter Tryz.func48, Tryz.ntmps48
        go_wp2
        go_ret
        exact ⟨rfl, rfl⟩
    · rw [show decide (2147483648 ≤ x) = false by simpa using hs]
      obtain ⟨s1, s2⟩ := srung_low x (by omega)
      by_cases h0 : x = 0
      · subst h0
        rw [show decide (srungZ 0 < ((0 : Nat) : Int)) = false by decide] at k1
        rw [show decide (srungZ 0 = ((0 : Nat) : Int)) = true by decide] at k2
        have hq : ∀ w, (binOp .quo 22 (.float .f32 1065353216) (.float .f32 0)).run Tryz.prog w = .ok (.float .f32 2139095040) w := fun w => run_float_arith w .quo 22 .f32 _ _ _ (by decide)
        have k3 : (FloatKind.f32.format.order 2139095040 0 == some Ordering.lt) = false := by decide
        go_enter Tryz.func48, Tryz.ntmps48
        go_wp2
        go_ret
        exact ⟨rfl, rfl⟩
      · rw [show decide (srungZ x < ((0 : Nat) : Int)) = false by simp; omega] at k1
        rw [show decide (srungZ x = ((0 : Nat) : Int)) = false by simp; omega] at k2
        clear s1 s2 h0
        go_enter Tryz.func48, Tryz.ntmps48
        go_wp2
        go_ret
        exact ⟨rfl, rfl⟩
  · have k1 := order_nan x 0 hx .lt
    have k2 := order_nan x 0 hx .eq
    go_enter Tryz.func48, Tryz.ntmps48
    go_wp2
    go_ret
    exact ⟨rfl, rfl⟩

end Go.Proofs.YtjdihnkcigoajaaGreatDoor



/- What the document's Text asks: noughts below nought, the digits and their text, the power's text. -/
namespace Go.Proofs.YtjdihnkcigoajaaGreatDoor
open Go.RowKit Go.PlainAid

set_option maxRecDepth 1000000 in
theorem noughts_neg (k : Int) (hk : k < 0) (w : World) : Calls Tryz.prog 52 #[.int .i64 k] w fun e w' => e = .returned (.string ⟨#[]⟩) ∧ w' = w := by
  have h : ¬ (0 : Int) < k := by omega
  go_enter Tryz.func52, Tryz.ntmps52
  go_wp2
  refine wp_loop_rounds 1 ?_
  rw [rounds_succ]
  go_wp2
  go_ret
  exact ⟨rfl, rfl⟩
theorem few_text (n : Nat) (h1 : 1 ≤ n) (h2 : n < 2139095040) (m : Nat) (L : Int) (hm : ndF n = m) (hL : exF n - (m : Int) + 1 = L) (w : World) : Calls Tryz.prog 50 #[.int .u32 (n : Int)] w fun e w' => ∃ q : Nat, (∀ w : World, Calls Tryz.prog 51 #[.int .i64 (q : Int)] w fun e w' => (∃ T : ByteArray, e = .returned (.string T) ∧ T.data.toList = digs n) ∧ Below w.heap.size w w') ∧ e = .returned (.tuple #[.int .i64 (q : Int), .int .i64 (m : Int), .int .i64 L]) ∧ Keep [] w w' := by
  refine (fewest_any n h1 h2 w).mono ?_
  rintro e w' ⟨q, s, P, ⟨hD, hs⟩, rfl, hk⟩
  obtain ⟨t1, t2⟩ := isD_told n q s P h1 h2 hD
  obtain ⟨d1, d2, d3, _⟩ := hD
  have hsm : s = m := by
    have := digs_len n h1 h2
    rw [t1, decL_len] at this
    omega
  subst hsm
  refine ⟨q, fun w => ?_, by rw [show (P : Int) - 60 = L by omega], hk⟩
  rw [t1]
  exact decimal_any s q d1 (by omega) (.inl d2) d3 w
theorem itoa_pos : ∀ x, x < 100 → Lib.itoa ((x : Nat) : Int) = decL x (if x < 10 then 1 else 2) := by decide +kernel
theorem itoa_neg : ∀ x, x < 100 → 1 ≤ x → Lib.itoa (-((x : Nat) : Int)) = 45 :: decL x (if x < 10 then 1 else 2) := by decide +kernel
theorem power_text (x : Nat) (hx : x < 100) (w : World) : Calls Tryz.prog 51 #[.int .i64 (x : Int)] w fun e w' => (∃ T : ByteArray, e = .returned (.string T) ∧ T.data.toList = decL x (if x < 10 then 1 else 2)) ∧ Below w.heap.size w w' := by
  by_cases h : x < 10
  · rw [if_pos h]
    exact decimal_any 1 x (by decide) (by decide) (.inr rfl) (by simpa using h) w
  · rw [if_neg h]
    exact decimal_any 2 x (by decide) (by decide) (.inl (by simp; omega)) (by simpa using hx) w
end Go.Proofs.YtjdihnkcigoajaaGreatDoor


/- The document's Text. -/
namespace Go.Proofs.YtjdihnkcigoajaaGreatDoor
open Go.RowKit Go.PlainAid

theorem ext_drop (T : ByteArray) (i m : Nat) (h : T.size = m) : (T.extract i m).data.toList = T.data.toList.drop i := by
  subst h
  exact ba_drop T i

end Go.Proofs.YtjdihnkcigoajaaGreatDoor


/- The document's Text.  Way lo, one. -/
namespace Go.Proofs.YtjdihnkcigoajaaGreatDoor
open Go.RowKit Go.PlainAid

set_option maxRecDepth 1000000 in
set_option maxHeartbeats 1600000 in
theorem rText_ap (x n m : Nat) (k : Int) (hx : x < 4294967296) (hn : nanB x = false) (hb : belowB x = false) (hr : rungN x = n) (h1 : 1 ≤ n) (h2 : n < 2139095040) (hm : ndF n = m) (hkE : exF n = k) (hk : k < -4) (hm1 : m = 1) (w : World) :
    Calls Tryz.prog 23 #[.float .f32 x] w fun e w' => (∃ T : ByteArray, e = .returned (.string T) ∧ T.data.toList = textB n) ∧ Below w.heap.size w w' := by
  have hN := rIsNan_any x
  have hB := rBelow_any x hx
  have hU := number_any x hx hn
  rw [hr] at hU
  rw [hn] at hN
  rw [hb] at hB
  obtain ⟨L, hL⟩ : ∃ L : Int, k - (m : Int) + 1 = L := ⟨_, rfl⟩
  have hF := fun w => few_text n h1 h2 m L hm (by rw [hkE]; exact hL) w
  have hdl := digs_len n h1 h2
  have hnd := ndF_le n h1 h2
  have hE := exF_bounds n h1 h2
  rw [hm] at hdl hnd
  rw [hkE] at hE
  have hm10 : m ≤ 10 := by omega
  have hm0 : 1 ≤ m := hnd.1
  have hLk : L + (m : Int) - 1 = k := by omega
  have hTB : Hid (textB n = if exF n < -4 ∨ 8 < exF n then (digs n).take 1 ++ [46] ++ orB ((digs n).drop 1) ++ [101] ++ Lib.itoa (exF n) else plainB (digs n) (exF n)) := rfl
  have HKE : Hid (exF n = k) := hkE
  have HDL : Hid ((digs n).length = m) := hdl
  have t0 : ((n : Int) == 2139095040) = false := beq_eq_false_iff_ne.2 (by omega)
  have t1 : ((n : Int) == 0) = false := beq_eq_false_iff_ne.2 (by omega)
  have HS : Hid (∀ T : ByteArray, T.data.toList = digs n → T.size = m) := fun T h => by
    have h3 : T.data.toList.length = T.size := Array.length_toList
    rw [← h3, h]
    exact hdl
  obtain ⟨hE1, hE2⟩ := hE
  have hL1 : -120 ≤ L := by omega
  have hL2 : L ≤ 120 := by omega
  have hmi : (m : Int) ≤ 10 := by omega
  have hm0i : 1 ≤ (m : Int) := by omega
  clear hL hm hkE hnd hdl hn hb hr hx h2
  obtain ⟨a, ha⟩ : ∃ a : Nat, k.natAbs = a := ⟨_, rfl⟩
  have hka : k = -(a : Int) := by omega
  have ha100 : a < 100 := by omega
  have hP := fun w => power_text a ha100 w
  have hmx : max k (-k) = (a : Int) := by omega
  have HP : Hid (∀ T : ByteArray, T.data.toList = decL a (if a < 10 then 1 else 2) → T.size ≤ 2) := fun T h => by
    have h3 : T.data.toList.length = T.size := Array.length_toList
    rw [← h3, h, decL_len]
    split <;> decide
  have HI : Hid (Lib.itoa k = 45 :: decL a (if a < 10 then 1 else 2)) := by
    show _ = _
    rw [hka]
    exact itoa_neg a ha100 (by omega)
  have HX : Hid (textB n = (digs n).take 1 ++ [46] ++ orB ((digs n).drop 1) ++ [101] ++ Lib.itoa k) := by
    show _ = _
    rw [hTB.out, HKE.out, if_pos (by omega)]
  have HA : Hid (k = -(a : Int)) := hka
  clear ha hka hTB
  have HNI : Hid ((digs n).drop 1 = []) := List.eq_nil_of_length_eq_zero (by rw [List.length_drop, HDL.out, hm1])
  clear hm1
  have HO : Hid (orB ((digs n).drop 1) = [48]) := by
    show _ = _
    rw [HNI.out]
    rfl
  go_enter Tryz.func23, Tryz.ntmps23
  go_wp2_with (first
    | (go_at_call 47; refine (hN _).mono ?_; rintro e9 w9 ⟨rfl, hw9⟩; obtain rfl := hw9.symm)
    | (go_at_call 48; refine (hB _).mono ?_; rintro e9 w9 ⟨rfl, hw9⟩; obtain rfl := hw9.symm)
    | (go_at_call 49; refine (hU _).mono ?_; rintro e9 w9 ⟨rfl, hw9⟩; obtain rfl := hw9.symm)
    | (go_at_call 50; refine (hF _).mono ?_; rintro e9 w1 ⟨q, hq, rfl, hk1⟩; have HQ : Hid _ := hq; clear hq; have HK1 : Hid (Keep [] w w1) := hk1; clear hk1)
    | (go_at_call_of 51 (Value.int IntKind.i64 ((q : Nat) : Int)); refine (HQ.out _).mono ?_; rintro e9 w2 ⟨⟨T, rfl, hT⟩, hb2⟩; have hts := HS.out T hT; have HT : Hid (T.data.toList = digs n) := hT; have HK2 : Hid (Keep [] w w2) := HK1.out.trans' (Keep.ofBelow hb2); clear hb2 hT; have hre : ((T.extract 1 m).toList == []) = true := by rw [Lib.toList_data, ext_drop T 1 m hts, HT.out]; exact beq_iff_eq.2 HNI.out)
    | (go_at_call 51; refine (hP _).mono ?_; rintro e9 w3 ⟨⟨U, rfl, hU2⟩, hb3⟩; have hus := HP.out U hU2; have HU : Hid (U.data.toList = decL a (if a < 10 then 1 else 2)) := hU2; have HK3 : Hid (Keep [] w w3) := HK2.out.trans' (Keep.ofBelow hb3); clear hb3 hU2))
  go_ret
  exact ⟨⟨_, rfl, by rw [HX.out, HI.out, HO.out]; simp only [ba_app, ba_take, HT.out, HU.out]; rfl⟩, HK3.out.below⟩

end Go.Proofs.YtjdihnkcigoajaaGreatDoor

