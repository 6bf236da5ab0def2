/- The reference's IsNan, Below, Same, Key, FromKey. -/
import Derived.Test.YtnljpbpphdhnpaaGreatDoorBigH
import Derived.Test.YtnljpbpphdhnpaaGreatDoorParE
import Derived.Test.YtnljpbpphdhnpaaGreatDoorParG
import Derived.Test.YtnljpbpphdhnpaaGreatDoorParH
import Derived.Test.YtnljpbpphdhnpaaGreatDoorParI
import Derived.Test.YtnljpbpphdhnpaaGreatDoorParM
import Derived.Test.YtnljpbpphdhnpaaGreatDoorParT
import Derived.Test.YtnljpbpphdhnpaaGreatDoorDoA
import Derived.Test.YtnljpbpphdhnpaaGreatDoorAwK

namespace Go.Proofs.YtnljpbpphdhnpaaGreatDoor
open Go.RowKit Go.PlainAid Go.Lib

theorem rIsNan_any (x : Nat) (w : World) : Calls Tryz.prog 17 #[.float .f32 x] w fun e w' => e = .returned (.bool (nanB x)) ∧ w' = w := by
  have hn := neq_self x
  cases hb : nanB x <;> rw [hb] at hn
  all_goals
    go_enter Tryz.func17, Tryz.ntmps17
    go_wp2
    go_ret
    exact ⟨rfl, rfl⟩

theorem order_nan (x y : Nat) (h : nanB x = true) (o : Ordering) : (FloatKind.f32.format.order x y == some o) = false := by
  show (Ieee.single.order x y == some o) = _
  rw [order_any, if_pos (.inl (by simpa [nanB, rungN] using h))]
  rfl

set_option maxRecDepth 100000 in
set_option maxHeartbeats 1600000 in
theorem rBelow_any (x : Nat) (h : x < 4294967296) (w : World) : Calls Tryz.prog 18 #[.float .f32 x] w fun e w' => e = .returned (.bool (belowB x)) ∧ w' = w := by
  unfold belowB
  cases hx : nanB x
  · have hr : rungN x ≤ 2139095040 := by simpa [nanB, rungN] using hx
    have k1 := rlt_any x 0 hr (by decide)
    have k2 := req_any x 0 hr (by decide)
    rw [(srung_low 0 (by decide)).1] at k1 k2
    by_cases hs : 2147483648 ≤ x
    · rw [show decide (2147483648 ≤ x) = true by simpa using hs]
      have hz : srungZ x = -(rungN x : Int) := by unfold srungZ; rw [if_pos (by omega)]
      by_cases h0 : rungN x = 0
      · obtain rfl : x = 2147483648 := by unfold rungN at h0; omega
        rw [show decide (srungZ 2147483648 < ((0 : Nat) : Int)) = false by decide] at k1
        rw [show decide (srungZ 2147483648 = ((0 : Nat) : Int)) = true by decide] at k2
        have hq : ∀ w, (binOp .quo 22 (.float .f32 1065353216) (.float .f32 2147483648)).run Tryz.prog w = .ok (.float .f32 4286578688) w := fun w => run_float_arith w .quo 22 .f32 _ _ _ (by decide)
        have k3 : (FloatKind.f32.format.order 4286578688 0 == some Ordering.lt) = true := by decide
        go_enter Tryz.func18, Tryz.ntmps18
        go_wp2
        go_ret
        exact ⟨rfl, rfl⟩
      · rw [show decide (srungZ x < ((0 : Nat) : Int)) = true by simp; omega] at k1
        clear k2 hz h0
        go_enter Tryz.func18, Tryz.ntmps18
        go_wp2
        go_ret
        exact ⟨rfl, rfl⟩
    · rw [show decide (2147483648 ≤ x) = false by simpa using hs]
      obtain ⟨s1, s2⟩ := srung_low x (by omega)
      by_cases h0 : x = 0
      · subst h0
        rw [show decide (srungZ 0 < ((0 : Nat) : Int)) = false by decide] at k1
        rw [show decide (srungZ 0 = ((0 : Nat) : Int)) = true by decide] at k2
        have hq : ∀ w, (binOp .quo 22 (.float .f32 1065353216) (.float .f32 0)).run Tryz.prog w = .ok (.float .f32 2139095040) w := fun w => run_float_arith w .quo 22 .f32 _ _ _ (by decide)
        have k3 : (FloatKind.f32.format.order 2139095040 0 == some Ordering.lt) = false := by decide
        go_enter Tryz.func18, Tryz.ntmps18
        go_wp2
        go_ret
        exact ⟨rfl, rfl⟩
      · rw [show decide (srungZ x < ((0 : Nat) : Int)) = false by simp; omega] at k1
        rw [show decide (srungZ x = ((0 : Nat) : Int)) = false by simp; omega] at k2
        clear s1 s2 h0
        go_enter Tryz.func18, Tryz.ntmps18
        go_wp2
        go_ret
        exact ⟨rfl, rfl⟩
  · have k1 := order_nan x 0 hx .lt
    have k2 := order_nan x 0 hx .eq
    go_enter Tryz.func18, Tryz.ntmps18
    go_wp2
    go_ret
    exact ⟨rfl, rfl⟩

end Go.Proofs.YtnljpbpphdhnpaaGreatDoor


/- The reference's Same and Key. -/
namespace Go.Proofs.YtnljpbpphdhnpaaGreatDoor
open Go.RowKit Go.PlainAid Go.Lib

set_option maxRecDepth 100000 in
set_option maxHeartbeats 1600000 in
theorem rSame_any (a b : Nat) (ha : a < 4294967296) (hb : b < 4294967296) (w : World) : Calls Tryz.prog 11 #[.float .f32 a, .float .f32 b] w fun e w' => e = .returned (.bool (sameR a b)) ∧ w' = w := by
  have hA := rIsNan_any a
  have hB := rIsNan_any b
  have hC := rBelow_any a ha
  have hD := rBelow_any b hb
  have hE := eq_any a b
  unfold sameR
  generalize belowB a = p at hC ⊢
  generalize belowB b = q at hD ⊢
  generalize eqB a b = r at hE ⊢
  cases h1 : nanB a <;> rw [h1] at hA
  · cases r
    · go_enter Tryz.func11, Tryz.ntmps11
      go_wp2_with (first | (go_at_call_of 17 a; refine (hA _).mono ?_; rintro e9 w9 ⟨rfl, hw9⟩; obtain rfl := hw9.symm))
      go_ret
      exact ⟨rfl, rfl⟩
    · cases p <;> cases q
      all_goals
        go_enter Tryz.func11, Tryz.ntmps11
        go_wp2_with (first | (go_at_call 17; refine (hA _).mono ?_; rintro e9 w9 ⟨rfl, hw9⟩; obtain rfl := hw9.symm) | (go_at_call_of 18 a; refine (hC _).mono ?_; rintro e9 w9 ⟨rfl, hw9⟩; obtain rfl := hw9.symm) | (go_at_call 18; refine (hD _).mono ?_; rintro e9 w9 ⟨rfl, hw9⟩; obtain rfl := hw9.symm))
        go_ret
        exact ⟨rfl, rfl⟩
  · cases h2 : nanB b <;> rw [h2] at hB
    · cases r
      · go_enter Tryz.func11, Tryz.ntmps11
        go_wp2_with (first | (go_at_call_of 17 a; refine (hA _).mono ?_; rintro e9 w9 ⟨rfl, hw9⟩; obtain rfl := hw9.symm) | (go_at_call 17; refine (hB _).mono ?_; rintro e9 w9 ⟨rfl, hw9⟩; obtain rfl := hw9.symm))
        go_ret
        exact ⟨rfl, rfl⟩
      · cases p <;> cases q
        all_goals
          go_enter Tryz.func11, Tryz.ntmps11
          go_wp2_with (first | (go_at_call_of 17 a; refine (hA _).mono ?_; rintro e9 w9 ⟨rfl, hw9⟩; obtain rfl := hw9.symm) | (go_at_call 17; refine (hB _).mono ?_; rintro e9 w9 ⟨rfl, hw9⟩; obtain rfl := hw9.symm) | (go_at_call_of 18 a; refine (hC _).mono ?_; rintro e9 w9 ⟨rfl, hw9⟩; obtain rfl := hw9.symm) | (go_at_call 18; refine (hD _).mono ?_; rintro e9 w9 ⟨rfl, hw9⟩; obtain rfl := hw9.symm))
          go_ret
          exact ⟨rfl, rfl⟩
    · go_enter Tryz.func11, Tryz.ntmps11
      go_wp2_with (first | (go_at_call_of 17 a; refine (hA _).mono ?_; rintro e9 w9 ⟨rfl, hw9⟩; obtain rfl := hw9.symm) | (go_at_call 17; refine (hB _).mono ?_; rintro e9 w9 ⟨rfl, hw9⟩; obtain rfl := hw9.symm))
      go_ret
      exact ⟨rfl, rfl⟩


end Go.Proofs.YtnljpbpphdhnpaaGreatDoor


/- The document's parts of any text. -/
namespace Go.Proofs.YtnljpbpphdhnpaaGreatDoor
open Go.RowKit Go.PlainAid

def partsNo (l : List UInt8) (w : World) : Prop := Calls Tryz.prog 33 #[.string (bl l)] w fun e w' => e = .returned (.tuple #[.string ⟨#[]⟩, .int .i64 0, .bool false]) ∧ ∃ n, w' = w.drewN n
theorem pos_of (l : List UInt8) (h : l ≠ []) : 0 < l.length := List.length_pos_iff.2 h
theorem no_45 (X r : List UInt8) (A : List UInt8) (k : Nat) (hk : A.length = k) (c : UInt8) (t : List UInt8) (h : X ++ r = c :: t) (hc : c ≠ 45) : bt (bl (A ++ (X ++ r))) k ≠ 45 := by
  subst hk
  rw [h, bt_at]
  intro e
  exact hc (UInt8.toNat_inj.1 (by show c.toNat = 45; omega))
theorem tail_fact (W P t : List UInt8) : W ++ 46 :: (P ++ 101 :: t) = (W ++ 46 :: (P ++ [101])) ++ t ∧ (W ++ 46 :: (P ++ [101])).length = W.length + 1 + P.length + 1 := by
  constructor
  · simp
  · simp; omega
theorem tail_fact2 (W P t : List UInt8) : W ++ 46 :: (P ++ 101 :: 45 :: t) = (W ++ 46 :: (P ++ [101, 45])) ++ t ∧ (W ++ 46 :: (P ++ [101, 45])).length = W.length + 1 + P.length + 2 := by
  constructor
  · simp
  · simp; omega
theorem bt_101 (W P t : List UInt8) : bt (bl (W ++ 46 :: (P ++ 101 :: t))) (W.length + 1 + P.length) = 101 := by
  have e : W ++ 46 :: (P ++ 101 :: t) = (W ++ 46 :: P) ++ 101 :: t := by simp
  have := bt_at (W ++ 46 :: P) 101 t
  rw [e]
  rw [show (W ++ 46 :: P).length = W.length + 1 + P.length by simp; omega] at this
  exact this
theorem bt_45 (W P t : List UInt8) : bt (bl (W ++ 46 :: (P ++ 101 :: 45 :: t))) (W.length + 1 + P.length + 1) = 45 := by
  have := bt_at (W ++ 46 :: (P ++ [101])) 45 t
  rw [← (tail_fact W P (45 :: t)).1, (tail_fact W P t).2] at this
  exact this
theorem size_e (W P t : List UInt8) : (bl (W ++ 46 :: (P ++ 101 :: t))).size = W.length + 1 + P.length + 1 + t.length := by
  rw [bl_size]; simp; omega
/-- the document's parts of a text that is none -/
theorem parts_no (l : List UInt8) (hl : l.length ≤ 1000000000) (h : okL l = false) (w : World) : partsNo l w := by
  obtain ⟨A, r, rfl, hA, hr⟩ := spanD l
  unfold partsNo
  rcases hr with rfl | ⟨c, r1, rfl, hc⟩
  · rw [List.append_nil] at hl ⊢
    by_cases hA0 : A = []
    · subst hA0; exact parts_empty w
    · refine parts_n1a (bl A) A.length w (by rw [bl_size]; exact hl) (by rw [bl_size]; exact Nat.le_refl _) (fun j hj => ?_) (bl_size A).symm (pos_of A hA0)
      have := bt_left A [] hA j hj
      rwa [List.append_nil] at this
  by_cases hA0 : A = []
  · subst hA0
    rw [List.nil_append] at hl ⊢
    refine parts_n1z (bl (c :: r1)) w (by rw [bl_size]; exact hl) (by rw [bl_size]; simp) ?_
    rw [bt_head]
    omega
  have hAp := pos_of A hA0
  have hlA : (A ++ c :: r1).length = A.length + 1 + r1.length := by simp; omega
  by_cases hc46 : c = 46
  · subst hc46
    obtain ⟨B, r2, rfl, hB, hr2⟩ := spanD r1
    obtain ⟨s1, s2, s3, s4⟩ := sh A B r2 hA hB
    clear hlA
    by_cases hB0 : B = []
    · subst hB0
      simp only [List.nil_append, List.length_nil] at *
      rcases hr2 with rfl | ⟨d, r3, rfl, hd⟩
      · exact parts_n2a _ A.length w (by rw [bl_size]; exact hl) hAp s2 s1 (by rw [bl_size]; simp)
      · refine parts_n2b _ A.length w (by rw [bl_size]; exact hl) hAp s2 s1 (by rw [bl_size]; simp) ?_
        have e := bt_at (A ++ [46]) d r3
        rw [shape_len, List.append_assoc, List.singleton_append] at e
        show ¬ _
        rw [e]
        omega
    have hBp := pos_of B hB0
    rcases hr2 with rfl | ⟨d, r3, rfl, hd⟩
    · exfalso
      rw [List.append_nil, ok_0 A B hA hA0 hB hB0] at h
      cases h
    have hlen : (bl (A ++ 46 :: (B ++ d :: r3))).size = A.length + 1 + B.length + 1 + r3.length := by rw [bl_size]; simp; omega
    have hs : (bl (A ++ 46 :: (B ++ d :: r3))).size ≤ 1000000000 := by rw [bl_size]; exact hl
    have hat : bt (bl (A ++ 46 :: (B ++ d :: r3))) (A.length + 1 + B.length) = (d.toNat : Int) := by
      have := bt_at (A ++ 46 :: B) d r3
      rw [show A ++ 46 :: (B ++ d :: r3) = (A ++ 46 :: B) ++ d :: r3 by simp]
      rw [show (A ++ 46 :: B).length = A.length + 1 + B.length by simp; omega] at this
      exact this
    by_cases hd101 : d = 101
    · subst hd101
      by_cases hr30 : r3 = []
      · subst hr30
        exact parts_n4a _ A.length (A.length + 1 + B.length) w hs hAp s1 s2 s3 (by omega) (by omega) (by omega) (bt_101 A B []) (by rw [hlen]; simp)
      by_cases hm : minL r3 = true
      · have e3 := min_form r3 hm
        rw [e3] at hlen hs s1 s2 s3 h ⊢
        generalize offL r3 = r4 at *
        by_cases hr4 : r4 = []
        · subst hr4
          exact parts_n4b _ A.length (A.length + 1 + B.length) w hs hAp s1 s2 s3 (by omega) (by omega) (by omega) (bt_101 A B _) (by rw [hlen]; simp) (bt_45 A B [])
        obtain ⟨X, r5, rfl, hX, hr5⟩ := spanD r4
        rcases hr5 with rfl | ⟨x, r6, rfl, hx⟩
        · exfalso
          rw [List.append_nil] at h hr4
          rw [ok_e A B (45 :: X) hA hA0 hB hB0 (by rw [(off_min X).2]; exact hX) (by rw [(off_min X).2]; exact hr4)] at h
          cases h
        · obtain ⟨f1, f2⟩ := tail_fact2 A B (X ++ x :: r6)
          have hlen2 : (bl (A ++ 46 :: (B ++ 101 :: 45 :: (X ++ x :: r6)))).size = A.length + 1 + B.length + 2 + X.length + 1 + r6.length := by rw [hlen]; simp; omega
          refine parts_n5m _ A.length (A.length + 1 + B.length) (A.length + 1 + B.length + 2 + X.length) (fun j => satL (X.take (j - (A.length + 1 + B.length + 2)))) w hs hAp s1 s2 s3 (by omega) (by omega) (bt_101 A B _) (bt_45 A B _) (by omega) (by omega) ?_ ?_ ?_ (fun j => sat_bound X hX _) (by omega) ?_
          · intro j h1 h2
            rw [f1]
            exact bt_mid _ X _ hX j (by omega) (by omega)
          · show satL _ = 0
            rw [Nat.sub_self]; rfl
          · intro j h1 h2
            rw [f1]
            exact sat_step _ X _ _ j f2 h1 h2
          · show ¬ _
            have := bt_at (A ++ 46 :: (B ++ [101, 45]) ++ X) x r6
            rw [List.length_append, f2, List.append_assoc, ← f1] at this
            rw [this]
            omega
      · have hm2 : minL r3 = false := by simpa using hm
        have h45 : bt (bl (A ++ 46 :: (B ++ 101 :: r3))) (A.length + 1 + B.length + 1) ≠ 45 := by
          cases r3 with
          | nil => exact absurd rfl hr30
          | cons y r3 =>
            have hy : y ≠ 45 := by unfold minL at hm2; simpa using hm2
            obtain ⟨f1, f2⟩ := tail_fact A B (y :: r3)
            rw [f1]
            exact no_45 [] (y :: r3) _ _ f2 y r3 rfl hy
        have hofs : offL r3 = r3 := by unfold offL; rw [hm2]; simp
        obtain ⟨X, r5, rfl, hX, hr5⟩ := spanD r3
        rcases hr5 with rfl | ⟨x, r6, rfl, hx⟩
        · exfalso
          rw [List.append_nil] at h hr30 hofs
          rw [ok_e A B X hA hA0 hB hB0 (by rw [hofs]; exact hX) (by rw [hofs]; exact hr30)] at h
          cases h
        · obtain ⟨f1, f2⟩ := tail_fact A B (X ++ x :: r6)
          have hlen2 : (bl (A ++ 46 :: (B ++ 101 :: (X ++ x :: r6)))).size = A.length + 1 + B.length + 1 + X.length + 1 + r6.length := by rw [hlen]; simp; omega
          refine parts_n5p _ A.length (A.length + 1 + B.length) (A.length + 1 + B.length + 1 + X.length) (fun j => satL (X.take (j - (A.length + 1 + B.length + 1)))) w hs hAp s1 s2 s3 (by omega) (by omega) (bt_101 A B _) h45 (by omega) (by omega) ?_ ?_ ?_ (fun j => sat_bound X hX _) (by omega) ?_
          · intro j h1 h2
            rw [f1]
            exact bt_mid _ X _ hX j (by omega) (by omega)
          · show satL _ = 0
            rw [Nat.sub_self]; rfl
          · intro j h1 h2
            rw [f1]
            exact sat_step _ X _ _ j f2 h1 h2
          · show ¬ _
            have := bt_at (A ++ 46 :: (B ++ [101]) ++ X) x r6
            rw [List.length_append, f2, List.append_assoc, ← f1] at this
            rw [this]
            omega
    · refine parts_n3 _ A.length (A.length + 1 + B.length) w hs hAp s1 s2 s3 (by omega) (by omega) (by omega) (by omega) ?_ ?_
      · show ¬ _
        rw [hat]; omega
      · show _ ≠ _
        rw [hat]
        intro e
        exact hd101 (UInt8.toNat_inj.1 (by show d.toNat = 101; omega))
  · refine parts_n1b _ A.length w (by rw [bl_size]; exact hl) (fun j hj => bt_left A _ hA j hj) hAp (by rw [bl_size, hlA]; omega) ?_ ?_
    · show ¬ _
      rw [bt_at]; omega
    · show _ ≠ _
      rw [bt_at]
      intro e
      exact hc46 (UInt8.toNat_inj.1 (by show c.toNat = 46; omega))
/-- of a text that is one -/
theorem parts_yes (l : List UInt8) (hl : l.length ≤ 1000000000) (h : okL l = true) (w : World) : Calls Tryz.prog 33 #[.string (bl l)] w fun e w' => e = .returned (.tuple #[.string (bl (WL l ++ PL l)), .int .i64 (eL l), .bool true]) ∧ ∃ n, w' = w.drewN n := by
  obtain ⟨hW, hW0, hP, hP0, hf⟩ := okL_form l h
  have hWp := pos_of _ hW0
  have hPp := pos_of _ hP0
  rcases hf with ⟨hn, hf⟩ | ⟨_, hX, hX0, ⟨hm, hf⟩ | ⟨hm, hf⟩⟩
  · have he : eL l = (((WL l).length : Nat) : Int) + 1 - (((WL l).length + 1 + (PL l).length : Nat) : Int) := by
      unfold eL XL
      rw [(hd_none l 101 hn).2]
      have : satL (offL []) = 0 := rfl
      rw [this]
      simp
      omega
    rw [he]
    generalize WL l = W at *
    generalize PL l = P at *
    subst hf
    obtain ⟨s1, s2, s3, s4⟩ := sh W P [] hW hP
    rw [List.append_nil] at s1 s2 s3 s4
    have hlen : (W ++ 46 :: P).length = W.length + 1 + P.length := by simp; omega
    rw [← s4]
    exact parts_ok0 _ W.length (W.length + 1 + P.length) w (by rw [bl_size]; exact hl) hWp s1 s2 s3 (by omega) (by omega) (by rw [bl_size, hlen])
  · have hXp := pos_of _ hX0
    have he : eL l = satL (XL l) - ((((WL l).length + 1 + (PL l).length : Nat) : Int) - (((WL l).length : Nat) : Int) - 1) := by
      unfold eL
      rw [hm, if_neg (by decide)]
      omega
    rw [he]
    generalize WL l = W at *
    generalize PL l = P at *
    generalize XL l = X at *
    subst hf
    obtain ⟨s1, s2, s3, s4⟩ := sh W P (101 :: X) hW hP
    rw [← s4]
    have hlen := size_e W P X
    obtain ⟨f1, f2⟩ := tail_fact W P (X ++ [])
    rw [List.append_nil] at f1
    refine parts_okp _ W.length (W.length + 1 + P.length) (W.length + 1 + P.length + 1 + X.length) (fun j => satL (X.take (j - (W.length + 1 + P.length + 1)))) _ w (by rw [bl_size]; exact hl) hWp s1 s2 s3 (by omega) (by omega) (bt_101 W P X) ?_ (by omega) (by omega) ?_ ?_ ?_ (fun j => sat_bound X hX _) ?_ hlen.symm
    · show _ ≠ _
      have := bt_left X [] hX 0 hXp
      have h2 := bt_right (W ++ 46 :: (P ++ [101])) X 0
      rw [f2, ← f1, Nat.add_zero] at h2
      rw [List.append_nil] at this
      omega
    · intro j h1 h2
      rw [f1]
      have := bt_mid (W ++ 46 :: (P ++ [101])) X [] hX j (by omega) (by omega)
      rwa [List.append_nil] at this
    · show satL _ = 0
      rw [Nat.sub_self]; rfl
    · intro j h1 h2
      have := sat_step (W ++ 46 :: (P ++ [101])) X [] _ j f2 h1 h2
      rw [List.append_nil, ← f1] at this
      exact this
    · show satL _ = _
      rw [show W.length + 1 + P.length + 1 + X.length - (W.length + 1 + P.length + 1) = X.length by omega, List.take_length]
  · have hXp := pos_of _ hX0
    have he : eL l = -satL (XL l) - ((((WL l).length + 1 + (PL l).length : Nat) : Int) - (((WL l).length : Nat) : Int) - 1) := by
      unfold eL
      rw [hm, if_pos rfl]
      omega
    rw [he]
    generalize WL l = W at *
    generalize PL l = P at *
    generalize XL l = X at *
    subst hf
    obtain ⟨s1, s2, s3, s4⟩ := sh W P (101 :: 45 :: X) hW hP
    rw [← s4]
    have hlen := size_e W P (45 :: X)
    rw [List.length_cons] at hlen
    obtain ⟨f1, f2⟩ := tail_fact2 W P (X ++ [])
    rw [List.append_nil] at f1
    refine parts_okm _ W.length (W.length + 1 + P.length) (W.length + 1 + P.length + 2 + X.length) (fun j => satL (X.take (j - (W.length + 1 + P.length + 2)))) _ w (by rw [bl_size]; exact hl) hWp s1 s2 s3 (by omega) (by omega) (bt_101 W P _) (bt_45 W P X) (by omega) (by omega) ?_ ?_ ?_ (fun j => sat_bound X hX _) ?_ (by omega)
    · intro j h1 h2
      rw [f1]
      have := bt_mid (W ++ 46 :: (P ++ [101, 45])) X [] hX j (by omega) (by omega)
      rwa [List.append_nil] at this
    · show satL _ = 0
      rw [Nat.sub_self]; rfl
    · intro j h1 h2
      have := sat_step (W ++ 46 :: (P ++ [101, 45])) X [] _ j f2 h1 h2
      rw [List.append_nil, ← f1] at this
      exact this
    · show satL _ = _
      rw [show W.length + 1 + P.length + 2 + X.length - (W.length + 1 + P.length + 2) = X.length by omega, List.take_length]
end Go.Proofs.YtnljpbpphdhnpaaGreatDoor

/- The document's Parse, its ways. -/
namespace Go.Proofs.YtnljpbpphdhnpaaGreatDoor
open Go.RowKit Go.PlainAid

set_option maxRecDepth 1000000 in
theorem pr_inf_false (s : ByteArray) (w : World) (t1 : (s.toList == [110, 97, 110]) = false) (t2 : (s.toList == [105, 110, 102]) = true) :
    Calls Tryz.prog 10 #[.string s] w fun e w' => e = .returned (.tuple #[.float .f32 2139095040, .int .i64 0]) ∧ w' = w := by
  have hF := float_over false 2139095040 (Nat.le_refl _)
  rw [show ((2139095040 : Nat) : Int) = 2139095040 from rfl] at hF
  simp only [Bool.false_eq_true, if_false] at hF
  go_enter Tryz.func10, Tryz.ntmps10
  go_wp2_with fail
  refine (hF _).mono ?_
  rintro e9 w9 ⟨rfl, hw9⟩
  obtain rfl := hw9.symm
  clear hw9
  go_wp2
  refine bodyPost_ret (v := .tuple #[.float .f32 2139095040, .int .i64 0]) (by simp [results, Tryz.results10, go_sem]) rfl ⟨rfl, rfl⟩
set_option maxRecDepth 1000000 in
set_option maxHeartbeats 1600000 in
theorem pr_no_false (s b all : ByteArray) (E : Int) (w : World) (t1 : (s.toList == [110, 97, 110]) = false) (t2 : (s.toList == [105, 110, 102]) = false) (t3 : (s.toList == [45, 105, 110, 102]) = false) (h0 : 0 < s.size) (g0 : bt s 0 ≠ 45) (hb : s = b) (h33 : ∀ w, Calls Tryz.prog 33 #[.string b] w fun e w' => e = .returned (.tuple #[.string all, .int .i64 E, .bool false]) ∧ ∃ n, w' = w.drewN n) :
    Calls Tryz.prog 10 #[.string s] w fun e w' => e = .returned (.tuple #[.float .f32 0, .int .i64 30]) ∧ Keep [] w w' := by
  have h0i : (0 : Int) < (s.size : Int) := by omega
  have gs : ((s[0]'h0).toNat : Int) = bt s 0 := get_bt s 0 h0
  have g45 : (bt s 0 == 45) = false := by rw [beq_eq_false_iff_ne]; exact g0
  clear g0
  generalize bt s 0 = c at *
  subst hb
  go_enter Tryz.func10, Tryz.ntmps10
  go_wp2_with fail
  refine (h33 _).mono ?_
  rintro e9 w9 ⟨rfl, n9, hw9⟩
  have K9 : Hid (Keep [] w w9) := show Keep [] w w9 by rw [hw9]; exact (Keep.refl [] w).drewN n9
  clear hw9
  go_wp2
  refine bodyPost_ret (v := .tuple #[.float .f32 0, .int .i64 30]) (by simp [results, Tryz.results10, go_sem]) rfl ⟨rfl, K9.out⟩
set_option maxRecDepth 1000000 in
set_option maxHeartbeats 1600000 in
theorem pr_over_false (s b all : ByteArray) (E : Int) (w : World) (t1 : (s.toList == [110, 97, 110]) = false) (t2 : (s.toList == [105, 110, 102]) = false) (t3 : (s.toList == [45, 105, 110, 102]) = false) (h0 : 0 < s.size) (g0 : bt s 0 ≠ 45) (hb : s = b) (h33 : ∀ w, Calls Tryz.prog 33 #[.string b] w fun e w' => e = .returned (.tuple #[.string all, .int .i64 E, .bool true]) ∧ ∃ n, w' = w.drewN n) (h34 : ∀ w, Calls Tryz.prog 34 #[.string all, .int .i64 E] w fun r w' => r = .returned (.tuple #[.agg #[.slice none 0 0, .slice none 0 0], .bool false]) ∧ Keep [] w w') :
    Calls Tryz.prog 10 #[.string s] w fun e w' => e = .returned (.tuple #[.float .f32 0, .int .i64 30]) ∧ Keep [] w w' := by
  have h0i : (0 : Int) < (s.size : Int) := by omega
  have gs : ((s[0]'h0).toNat : Int) = bt s 0 := get_bt s 0 h0
  have g45 : (bt s 0 == 45) = false := by rw [beq_eq_false_iff_ne]; exact g0
  clear g0
  generalize bt s 0 = c at *
  subst hb
  go_enter Tryz.func10, Tryz.ntmps10
  go_wp2_with fail
  refine (h33 _).mono ?_
  rintro e9 w9 ⟨rfl, n9, hw9⟩
  have K9 : Hid (Keep [] w w9) := show Keep [] w w9 by rw [hw9]; exact (Keep.refl [] w).drewN n9
  clear hw9
  go_wp2_with fail
  refine (h34 _).mono ?_
  rintro e9 w8 ⟨rfl, hk8⟩
  have K8 : Hid (Keep [] w (w8.alloc (Obj.cells #[.slice none 0 0, .slice none 0 0] 57))) := (K9.out.trans' hk8).alloc _
  clear hk8
  go_wp2
  refine bodyPost_ret (v := .tuple #[.float .f32 0, .int .i64 30]) (by simp [results, Tryz.results10, go_sem]) rfl ⟨rfl, K8.out⟩
set_option maxRecDepth 1000000 in
set_option maxHeartbeats 1600000 in
theorem pr_near_no_false (A B N : Nat) (s b all : ByteArray) (E : Int) (w : World) (t1 : (s.toList == [110, 97, 110]) = false) (t2 : (s.toList == [105, 110, 102]) = false) (t3 : (s.toList == [45, 105, 110, 102]) = false) (h0 : 0 < s.size) (g0 : bt s 0 ≠ 45) (hb : s = b) (h33 : ∀ w, Calls Tryz.prog 33 #[.string b] w fun e w' => e = .returned (.tuple #[.string all, .int .i64 E, .bool true]) ∧ ∃ n, w' = w.drewN n) (h34 : ∀ w, Calls Tryz.prog 34 #[.string all, .int .i64 E] w fun r w' => (∃ va vb, r = .returned (.tuple #[.agg #[va, vb], .bool true]) ∧ (Big w' va A 1000 ∧ Big w' vb B 1000)) ∧ Keep [] w w') (hB : 0 < B) (hN0 : nrst A B = N) (hN : N = 2139095040) :
    Calls Tryz.prog 10 #[.string s] w fun e w' => e = .returned (.tuple #[.float .f32 0, .int .i64 30]) ∧ Keep [] w w' := by
  have h0i : (0 : Int) < (s.size : Int) := by omega
  have gs : ((s[0]'h0).toNat : Int) = bt s 0 := get_bt s 0 h0
  have g45 : (bt s 0 == 45) = false := by rw [beq_eq_false_iff_ne]; exact g0
  clear g0
  generalize bt s 0 = c at *
  subst hb
  go_enter Tryz.func10, Tryz.ntmps10
  go_wp2_with fail
  refine (h33 _).mono ?_
  rintro e9 w9 ⟨rfl, n9, hw9⟩
  have K9 : Hid (Keep [] w w9) := show Keep [] w w9 by rw [hw9]; exact (Keep.refl [] w).drewN n9
  clear hw9
  go_wp2_with fail
  refine (h34 _).mono ?_
  rintro e9 w8 ⟨⟨va, vb, rfl, hva, hvb⟩, hk8⟩
  have K8 : Hid (Keep [] w (w8.alloc (Obj.cells #[va, vb] 57))) := (K9.out.trans' hk8).alloc _
  have hA8 := nearest_any va vb A B 1000 1000 (w8.alloc (Obj.cells #[va, vb] 57)) (hva.keep (Keep.alloc1 w8 _) (Off.nil _)) (hvb.keep (Keep.alloc1 w8 _) (Off.nil _)) (by decide) (by decide)
  obtain ⟨ao, na, ca, rfl⟩ := hva.sl
  obtain ⟨bo, nb, cb, rfl⟩ := hvb.sl
  clear hk8 hva hvb
  go_wp2_with fail
  refine hA8.mono ?_
  rintro e9 w7 ⟨n, hn, rfl, hk7⟩
  rw [(nrst_of A B n hB hn).trans hN0]
  have K7 : Hid (Keep [] w w7) := K8.out.trans' hk7
  clear hk7 hn hA8
  subst hN
  go_wp2
  refine bodyPost_ret (v := .tuple #[.float .f32 0, .int .i64 30]) (by simp [results, Tryz.results10, go_sem]) rfl ⟨rfl, K7.out⟩
set_option maxRecDepth 1000000 in
set_option maxHeartbeats 1600000 in
theorem pr_near_yes_false (A B N : Nat) (s b all : ByteArray) (E : Int) (w : World) (t1 : (s.toList == [110, 97, 110]) = false) (t2 : (s.toList == [105, 110, 102]) = false) (t3 : (s.toList == [45, 105, 110, 102]) = false) (h0 : 0 < s.size) (g0 : bt s 0 ≠ 45) (hb : s = b) (h33 : ∀ w, Calls Tryz.prog 33 #[.string b] w fun e w' => e = .returned (.tuple #[.string all, .int .i64 E, .bool true]) ∧ ∃ n, w' = w.drewN n) (h34 : ∀ w, Calls Tryz.prog 34 #[.string all, .int .i64 E] w fun r w' => (∃ va vb, r = .returned (.tuple #[.agg #[va, vb], .bool true]) ∧ (Big w' va A 1000 ∧ Big w' vb B 1000)) ∧ Keep [] w w') (hB : 0 < B) (hN0 : nrst A B = N) (hN : N < 2139095040) :
    Calls Tryz.prog 10 #[.string s] w fun e w' => e = .returned (.tuple #[.float .f32 N, .int .i64 0]) ∧ Keep [] w w' := by
  have h0i : (0 : Int) < (s.size : Int) := by omega
  have gs : ((s[0]'h0).toNat : Int) = bt s 0 := get_bt s 0 h0
  have g45 : (bt s 0 == 45) = false := by rw [beq_eq_false_iff_ne]; exact g0
  clear g0
  generalize bt s 0 = c at *
  subst hb
  go_enter Tryz.func10, Tryz.ntmps10
  go_wp2_with fail
  refine (h33 _).mono ?_
  rintro e9 w9 ⟨rfl, n9, hw9⟩
  have K9 : Hid (Keep [] w w9) := show Keep [] w w9 by rw [hw9]; exact (Keep.refl [] w).drewN n9
  clear hw9
  go_wp2_with fail
  refine (h34 _).mono ?_
  rintro e9 w8 ⟨⟨va, vb, rfl, hva, hvb⟩, hk8⟩
  have K8 : Hid (Keep [] w (w8.alloc (Obj.cells #[va, vb] 57))) := (K9.out.trans' hk8).alloc _
  have hA8 := nearest_any va vb A B 1000 1000 (w8.alloc (Obj.cells #[va, vb] 57)) (hva.keep (Keep.alloc1 w8 _) (Off.nil _)) (hvb.keep (Keep.alloc1 w8 _) (Off.nil _)) (by decide) (by decide)
  obtain ⟨ao, na, ca, rfl⟩ := hva.sl
  obtain ⟨bo, nb, cb, rfl⟩ := hvb.sl
  clear hk8 hva hvb
  go_wp2_with fail
  refine hA8.mono ?_
  rintro e9 w7 ⟨n, hn, rfl, hk7⟩
  rw [(nrst_of A B n hB hn).trans hN0]
  have K7 : Hid (Keep [] w w7) := K8.out.trans' hk7
  clear hk7 hn hA8
  have hF := float_any false N (by omega) w7
  simp only [Bool.false_eq_true, if_false] at hF
  have hNb : ((N : Int) == 2139095040) = false := by rw [beq_eq_false_iff_ne]; omega
  go_wp2_with fail
  refine hF.mono ?_
  rintro e9 w6 ⟨rfl, hw6⟩
  obtain rfl := hw6.symm
  clear hw6
  go_wp2
  refine bodyPost_ret (v := .tuple #[.float .f32 N, .int .i64 0]) (by simp [results, Tryz.results10, go_sem]) rfl ⟨rfl, K7.out⟩
set_option maxRecDepth 1000000 in
theorem pr_inf_true (s : ByteArray) (w : World) (t1 : (s.toList == [110, 97, 110]) = false) (t2 : (s.toList == [105, 110, 102]) = false) (t3 : (s.toList == [45, 105, 110, 102]) = true) :
    Calls Tryz.prog 10 #[.string s] w fun e w' => e = .returned (.tuple #[.float .f32 4286578688, .int .i64 0]) ∧ w' = w := by
  have hF := float_over true 2139095040 (Nat.le_refl _)
  rw [show ((2139095040 : Nat) : Int) = 2139095040 from rfl] at hF
  simp only [if_true] at hF
  go_enter Tryz.func10, Tryz.ntmps10
  go_wp2_with fail
  refine (hF _).mono ?_
  rintro e9 w9 ⟨rfl, hw9⟩
  obtain rfl := hw9.symm
  clear hw9
  go_wp2
  refine bodyPost_ret (v := .tuple #[.float .f32 4286578688, .int .i64 0]) (by simp [results, Tryz.results10, go_sem]) rfl ⟨rfl, rfl⟩
set_option maxRecDepth 1000000 in
set_option maxHeartbeats 1600000 in
theorem pr_no_true (s b all : ByteArray) (E : Int) (w : World) (t1 : (s.toList == [110, 97, 110]) = false) (t2 : (s.toList == [105, 110, 102]) = false) (t3 : (s.toList == [45, 105, 110, 102]) = false) (h0 : 0 < s.size) (g0 : bt s 0 = 45) (hb : s.extract 1 s.size = b) (h33 : ∀ w, Calls Tryz.prog 33 #[.string b] w fun e w' => e = .returned (.tuple #[.string all, .int .i64 E, .bool false]) ∧ ∃ n, w' = w.drewN n) :
    Calls Tryz.prog 10 #[.string s] w fun e w' => e = .returned (.tuple #[.float .f32 0, .int .i64 30]) ∧ Keep [] w w' := by
  have h0i : (0 : Int) < (s.size : Int) := by omega
  have h1i : (1 : Int) ≤ (s.size : Int) := by omega
  have gs : ((s[0]'h0).toNat : Int) = 45 := (get_bt s 0 h0).trans g0
  go_enter Tryz.func10, Tryz.ntmps10
  go_wp2_with fail
  refine (h33 _).mono ?_
  rintro e9 w9 ⟨rfl, n9, hw9⟩
  have K9 : Hid (Keep [] w w9) := show Keep [] w w9 by rw [hw9]; exact (Keep.refl [] w).drewN n9
  clear hw9
  go_wp2
  refine bodyPost_ret (v := .tuple #[.float .f32 0, .int .i64 30]) (by simp [results, Tryz.results10, go_sem]) rfl ⟨rfl, K9.out⟩
set_option maxRecDepth 1000000 in
set_option maxHeartbeats 1600000 in
theorem pr_over_true (s b all : ByteArray) (E : Int) (w : World) (t1 : (s.toList == [110, 97, 110]) = false) (t2 : (s.toList == [105, 110, 102]) = false) (t3 : (s.toList == [45, 105, 110, 102]) = false) (h0 : 0 < s.size) (g0 : bt s 0 = 45) (hb : s.extract 1 s.size = b) (h33 : ∀ w, Calls Tryz.prog 33 #[.string b] w fun e w' => e = .returned (.tuple #[.string all, .int .i64 E, .bool true]) ∧ ∃ n, w' = w.drewN n) (h34 : ∀ w, Calls Tryz.prog 34 #[.string all, .int .i64 E] w fun r w' => r = .returned (.tuple #[.agg #[.slice none 0 0, .slice none 0 0], .bool false]) ∧ Keep [] w w') :
    Calls Tryz.prog 10 #[.string s] w fun e w' => e = .returned (.tuple #[.float .f32 0, .int .i64 30]) ∧ Keep [] w w' := by
  have h0i : (0 : Int) < (s.size : Int) := by omega
  have h1i : (1 : Int) ≤ (s.size : Int) := by omega
  have gs : ((s[0]'h0).toNat : Int) = 45 := (get_bt s 0 h0).trans g0
  go_enter Tryz.func10, Tryz.ntmps10
  go_wp2_with fail
  refine (h33 _).mono ?_
  rintro e9 w9 ⟨rfl, n9, hw9⟩
  have K9 : Hid (Keep [] w w9) := show Keep [] w w9 by rw [hw9]; exact (Keep.refl [] w).drewN n9
  clear hw9
  go_wp2_with fail
  refine (h34 _).mono ?_
  rintro e9 w8 ⟨rfl, hk8⟩
  have K8 : Hid (Keep [] w (w8.alloc (Obj.cells #[.slice none 0 0, .slice none 0 0] 57))) := (K9.out.trans' hk8).alloc _
  clear hk8
  go_wp2
  refine bodyPost_ret (v := .tuple #[.float .f32 0, .int .i64 30]) (by simp [results, Tryz.results10, go_sem]) rfl ⟨rfl, K8.out⟩
set_option maxRecDepth 1000000 in
set_option maxHeartbeats 1600000 in
theorem pr_near_no_true (A B N : Nat) (s b all : ByteArray) (E : Int) (w : World) (t1 : (s.toList == [110, 97, 110]) = false) (t2 : (s.toList == [105, 110, 102]) = false) (t3 : (s.toList == [45, 105, 110, 102]) = false) (h0 : 0 < s.size) (g0 : bt s 0 = 45) (hb : s.extract 1 s.size = b) (h33 : ∀ w, Calls Tryz.prog 33 #[.string b] w fun e w' => e = .returned (.tuple #[.string all, .int .i64 E, .bool true]) ∧ ∃ n, w' = w.drewN n) (h34 : ∀ w, Calls Tryz.prog 34 #[.string all, .int .i64 E] w fun r w' => (∃ va vb, r = .returned (.tuple #[.agg #[va, vb], .bool true]) ∧ (Big w' va A 1000 ∧ Big w' vb B 1000)) ∧ Keep [] w w') (hB : 0 < B) (hN0 : nrst A B = N) (hN : N = 2139095040) :
    Calls Tryz.prog 10 #[.string s] w fun e w' => e = .returned (.tuple #[.float .f32 0, .int .i64 30]) ∧ Keep [] w w' := by
  have h0i : (0 : Int) < (s.size : Int) := by omega
  have h1i : (1 : Int) ≤ (s.size : Int) := by omega
  have gs : ((s[0]'h0).toNat : Int) = 45 := (get_bt s 0 h0).trans g0
  go_enter Tryz.func10, Tryz.ntmps10
  go_wp2_with fail
  refine (h33 _).mono ?_
  rintro e9 w9 ⟨rfl, n9, hw9⟩
  have K9 : Hid (Keep [] w w9) := show Keep [] w w9 by rw [hw9]; exact (Keep.refl [] w).drewN n9
  clear hw9
  go_wp2_with fail
  refine (h34 _).mono ?_
  rintro e9 w8 ⟨⟨va, vb, rfl, hva, hvb⟩, hk8⟩
  have K8 : Hid (Keep [] w (w8.alloc (Obj.cells #[va, vb] 57))) := (K9.out.trans' hk8).alloc _
  have hA8 := nearest_any va vb A B 1000 1000 (w8.alloc (Obj.cells #[va, vb] 57)) (hva.keep (Keep.alloc1 w8 _) (Off.nil _)) (hvb.keep (Keep.alloc1 w8 _) (Off.nil _)) (by decide) (by decide)
  obtain ⟨ao, na, ca, rfl⟩ := hva.sl
  obtain ⟨bo, nb, cb, rfl⟩ := hvb.sl
  clear hk8 hva hvb
  go_wp2_with fail
  refine hA8.mono ?_
  rintro e9 w7 ⟨n, hn, rfl, hk7⟩
  rw [(nrst_of A B n hB hn).trans hN0]
  have K7 : Hid (Keep [] w w7) := K8.out.trans' hk7
  clear hk7 hn hA8
  subst hN
  go_wp2
  refine bodyPost_ret (v := .tuple #[.float .f32 0, .int .i64 30]) (by simp [results, Tryz.results10, go_sem]) rfl ⟨rfl, K7.out⟩
set_option maxRecDepth 1000000 in
set_option maxHeartbeats 1600000 in
theorem pr_near_yes_true (A B N : Nat) (s b all : ByteArray) (E : Int) (w : World) (t1 : (s.toList == [110, 97, 110]) = false) (t2 : (s.toList == [105, 110, 102]) = false) (t3 : (s.toList == [45, 105, 110, 102]) = false) (h0 : 0 < s.size) (g0 : bt s 0 = 45) (hb : s.extract 1 s.size = b) (h33 : ∀ w, Calls Tryz.prog 33 #[.string b] w fun e w' => e = .returned (.tuple #[.string all, .int .i64 E, .bool true]) ∧ ∃ n, w' = w.drewN n) (h34 : ∀ w, Calls Tryz.prog 34 #[.string all, .int .i64 E] w fun r w' => (∃ va vb, r = .returned (.tuple #[.agg #[va, vb], .bool true]) ∧ (Big w' va A 1000 ∧ Big w' vb B 1000)) ∧ Keep [] w w') (hB : 0 < B) (hN0 : nrst A B = N) (hN : N < 2139095040) :
    Calls Tryz.prog 10 #[.string s] w fun e w' => e = .returned (.tuple #[.float .f32 (N + 2147483648), .int .i64 0]) ∧ Keep [] w w' := by
  have h0i : (0 : Int) < (s.size : Int) := by omega
  have h1i : (1 : Int) ≤ (s.size : Int) := by omega
  have gs : ((s[0]'h0).toNat : Int) = 45 := (get_bt s 0 h0).trans g0
  go_enter Tryz.func10, Tryz.ntmps10
  go_wp2_with fail
  refine (h33 _).mono ?_
  rintro e9 w9 ⟨rfl, n9, hw9⟩
  have K9 : Hid (Keep [] w w9) := show Keep [] w w9 by rw [hw9]; exact (Keep.refl [] w).drewN n9
  clear hw9
  go_wp2_with fail
  refine (h34 _).mono ?_
  rintro e9 w8 ⟨⟨va, vb, rfl, hva, hvb⟩, hk8⟩
  have K8 : Hid (Keep [] w (w8.alloc (Obj.cells #[va, vb] 57))) := (K9.out.trans' hk8).alloc _
  have hA8 := nearest_any va vb A B 1000 1000 (w8.alloc (Obj.cells #[va, vb] 57)) (hva.keep (Keep.alloc1 w8 _) (Off.nil _)) (hvb.keep (Keep.alloc1 w8 _) (Off.nil _)) (by decide) (by decide)
  obtain ⟨ao, na, ca, rfl⟩ := hva.sl
  obtain ⟨bo, nb, cb, rfl⟩ := hvb.sl
  clear hk8 hva hvb
  go_wp2_with fail
  refine hA8.mono ?_
  rintro e9 w7 ⟨n, hn, rfl, hk7⟩
  rw [(nrst_of A B n hB hn).trans hN0]
  have K7 : Hid (Keep [] w w7) := K8.out.trans' hk7
  clear hk7 hn hA8
  have hF := float_any true N (by omega) w7
  simp only [if_true] at hF
  have hNb : ((N : Int) == 2139095040) = false := by rw [beq_eq_false_iff_ne]; omega
  go_wp2_with fail
  refine hF.mono ?_
  rintro e9 w6 ⟨rfl, hw6⟩
  obtain rfl := hw6.symm
  clear hw6
  go_wp2
  refine bodyPost_ret (v := .tuple #[.float .f32 (N + 2147483648), .int .i64 0]) (by simp [results, Tryz.results10, go_sem]) rfl ⟨rfl, K7.out⟩
end Go.Proofs.YtnljpbpphdhnpaaGreatDoor

/- The document's Parse of any text. -/
namespace Go.Proofs.YtnljpbpphdhnpaaGreatDoor
open Go.RowKit Go.PlainAid

theorem eL_bound (l : List UInt8) (hl : l.length ≤ 1000000000) (h : okL l = true) : -2000000000000 ≤ eL l ∧ eL l ≤ 2000000000000 := by
  obtain ⟨l1, l2, l3, l4, l5⟩ := lens l
  have hs := sat_dv _ (XL_dig l h)
  unfold eL
  rw [hs]
  generalize dvL (XL l) = d
  split <;> omega
set_option maxRecDepth 1000000 in
theorem pr_empty (w : World) : Calls Tryz.prog 10 #[.string ⟨#[]⟩] w fun e w' => e = .returned (.tuple #[.float .f32 0, .int .i64 30]) ∧ Keep [] w w' := by
  have h33 := parts_empty
  go_enter Tryz.func10, Tryz.ntmps10
  go_wp2_with fail
  refine (h33 _).mono ?_
  rintro e9 w9 ⟨rfl, n9, hw9⟩
  have K9 : Hid (Keep [] w w9) := show Keep [] w w9 by rw [hw9]; exact (Keep.refl [] w).drewN n9
  clear hw9
  go_wp2
  refine bodyPost_ret (v := .tuple #[.float .f32 0, .int .i64 30]) (by simp [results, Tryz.results10, go_sem]) rfl ⟨rfl, K9.out⟩
set_option maxRecDepth 1000000 in
theorem nan_31 (w : World) : Calls Tryz.prog 31 #[] w fun e w' => ∃ x, e = .returned (.float .f32 x) ∧ (nanB x = true ∧ x < 4294967296) ∧ Keep [] w w' := by
  obtain ⟨r, hr1, hr2⟩ := run_nan .quo 0 0 (by decide) (by simp)
  go_enter Tryz.func31, Tryz.ntmps31
  go_wp2
  go_ret
  exact ⟨_, rfl, hr1 _, (Keep.refl [] w).drew⟩
set_option maxRecDepth 1000000 in
theorem ref_nan (w : World) : Calls Tryz.prog 10 #[.string (bl [110, 97, 110])] w fun e w' => ∃ x, e = .returned (.tuple #[.float .f32 x, .int .i64 0]) ∧ (nanB x = true ∧ x < 4294967296) ∧ Keep [] w w' := by
  have t1 : ((bl [110, 97, 110]).toList == [110, 97, 110]) = true := by rw [bl_eqs]; decide
  generalize bl [110, 97, 110] = s at *
  go_enter Tryz.func10, Tryz.ntmps10
  go_wp2_with fail
  refine (nan_31 _).mono ?_
  rintro e9 w9 ⟨x, rfl, hx, hk⟩
  have HX : Hid ((nanB x = true ∧ x < 4294967296) ∧ Keep [] w w9) := ⟨hx, hk⟩
  clear hx hk
  go_wp2
  refine bodyPost_ret (v := .tuple #[.float .f32 x, .int .i64 0]) (by simp [results, Tryz.results10, go_sem]) rfl ⟨x, rfl, HX.out⟩
theorem ref_tail_false (l m : List UInt8) (hm : m.length ≤ 1000000000) (w : World) (t1 : ((bl l).toList == [110, 97, 110]) = false) (t2 : ((bl l).toList == [105, 110, 102]) = false) (t3 : ((bl l).toList == [45, 105, 110, 102]) = false) (h0 : 0 < (bl l).size) (g0 : bt (bl l) 0 ≠ 45) (hb : bl l = bl m) :
    Calls Tryz.prog 10 #[.string (bl l)] w fun e w' => e = .returned (match valR m with | some R => .tuple #[.float .f32 R, .int .i64 0] | none => .tuple #[.float .f32 0, .int .i64 30]) ∧ Keep [] w w' := by
  by_cases hok : okL m = true
  · have h33 := fun w => parts_yes m hm hok w
    have hbd := eL_bound m hm hok
    have hF := okL_form m hok
    have hA : Dig (WL m ++ PL m) := fun x hx => by
      rcases List.mem_append.1 hx with hx | hx
      · exact hF.1 x hx
      · exact hF.2.2.1 x hx
    have hAl : (WL m ++ PL m).length ≤ 2000000000 := by
      obtain ⟨l1, l2, l3, l4, l5⟩ := lens m
      rw [List.length_append]; omega
    have h34 := fun w => said_any (WL m ++ PL m) hA hAl (eL m) hbd w
    rw [show Lib.trimLeftB (WL m ++ PL m) 48 = FL m from rfl] at h34
    have hv : valR m = if 100 < ((FL m).length : Int) + eL m ∧ FL m ≠ [] then none
      else if FL m = [] ∨ ((FL m).length : Int) + eL m < -100 then some 0
      else if nrst (dvL (saidS (FL m) (eL m)).1 * 10 ^ (saidS (FL m) (eL m)).2.toNat) (10 ^ (-(saidS (FL m) (eL m)).2).toNat) < 2139095040 then some (nrst (dvL (saidS (FL m) (eL m)).1 * 10 ^ (saidS (FL m) (eL m)).2.toNat) (10 ^ (-(saidS (FL m) (eL m)).2).toNat)) else none := by
      unfold valR; rw [if_pos hok]
    rw [hv]
    clear hv hF hA hAl hbd
    by_cases hov : 100 < ((FL m).length : Int) + eL m ∧ FL m ≠ []
    · simp only [if_pos hov] at h34 ⊢
      exact pr_over_false _ _ _ _ w t1 t2 t3 h0 g0 hb h33 h34
    · simp only [if_neg hov] at h34 ⊢
      by_cases hlo : FL m = [] ∨ ((FL m).length : Int) + eL m < -100
      · simp only [if_pos hlo] at h34 ⊢
        exact pr_near_yes_false 0 1 0 _ _ _ _ w t1 t2 t3 h0 g0 hb h33 h34 (by decide) (nrst_tiny 0 1 (by decide)) (by decide)
      · simp only [if_neg hlo] at h34 ⊢
        have hle := nrst_le (dvL (saidS (FL m) (eL m)).1 * 10 ^ (saidS (FL m) (eL m)).2.toNat) (10 ^ (-(saidS (FL m) (eL m)).2).toNat)
        by_cases hN : nrst (dvL (saidS (FL m) (eL m)).1 * 10 ^ (saidS (FL m) (eL m)).2.toNat) (10 ^ (-(saidS (FL m) (eL m)).2).toNat) < 2139095040
        · simp only [if_pos hN]
          exact pr_near_yes_false _ _ _ _ _ _ _ w t1 t2 t3 h0 g0 hb h33 h34 (ten_pos _) rfl hN
        · simp only [if_neg hN]
          exact pr_near_no_false _ _ _ _ _ _ _ w t1 t2 t3 h0 g0 hb h33 h34 (ten_pos _) rfl (by omega)
  · have hok2 : okL m = false := by simpa using hok
    have hv : valR m = none := by unfold valR; rw [if_neg hok]
    rw [hv]
    exact pr_no_false _ _ _ _ w t1 t2 t3 h0 g0 hb fun w => parts_no m hm hok2 w
theorem ref_tail_true (l m : List UInt8) (hm : m.length ≤ 1000000000) (w : World) (t1 : ((bl l).toList == [110, 97, 110]) = false) (t2 : ((bl l).toList == [105, 110, 102]) = false) (t3 : ((bl l).toList == [45, 105, 110, 102]) = false) (h0 : 0 < (bl l).size) (g0 : bt (bl l) 0 = 45) (hb : (bl l).extract 1 (bl l).size = bl m) :
    Calls Tryz.prog 10 #[.string (bl l)] w fun e w' => e = .returned (match valR m with | some R => .tuple #[.float .f32 (R + 2147483648), .int .i64 0] | none => .tuple #[.float .f32 0, .int .i64 30]) ∧ Keep [] w w' := by
  by_cases hok : okL m = true
  · have h33 := fun w => parts_yes m hm hok w
    have hbd := eL_bound m hm hok
    have hF := okL_form m hok
    have hA : Dig (WL m ++ PL m) := fun x hx => by
      rcases List.mem_append.1 hx with hx | hx
      · exact hF.1 x hx
      · exact hF.2.2.1 x hx
    have hAl : (WL m ++ PL m).length ≤ 2000000000 := by
      obtain ⟨l1, l2, l3, l4, l5⟩ := lens m
      rw [List.length_append]; omega
    have h34 := fun w => said_any (WL m ++ PL m) hA hAl (eL m) hbd w
    rw [show Lib.trimLeftB (WL m ++ PL m) 48 = FL m from rfl] at h34
    have hv : valR m = if 100 < ((FL m).length : Int) + eL m ∧ FL m ≠ [] then none
      else if FL m = [] ∨ ((FL m).length : Int) + eL m < -100 then some 0
      else if nrst (dvL (saidS (FL m) (eL m)).1 * 10 ^ (saidS (FL m) (eL m)).2.toNat) (10 ^ (-(saidS (FL m) (eL m)).2).toNat) < 2139095040 then some (nrst (dvL (saidS (FL m) (eL m)).1 * 10 ^ (saidS (FL m) (eL m)).2.toNat) (10 ^ (-(saidS (FL m) (eL m)).2).toNat)) else none := by
      unfold valR; rw [if_pos hok]
    rw [hv]
    clear hv hF hA hAl hbd
    by_cases hov : 100 < ((FL m).length : Int) + eL m ∧ FL m ≠ []
    · simp only [if_pos hov] at h34 ⊢
      exact pr_over_true _ _ _ _ w t1 t2 t3 h0 g0 hb h33 h34
    · simp only [if_neg hov] at h34 ⊢
      by_cases hlo : FL m = [] ∨ ((FL m).length : Int) + eL m < -100
      · simp only [if_pos hlo] at h34 ⊢
        exact pr_near_yes_true 0 1 0 _ _ _ _ w t1 t2 t3 h0 g0 hb h33 h34 (by decide) (nrst_tiny 0 1 (by decide)) (by decide)
      · simp only [if_neg hlo] at h34 ⊢
        have hle := nrst_le (dvL (saidS (FL m) (eL m)).1 * 10 ^ (saidS (FL m) (eL m)).2.toNat) (10 ^ (-(saidS (FL m) (eL m)).2).toNat)
        by_cases hN : nrst (dvL (saidS (FL m) (eL m)).1 * 10 ^ (saidS (FL m) (eL m)).2.toNat) (10 ^ (-(saidS (FL m) (eL m)).2).toNat) < 2139095040
        · simp only [if_pos hN]
          exact pr_near_yes_true _ _ _ _ _ _ _ w t1 t2 t3 h0 g0 hb h33 h34 (ten_pos _) rfl hN
        · simp only [if_neg hN]
          exact pr_near_no_true _ _ _ _ _ _ _ w t1 t2 t3 h0 g0 hb h33 h34 (ten_pos _) rfl (by omega)
  · have hok2 : okL m = false := by simpa using hok
    have hv : valR m = none := by unfold valR; rw [if_neg hok]
    rw [hv]
    exact pr_no_true _ _ _ _ w t1 t2 t3 h0 g0 hb fun w => parts_no m hm hok2 w
theorem ref_any (l : List UInt8) (hl : l.length ≤ 1000000000) (hn : l ≠ [110, 97, 110]) (w : World) :
    Calls Tryz.prog 10 #[.string (bl l)] w fun e w' => e = .returned (match parseP l with | some R => .tuple #[.float .f32 R, .int .i64 0] | none => .tuple #[.float .f32 0, .int .i64 30]) ∧ Keep [] w w' := by
  have t1 : ((bl l).toList == [110, 97, 110]) = false := by rw [bl_eqs, decide_eq_false hn]
  have hlo := off_len l
  by_cases hi : offL l = [105, 110, 102]
  · have e : parseP l = some (if minL l = true then 4286578688 else 2139095040) := by unfold parseP; rw [if_neg hn, if_pos hi]
    rw [e]
    cases hm : minL l with
    | true =>
      have h2 := min_form l hm
      rw [hi] at h2
      refine (pr_inf_true (bl l) w t1 (by rw [bl_eqs, h2]; decide) (by rw [bl_eqs, h2]; decide)).mono ?_
      rintro r w' ⟨rfl, rfl⟩
      exact ⟨rfl, Keep.refl _ _⟩
    | false =>
      have h2 : offL l = l := by unfold offL; rw [hm]; simp
      rw [h2] at hi
      refine (pr_inf_false (bl l) w t1 (by rw [bl_eqs, hi]; decide)).mono ?_
      rintro r w' ⟨rfl, rfl⟩
      exact ⟨rfl, Keep.refl _ _⟩
  · have e : parseP l = match valP (offL l) with | some R => some (if minL l = true then R + 2147483648 else R) | none => none := by unfold parseP; rw [if_neg hn, if_neg hi]; cases valP (offL l) <;> rfl
    rw [e, ← val_same (offL l) (by omega)]
    clear e
    by_cases he : l = []
    · subst he
      have hv : valR (offL []) = none := rfl
      rw [hv]
      exact pr_empty w
    have hp : 0 < l.length := List.length_pos_iff.2 he
    cases hm : minL l with
    | true =>
      have h2 := min_form l hm
      have t2 : ((bl l).toList == [105, 110, 102]) = false := by
        rw [bl_eqs, decide_eq_false]
        intro h3
        rw [h3] at hm
        cases hm
      have t3 : ((bl l).toList == [45, 105, 110, 102]) = false := by
        rw [bl_eqs, decide_eq_false]
        intro h3
        rw [h3] at hi
        exact hi rfl
      have hb : (bl l).extract 1 (bl l).size = bl (offL l) := by
        have := ext_right [45] (offL l) 1 rfl
        rw [List.singleton_append, ← h2] at this
        exact this
      have g0 : bt (bl l) 0 = 45 := by
        have := bt_head 45 (offL l)
        rw [← h2] at this
        exact this
      refine (ref_tail_true l (offL l) (by omega) w t1 t2 t3 (by rw [bl_size]; exact hp) g0 hb).mono ?_
      rintro r w' ⟨rfl, hk⟩
      refine ⟨?_, hk⟩
      cases valR (offL l) <;> rfl
    | false =>
      have h2 : offL l = l := by unfold offL; rw [hm]; simp
      rw [h2] at hi ⊢
      have t2 : ((bl l).toList == [105, 110, 102]) = false := by rw [bl_eqs, decide_eq_false hi]
      have t3 : ((bl l).toList == [45, 105, 110, 102]) = false := by
        rw [bl_eqs, decide_eq_false]
        intro h3
        rw [h3] at hm
        cases hm
      have g0 : bt (bl l) 0 ≠ 45 := by
        cases l with
        | nil => exact absurd rfl he
        | cons c l =>
          rw [bt_head]
          intro h3
          have : c = 45 := UInt8.toNat_inj.1 (by show c.toNat = 45; omega)
          rw [this] at hm
          cases hm
      refine (ref_tail_false l l (by omega) w t1 t2 t3 (by rw [bl_size]; exact hp) g0 rfl).mono ?_
      rintro r w' ⟨rfl, hk⟩
      refine ⟨?_, hk⟩
      cases valR l <;> rfl
end Go.Proofs.YtnljpbpphdhnpaaGreatDoor

/- RealsParses: the law's walk. -/
namespace Go.Proofs.YtnljpbpphdhnpaaGreatDoor
open Go.RowKit Go.PlainAid

theorem sameR_self (a : Nat) : sameR a a = true := by
  unfold sameR eqB
  cases nanB a <;> simp
theorem sameR_nan (a b : Nat) (ha : nanB a = true) (hb : nanB b = true) : sameR a b = true := by
  unfold sameR
  rw [ha, hb]
  rfl
theorem valP_lt (l : List UInt8) (R : Nat) (h : valP l = some R) : R < 2139095040 := by
  unfold valP at h
  split at h
  · unfold rowV at h
    split at h
    · injection h with h; omega
    · split at h
      · cases h
      · split at h
        · rename_i h9; injection h with h; omega
        · cases h
  · cases h
theorem parseP_lt (l : List UInt8) (R : Nat) (h : parseP l = some R) : R < 4294967296 := by
  unfold parseP at h
  split at h
  · injection h with h; omega
  · split at h
    · injection h with h; split at h <;> omega
    · cases hv : valP (offL l) with
      | none => rw [hv] at h; cases h
      | some S =>
        rw [hv] at h
        injection h with h
        have := valP_lt _ _ hv
        split at h <;> omega
set_option maxRecDepth 1000000 in
theorem parses_at (s : ByteArray) (a k : Nat) (w : World) (ha : a < 4294967296) (hT : Tabx w)
    (h9 : Calls Tryz.prog 9 #[.string s] w fun e w' => e = .returned (.tuple #[.float .f32 a, .int .i64 (k : Int)]) ∧ Below w.heap.size w w')
    (h10 : ∀ w, Calls Tryz.prog 10 #[.string s] w fun e w' => (∃ b, e = .returned (.tuple #[.float .f32 b, .int .i64 (k : Int)]) ∧ (b < 4294967296 ∧ sameR a b = true)) ∧ Keep [] w w') :
    Calls Tryz.prog 4 #[.string s] w fun e w' => e = .returned (.bool true) ∧ Below w.heap.size w w' := by
  have HX : Hid (Tabx w) := hT
  clear hT
  go_enter Tryz.func4, Tryz.ntmps4
  go_wp2_with (first
    | (go_at_call 9; refine h9.mono ?_; rintro e9 w1 ⟨rfl, hb1⟩; have HB1 : Hid (Below w.heap.size w w1) := hb1; clear hb1)
    | (go_at_call 10; refine (h10 _).mono ?_; rintro e9 w2 ⟨⟨b, rfl, hb, hs⟩, hb2⟩; have HB2 : Hid (Below w.heap.size w w2) := HB1.out.trans (hb2.below.mono HB1.out.size); have HS : Hid (b < 4294967296 ∧ sameR a b = true) := ⟨hb, hs⟩; clear hb2 hb hs)
    | (go_at_call 11; refine (rSame_any a b ha HS.out.1 _).mono ?_; rintro e9 w9 ⟨rfl, hw9⟩; rw [HS.out.2]; obtain rfl := hw9.symm)
    | (go_at_call 8; refine (awake_any _ (HX.out.below HB2.out)).mono ?_; rintro e9 w3 ⟨rfl, hb3⟩; have HB3 : Hid (Below w.heap.size w w3) := HB2.out.trans (hb3.mono HB2.out.size); clear hb3))
  go_ret
  exact ⟨rfl, HB3.out⟩
theorem parses_law (l : List UInt8) (hl : l.length ≤ 1000000000) (w : World) (hX : Tabx w) (hT : TabAll w) :
    Calls Tryz.prog 4 #[.string (bl l)] w fun e w' => e = .returned (.bool true) ∧ Below w.heap.size w w' := by
  have h9 := parse_any l hl w hT
  by_cases hn : l = [110, 97, 110]
  · subst hn
    have e : parseP [110, 97, 110] = some 2143289344 := by unfold parseP; rw [if_pos rfl]
    rw [e] at h9
    refine parses_at _ 2143289344 0 w (by decide) hX h9 fun w => (ref_nan w).mono ?_
    rintro r w' ⟨x, rfl, ⟨h1, h2⟩, hk⟩
    exact ⟨⟨x, rfl, h2, sameR_nan _ _ (by decide) h1⟩, hk⟩
  · have h10 := fun w => ref_any l hl hn w
    cases hv : parseP l with
    | none =>
      rw [hv] at h9 h10
      refine parses_at _ 0 30 w (by decide) hX h9 fun w => (h10 w).mono ?_
      rintro r w' ⟨rfl, hk⟩
      exact ⟨⟨0, rfl, by decide, sameR_self _⟩, hk⟩
    | some R =>
      rw [hv] at h9 h10
      have hR := parseP_lt l R hv
      refine parses_at _ R 0 w hR hX h9 fun w => (h10 w).mono ?_
      rintro r w' ⟨rfl, hk⟩
      exact ⟨⟨R, rfl, hR, sameR_self _⟩, hk⟩
end Go.Proofs.YtnljpbpphdhnpaaGreatDoor
