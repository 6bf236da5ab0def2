/- Sums and products: the statement's walk, for every three reals. -/
import Derived.Test.YtgpjmadleaiioaaGreatDoorOrdP
namespace Go.Proofs.YtgpjmadleaiioaaGreatDoor
open Go.RowKit Go.PlainAid

theorem belowN {B : Nat} {a w : World} (h : Below B a w) (n : Nat) : Below B a (w.drewN n) := ⟨h.os, h.tape, h.output, h.size, h.block⟩
theorem neg_low (n : Nat) (h : n < 2147483648) : Op.negFloat .f32 n = n + 2147483648 := by
  show n ^^^ 2147483648 = _
  rw [show (2147483648 : Nat) = 2 ^ 31 from rfl]
  have h2 : n ^^^ 2 ^ 31 = n ||| 2 ^ 31 := by
    apply Nat.eq_of_testBit_eq
    intro i
    rw [Nat.testBit_xor, Nat.testBit_or, Nat.testBit_two_pow]
    by_cases hi : 31 = i
    · subst hi
      rw [Nat.testBit_lt_two_pow (show n < 2 ^ 31 from h)]
      rfl
    · rw [show decide (31 = i) = false by simpa using hi]
      cases n.testBit i <;> rfl
  have h3 := Nat.two_pow_add_eq_or_of_lt (show n < 2 ^ 31 from h) 1
  rw [Nat.mul_one] at h3
  rw [h2, Nat.or_comm, ← h3]
  omega
theorem neg_high (n : Nat) (h : 2147483648 ≤ n) (h2 : n < 4294967296) : Op.negFloat .f32 n = n - 2147483648 := by
  have h3 := neg_low (n - 2147483648) (by omega)
  have h4 : n - 2147483648 + 2147483648 = n := by omega
  rw [h4] at h3
  have h5 : Op.negFloat .f32 n = Op.negFloat .f32 (Op.negFloat .f32 (n - 2147483648)) := by rw [h3]
  rw [h5]
  show (n - 2147483648) ^^^ 2147483648 ^^^ 2147483648 = _
  rw [Nat.xor_assoc, Nat.xor_self, Nat.xor_zero]
theorem neg_f32 (c : Nat) (h : c < 4294967296) : Op.negFloat .f32 c = negN c := by
  unfold negN
  by_cases hc : 2147483648 ≤ c
  · rw [if_pos hc]; exact neg_high c hc h
  · rw [if_neg hc]; exact neg_low c (by omega)
theorem negN_lt (c : Nat) (h : c < 4294967296) : negN c < 4294967296 := by unfold negN; split <;> omega
theorem doN_lt (k : Int) (a b : Nat) : doN k a b < 4294967296 := by
  unfold doN
  split
  · decide
  · split
    · decide
    · rename_i r hr
      split
      · decide
      · have := floatBits_wf hr
        simpa [Lit.wf] using this
theorem sameR_refl (a : Nat) (h : a < 4294967296) : sameR a a = true := by rw [same_key a a h h]; simp
theorem do_add_comm (a b : Nat) : doN 7 b a = doN 7 a b := by
  have : floatBits .add .f32 b a = floatBits .add .f32 a b := add_comm' b a
  unfold doN
  have ho : opK 7 = some .add := rfl
  rw [ho]
  simp only []
  rw [this]
theorem do_mul_comm (a b : Nat) : doN 5 b a = doN 5 a b := by
  have : floatBits .mul .f32 b a = floatBits .mul .f32 a b := mul_comm' b a
  unfold doN
  have ho : opK 5 = some .mul := rfl
  rw [ho]
  simp only []
  rw [this]
theorem do_sub_neg (a c : Nat) (h : c < 4294967296) : doN 8 a (negN c) = doN 7 a c := by
  have : floatBits .sub .f32 a (negN c) = floatBits .add .f32 a c := sub_neg a c h
  unfold doN
  have h7 : opK 7 = some .add := rfl
  have h8 : opK 8 = some .sub := rfl
  rw [h7, h8]
  simp only []
  rw [this]
theorem do_some (k : Int) (op : BinOp) (ho : opK k = some op) (a b : Nat) (h : nanB (doN k a b) = false) : floatBits op .f32 a b = some (doN k a b) := by
  have e : doN k a b = match opK k with
    | none => 2143289344
    | some op => match floatBits op .f32 a b with
      | none => 2143289344
      | some r => if nanB r then 2143289344 else r := rfl
  rw [ho] at e
  simp only [] at e
  have hN : nanB 2143289344 = true := by decide
  cases hf : floatBits op .f32 a b with
  | none =>
    rw [hf] at e
    simp only [] at e
    rw [e, hN] at h
    cases h
  | some r =>
    rw [hf] at e
    simp only [] at e
    cases hr : nanB r
    · rw [hr] at e
      simp only [Bool.false_eq_true, if_false] at e
      rw [e]
    · rw [hr] at e
      simp only [if_true] at e
      rw [e, hN] at h
      cases h
theorem key_ordK (x : Nat) (h : x < 4294967296) (hr : rungN x ≤ 2139095040) : (keyN x : Int) = ordK x + 2147483648 := by
  have hn : nanB x = false := by unfold nanB; unfold rungN at hr; simp; omega
  unfold keyN ordK
  rw [hn]
  unfold rungN at *
  simp only [Bool.false_eq_true, if_false]
  split <;> omega
theorem sval_neg (c : Nat) (h : c < 4294967296) : svalZ (negN c) = - svalZ c ∧ rungN (negN c) = rungN c ∧ ((negN c / 2147483648 % 2 == 1) = !(c / 2147483648 % 2 == 1)) := by
  have hr : rungN (negN c) = rungN c := by unfold rungN negN; split <;> omega
  have hs : (negN c / 2147483648 % 2 == 1) = !(c / 2147483648 % 2 == 1) := by
    unfold negN
    by_cases hc : 2147483648 ≤ c
    · rw [if_pos hc, show (c - 2147483648) / 2147483648 = 0 by omega, show c / 2147483648 = 1 by omega]; rfl
    · rw [if_neg hc, show (c + 2147483648) / 2147483648 = 1 by omega, show c / 2147483648 = 0 by omega]; rfl
  refine ⟨?_, hr, hs⟩
  unfold svalZ
  rw [hr]
  by_cases hc : c / 2147483648 % 2 = 1
  · have : ¬ negN c / 2147483648 % 2 = 1 := by rw [show (c / 2147483648 % 2 == 1) = true by simpa using hc] at hs; simpa using hs
    rw [if_pos hc, if_neg this]; omega
  · have : negN c / 2147483648 % 2 = 1 := by rw [show (c / 2147483648 % 2 == 1) = false by simpa using hc] at hs; simpa using hs
    rw [if_neg hc, if_pos this]
theorem sub_self' (c : Nat) (h : c < 4294967296) (hr : rungN c < 2139095040) : floatBits .sub .f32 c c = some 0 := by
  obtain ⟨n1, n2, n3⟩ := sval_neg c h
  have e1 : Ieee.single.sub c c = Ieee.single.add c (negN c) := by
    have := sub_neg c (negN c) (negN_lt c h)
    have e2 : negN (negN c) = c := by unfold negN; split <;> split <;> omega
    rw [e2] at this
    exact this
  show Ieee.single.sub c c = some 0
  rw [e1, add_num c (negN c) hr (by rw [n2]; exact hr), n1, n3]
  rw [if_pos (by omega), show (svalZ c + -svalZ c).natAbs = 0 by omega, rndR_zero]
  cases (c / 2147483648 % 2 == 1) <;> rfl
theorem sub_none (c : Nat) (h : ¬ rungN c < 2139095040) : floatBits .sub .f32 c c = none := by
  show Ieee.single.sub c c = none
  unfold Ieee.Format.sub
  by_cases hi : rungN c = 2139095040
  · rw [read_inf c hi]
    cases (c / 2147483648 % 2 == 1) <;> rfl
  · obtain ⟨f, r⟩ := read_nan c (by omega)
    rw [r]; rfl

/-- a greater real added to makes no lesser sum: by the keys -/
theorem grow_keys (a b c : Nat) (ha : a < 4294967296) (hb : b < 4294967296) (hc : rungN c < 2139095040) (hl : ltB a b = true) (hs : nanB (doN 7 a c) = false) (ht : nanB (doN 7 b c) = false) : ¬ (0 < cmpI (keyN (doN 7 a c)) (keyN (doN 7 b c))) := by
  unfold ltB at hl
  simp only [Bool.and_eq_true, Bool.not_eq_true', decide_eq_true_eq] at hl
  obtain ⟨⟨na, nb⟩, hv⟩ := hl
  have ra : rungN a ≤ 2139095040 := by simpa [nanB, rungN] using na
  have rb : rungN b ≤ 2139095040 := by simpa [nanB, rungN] using nb
  have h1 := do_some 7 .add rfl a c hs
  have h2 := do_some 7 .add rfl b c ht
  obtain ⟨g1, g2, g3, g4, g5⟩ := add_grows a b c _ _ ha hb ra rb hc hv h1 h2
  apply cmpI_le
  rw [key_ordK _ g2 g4, key_ordK _ g3 g5]
  omega

set_option maxRecDepth 1000000 in
set_option maxHeartbeats 4000000 in
theorem grow_walk (a b c : Nat) (ha : a < 4294967296) (hb : b < 4294967296) (hc : c < 4294967296) (w : World) (hT : Tabx w) :
    Calls Tryz.prog 8 #[.float .f32 a, .float .f32 b, .float .f32 c] w fun e w' => e = .returned (.bool true) ∧ Below w.heap.size w w' := by
  have hW := awake_any w hT
  have hS := do_any 7 a c
  have hP := do_any 5 a c
  have hS1 := do_any 7 c a
  have hP1 := do_any 5 c a
  have hS2 := do_any 8 a (negN c)
  have hT1 := do_any 7 b c
  have hSS := realSame_any (doN 7 a c) (doN 7 a c) (doN_lt _ _ _) (doN_lt _ _ _)
  have hPP := realSame_any (doN 5 a c) (doN 5 a c) (doN_lt _ _ _) (doN_lt _ _ _)
  have hC := compare_any (doN 7 a c) (doN 7 b c) (doN_lt _ _ _) (doN_lt _ _ _)
  rw [sameR_refl _ (doN_lt _ _ _)] at hSS hPP
  rw [do_add_comm] at hS1
  rw [do_mul_comm] at hP1
  rw [do_sub_neg a c hc] at hS2
  have hng : ∀ w, (Op.unary .neg (.float .f32 c)).run Tryz.prog w = .ok (.float .f32 (negN c)) w := fun w => by
    show (pure (Value.float .f32 (Op.negFloat .f32 c)) : Sem Value).run Tryz.prog w = _
    rw [neg_f32 c hc]
    rfl
  have hlt := lt_any a b
  have n1 := neq_self (doN 7 a c)
  have n2 := neq_self (doN 7 b c)
  have hG := grow_keys a b c ha hb
  have k0 : (FloatKind.f32.format.order 0 0 != some Ordering.eq) = false := by decide
  generalize doN 7 a c = s at *
  generalize doN 5 a c = p at *
  generalize doN 7 b c = t at *
  clear hT
  cases hl : ltB a b <;> rw [hl] at hlt
  · clear hG n1 n2 hC
    go_enter Tryz.func8, Tryz.ntmps8
    go_wp2_with fail
    refine hW.mono ?_
    rintro e9 w1 ⟨rfl, hb1⟩
    have HB1 : Hid (Below w.heap.size w w1) := hb1
    clear hb1 hW
    go_wp2_with fail
    refine (hS _).mono ?_
    rintro e9 w2 ⟨rfl, n2, hw9⟩
    have HB2 : Hid (Below w.heap.size w w2) := (by rw [hw9]; exact belowN HB1.out n2)
    clear hw9
    go_wp2_with fail
    refine (hP _).mono ?_
    rintro e9 w3 ⟨rfl, n3, hw9⟩
    have HB3 : Hid (Below w.heap.size w w3) := (by rw [hw9]; exact belowN HB2.out n3)
    clear hw9
    go_wp2_with fail
    refine (hS1 _).mono ?_
    rintro e9 w4 ⟨rfl, n4, hw9⟩
    have HB4 : Hid (Below w.heap.size w w4) := (by rw [hw9]; exact belowN HB3.out n4)
    clear hw9
    go_wp2_with fail
    refine (hSS _).mono ?_
    rintro e9 w9 ⟨rfl, hw9⟩
    obtain rfl := hw9.symm
    clear hw9
    go_wp2_with fail
    refine (hP1 _).mono ?_
    rintro e9 w5 ⟨rfl, n5, hw9⟩
    have HB5 : Hid (Below w.heap.size w w5) := (by rw [hw9]; exact belowN HB4.out n5)
    clear hw9
    go_wp2_with fail
    refine (hPP _).mono ?_
    rintro e9 w9 ⟨rfl, hw9⟩
    obtain rfl := hw9.symm
    clear hw9
    go_wp2_with fail
    refine (hS2 _).mono ?_
    rintro e9 w6 ⟨rfl, n6, hw9⟩
    have HB6 : Hid (Below w.heap.size w w6) := (by rw [hw9]; exact belowN HB5.out n6)
    clear hw9
    go_wp2_with fail
    refine (hSS _).mono ?_
    rintro e9 w9 ⟨rfl, hw9⟩
    obtain rfl := hw9.symm
    clear hw9
    go_wp2_with fail
    refine (hT1 _).mono ?_
    rintro e9 w7 ⟨rfl, n7, hw9⟩
    have HB7 : Hid (Below w.heap.size w w7) := (by rw [hw9]; exact belowN HB6.out n7)
    clear hw9
    go_wp2
    go_ret
    exact ⟨rfl, HB7.out⟩
  · by_cases hf : rungN c < 2139095040
    · have hsub : ∀ w, (binOp .sub 22 (.float .f32 c) (.float .f32 c)).run Tryz.prog w = .ok (.float .f32 0) w := fun w => run_float_arith (P := Tryz.prog) w .sub 22 .f32 c c 0 (sub_self' c hc hf)
      cases h1 : nanB s <;> rw [h1] at n1
      · cases h2 : nanB t <;> rw [h2] at n2
        · have hK := hG hf hl h1 h2
          generalize cmpI (keyN s) (keyN t) = cc at hC hK
          clear hG hf
          go_enter Tryz.func8, Tryz.ntmps8
          go_wp2_with fail
          refine hW.mono ?_
          rintro e9 w1 ⟨rfl, hb1⟩
          have HB1 : Hid (Below w.heap.size w w1) := hb1
          clear hb1 hW
          go_wp2_with fail
          refine (hS _).mono ?_
          rintro e9 w2 ⟨rfl, n2, hw9⟩
          have HB2 : Hid (Below w.heap.size w w2) := (by rw [hw9]; exact belowN HB1.out n2)
          clear hw9
          go_wp2_with fail
          refine (hP _).mono ?_
          rintro e9 w3 ⟨rfl, n3, hw9⟩
          have HB3 : Hid (Below w.heap.size w w3) := (by rw [hw9]; exact belowN HB2.out n3)
          clear hw9
          go_wp2_with fail
          refine (hS1 _).mono ?_
          rintro e9 w4 ⟨rfl, n4, hw9⟩
          have HB4 : Hid (Below w.heap.size w w4) := (by rw [hw9]; exact belowN HB3.out n4)
          clear hw9
          go_wp2_with fail
          refine (hSS _).mono ?_
          rintro e9 w9 ⟨rfl, hw9⟩
          obtain rfl := hw9.symm
          clear hw9
          go_wp2_with fail
          refine (hP1 _).mono ?_
          rintro e9 w5 ⟨rfl, n5, hw9⟩
          have HB5 : Hid (Below w.heap.size w w5) := (by rw [hw9]; exact belowN HB4.out n5)
          clear hw9
          go_wp2_with fail
          refine (hPP _).mono ?_
          rintro e9 w9 ⟨rfl, hw9⟩
          obtain rfl := hw9.symm
          clear hw9
          go_wp2_with fail
          refine (hS2 _).mono ?_
          rintro e9 w6 ⟨rfl, n6, hw9⟩
          have HB6 : Hid (Below w.heap.size w w6) := (by rw [hw9]; exact belowN HB5.out n6)
          clear hw9
          go_wp2_with fail
          refine (hSS _).mono ?_
          rintro e9 w9 ⟨rfl, hw9⟩
          obtain rfl := hw9.symm
          clear hw9
          go_wp2_with fail
          refine (hT1 _).mono ?_
          rintro e9 w7 ⟨rfl, n7, hw9⟩
          have HB7 : Hid (Below w.heap.size w w7) := (by rw [hw9]; exact belowN HB6.out n7)
          clear hw9
          go_wp2_with fail
          refine (hC _).mono ?_
          rintro e9 w9 ⟨rfl, hw9⟩
          obtain rfl := hw9.symm
          clear hw9
          go_wp2
          go_ret
          exact ⟨rfl, HB7.out⟩
        · clear hG hf hC
          go_enter Tryz.func8, Tryz.ntmps8
          go_wp2_with fail
          refine hW.mono ?_
          rintro e9 w1 ⟨rfl, hb1⟩
          have HB1 : Hid (Below w.heap.size w w1) := hb1
          clear hb1 hW
          go_wp2_with fail
          refine (hS _).mono ?_
          rintro e9 w2 ⟨rfl, n2, hw9⟩
          have HB2 : Hid (Below w.heap.size w w2) := (by rw [hw9]; exact belowN HB1.out n2)
          clear hw9
          go_wp2_with fail
          refine (hP _).mono ?_
          rintro e9 w3 ⟨rfl, n3, hw9⟩
          have HB3 : Hid (Below w.heap.size w w3) := (by rw [hw9]; exact belowN HB2.out n3)
          clear hw9
          go_wp2_with fail
          refine (hS1 _).mono ?_
          rintro e9 w4 ⟨rfl, n4, hw9⟩
          have HB4 : Hid (Below w.heap.size w w4) := (by rw [hw9]; exact belowN HB3.out n4)
          clear hw9
          go_wp2_with fail
          refine (hSS _).mono ?_
          rintro e9 w9 ⟨rfl, hw9⟩
          obtain rfl := hw9.symm
          clear hw9
          go_wp2_with fail
          refine (hP1 _).mono ?_
          rintro e9 w5 ⟨rfl, n5, hw9⟩
          have HB5 : Hid (Below w.heap.size w w5) := (by rw [hw9]; exact belowN HB4.out n5)
          clear hw9
          go_wp2_with fail
          refine (hPP _).mono ?_
          rintro e9 w9 ⟨rfl, hw9⟩
          obtain rfl := hw9.symm
          clear hw9
          go_wp2_with fail
          refine (hS2 _).mono ?_
          rintro e9 w6 ⟨rfl, n6, hw9⟩
          have HB6 : Hid (Below w.heap.size w w6) := (by rw [hw9]; exact belowN HB5.out n6)
          clear hw9
          go_wp2_with fail
          refine (hSS _).mono ?_
          rintro e9 w9 ⟨rfl, hw9⟩
          obtain rfl := hw9.symm
          clear hw9
          go_wp2_with fail
          refine (hT1 _).mono ?_
          rintro e9 w7 ⟨rfl, n7, hw9⟩
          have HB7 : Hid (Below w.heap.size w w7) := (by rw [hw9]; exact belowN HB6.out n7)
          clear hw9
          go_wp2
          go_ret
          exact ⟨rfl, HB7.out⟩
      · clear hG hf hC n2
        go_enter Tryz.func8, Tryz.ntmps8
        go_wp2_with fail
        refine hW.mono ?_
        rintro e9 w1 ⟨rfl, hb1⟩
        have HB1 : Hid (Below w.heap.size w w1) := hb1
        clear hb1 hW
        go_wp2_with fail
        refine (hS _).mono ?_
        rintro e9 w2 ⟨rfl, n2, hw9⟩
        have HB2 : Hid (Below w.heap.size w w2) := (by rw [hw9]; exact belowN HB1.out n2)
        clear hw9
        go_wp2_with fail
        refine (hP _).mono ?_
        rintro e9 w3 ⟨rfl, n3, hw9⟩
        have HB3 : Hid (Below w.heap.size w w3) := (by rw [hw9]; exact belowN HB2.out n3)
        clear hw9
        go_wp2_with fail
        refine (hS1 _).mono ?_
        rintro e9 w4 ⟨rfl, n4, hw9⟩
        have HB4 : Hid (Below w.heap.size w w4) := (by rw [hw9]; exact belowN HB3.out n4)
        clear hw9
        go_wp2_with fail
        refine (hSS _).mono ?_
        rintro e9 w9 ⟨rfl, hw9⟩
        obtain rfl := hw9.symm
        clear hw9
        go_wp2_with fail
        refine (hP1 _).mono ?_
        rintro e9 w5 ⟨rfl, n5, hw9⟩
        have HB5 : Hid (Below w.heap.size w w5) := (by rw [hw9]; exact belowN HB4.out n5)
        clear hw9
        go_wp2_with fail
        refine (hPP _).mono ?_
        rintro e9 w9 ⟨rfl, hw9⟩
        obtain rfl := hw9.symm
        clear hw9
        go_wp2_with fail
        refine (hS2 _).mono ?_
        rintro e9 w6 ⟨rfl, n6, hw9⟩
        have HB6 : Hid (Below w.heap.size w w6) := (by rw [hw9]; exact belowN HB5.out n6)
        clear hw9
        go_wp2_with fail
        refine (hSS _).mono ?_
        rintro e9 w9 ⟨rfl, hw9⟩
        obtain rfl := hw9.symm
        clear hw9
        go_wp2_with fail
        refine (hT1 _).mono ?_
        rintro e9 w7 ⟨rfl, n7, hw9⟩
        have HB7 : Hid (Below w.heap.size w w7) := (by rw [hw9]; exact belowN HB6.out n7)
        clear hw9
        go_wp2
        go_ret
        exact ⟨rfl, HB7.out⟩
    · obtain ⟨r, hr1, hr2⟩ := run_nan .sub c c (sub_none c hf) (by simp)
      have k1 : ∀ w, (FloatKind.f32.format.order (r w) 0 != some Ordering.eq) = true := by
        intro w
        have h := eq_any (r w) 0
        unfold eqB at h
        rw [(hr1 w).1] at h
        simp only [Bool.not_true, Bool.false_and] at h
        cases ho : FloatKind.f32.format.order (r w) 0 with
        | none => rfl
        | some o => rw [ho] at h; cases o <;> first | rfl | (exact absurd h (by decide))
      clear hG hf hC n1 n2
      go_enter Tryz.func8, Tryz.ntmps8
      go_wp2_with fail
      refine hW.mono ?_
      rintro e9 w1 ⟨rfl, hb1⟩
      have HB1 : Hid (Below w.heap.size w w1) := hb1
      clear hb1 hW
      go_wp2_with fail
      refine (hS _).mono ?_
      rintro e9 w2 ⟨rfl, n2, hw9⟩
      have HB2 : Hid (Below w.heap.size w w2) := (by rw [hw9]; exact belowN HB1.out n2)
      clear hw9
      go_wp2_with fail
      refine (hP _).mono ?_
      rintro e9 w3 ⟨rfl, n3, hw9⟩
      have HB3 : Hid (Below w.heap.size w w3) := (by rw [hw9]; exact belowN HB2.out n3)
      clear hw9
      go_wp2_with fail
      refine (hS1 _).mono ?_
      rintro e9 w4 ⟨rfl, n4, hw9⟩
      have HB4 : Hid (Below w.heap.size w w4) := (by rw [hw9]; exact belowN HB3.out n4)
      clear hw9
      go_wp2_with fail
      refine (hSS _).mono ?_
      rintro e9 w9 ⟨rfl, hw9⟩
      obtain rfl := hw9.symm
      clear hw9
      go_wp2_with fail
      refine (hP1 _).mono ?_
      rintro e9 w5 ⟨rfl, n5, hw9⟩
      have HB5 : Hid (Below w.heap.size w w5) := (by rw [hw9]; exact belowN HB4.out n5)
      clear hw9
      go_wp2_with fail
      refine (hPP _).mono ?_
      rintro e9 w9 ⟨rfl, hw9⟩
      obtain rfl := hw9.symm
      clear hw9
      go_wp2_with fail
      refine (hS2 _).mono ?_
      rintro e9 w6 ⟨rfl, n6, hw9⟩
      have HB6 : Hid (Below w.heap.size w w6) := (by rw [hw9]; exact belowN HB5.out n6)
      clear hw9
      go_wp2_with fail
      refine (hSS _).mono ?_
      rintro e9 w9 ⟨rfl, hw9⟩
      obtain rfl := hw9.symm
      clear hw9
      go_wp2_with fail
      refine (hT1 _).mono ?_
      rintro e9 w7 ⟨rfl, n7, hw9⟩
      have HB7 : Hid (Below w.heap.size w w7) := (by rw [hw9]; exact belowN HB6.out n7)
      clear hw9
      go_wp2
      go_ret
      exact ⟨rfl, HB7.out.drew⟩
end Go.Proofs.YtgpjmadleaiioaaGreatDoor
