/- The program's Text, of every float32. -/
import Derived.Test.YtnljpbpphdhnpaaGreatDoorTxQ
import Derived.Test.YtnljpbpphdhnpaaGreatDoorRefF
import Derived.Test.YtnljpbpphdhnpaaGreatDoorNgU
import Derived.Test.YtnljpbpphdhnpaaGreatDoorNgA

namespace Go.Proofs.YtnljpbpphdhnpaaGreatDoor
open Go.RowKit Go.PlainAid

/-- the text of the real of number n: 0, one above it, the infinite one -/
def textU (n : Nat) : List UInt8 := if n = 0 then [48, 46, 48] else if n = 2139095040 then [105, 110, 102] else textB n
/-- the text of any real -/
def textR (x : Nat) : List UInt8 := if nanB x = true then [110, 97, 110] else if belowB x = true then 45 :: textU (x - 2147483648) else textU x
theorem plainB_len (l : List UInt8) (k : Int) (hl : l.length ≤ 20) (hk : -100 ≤ k ∧ k ≤ 100) : (plainB l k).length ≤ 300 := by
  unfold plainB
  split
  · simp only [List.length_append, List.length_replicate, List.length_cons, List.length_nil]
    omega
  · split
    · simp only [List.length_append, List.length_replicate, List.length_cons, List.length_nil]
      omega
    · simp only [List.length_append, List.length_take, List.length_drop, List.length_cons, List.length_nil]
      omega
theorem textU_len (n : Nat) (h2 : n ≤ 2139095040) : (textU n).length ≤ 300 := by
  unfold textU
  split
  · decide
  · split
    · decide
    · have h1 : 1 ≤ n := by omega
      have h3 : n < 2139095040 := by omega
      have hl := digs_len n h1 h3
      have hb := ndF_le n h1 h3
      have hE := exF_bounds n h1 h3
      have hi := itoa_len (exF n) hE
      unfold textB
      split
      · have ho := orB_len ((digs n).drop 1)
        rw [List.length_drop] at ho
        simp only [List.length_append, List.length_take, List.length_cons, List.length_nil]
        omega
      · exact plainB_len _ _ (by omega) (by omega)
set_option maxRecDepth 1000000 in
theorem textAbove_all (n : Nat) (h2 : n ≤ 2139095040) (w : World) (hT : TabV w) : Calls Tryz.prog 16 #[.float .f32 n] w fun e w' => (∃ T : ByteArray, e = .returned (.string T) ∧ T.data.toList = textU n) ∧ Below w.heap.size w w' := by
  by_cases h0 : n = 0
  · subst h0
    have k1 : (FloatKind.f32.format.order 0 0 == some Ordering.eq) = true := by decide
    go_enter Tryz.func16, Tryz.ntmps16
    go_wp2
    go_ret
    exact ⟨⟨_, rfl, rfl⟩, Below.refl _ _⟩
  · by_cases h1 : n = 2139095040
    · subst h1
      have k1 : (FloatKind.f32.format.order 2139095040 0 == some Ordering.eq) = false := by decide
      have k2 : (FloatKind.f32.format.order 2139095040 2139095040 == some Ordering.eq) = true := by decide
      have hI := infinite_any false
      simp only [Bool.false_eq_true, if_false] at hI
      go_enter Tryz.func16, Tryz.ntmps16
      go_wp2_with (first
        | (go_at_call 27; refine (hI _).mono ?_; rintro e9 w9 ⟨rfl, hw9⟩; obtain rfl := hw9.symm))
      go_ret
      exact ⟨⟨_, rfl, rfl⟩, Below.refl _ _⟩
    · have e : textU n = textB n := by unfold textU; rw [if_neg h0, if_neg h1]
      rw [e]
      exact textAbove_any n (by omega) (by omega) w hT
set_option maxRecDepth 1000000 in
theorem text_any (x : Nat) (hx : x < 4294967296) (w : World) (hT : TabV w) : Calls Tryz.prog 6 #[.float .f32 x] w fun e w' => (∃ T : ByteArray, e = .returned (.string T) ∧ T.data.toList = textR x) ∧ Below w.heap.size w w' := by
  have hN := isNan_any x
  have hB := below0_any x hx
  by_cases hn : nanB x = true
  · have hR : textR x = [110, 97, 110] := by unfold textR; rw [if_pos hn]
    rw [hn] at hN
    rw [hR]
    clear hB
    go_enter Tryz.func6, Tryz.ntmps6
    go_wp2_with (first
      | (go_at_call 14; refine (hN _).mono ?_; rintro e9 w9 ⟨rfl, hw9⟩; obtain rfl := hw9.symm))
    go_ret
    exact ⟨⟨_, rfl, rfl⟩, Below.refl _ _⟩
  · have hn0 : nanB x = false := by simpa using hn
    have hle : x % 2147483648 ≤ 2139095040 := by
      unfold nanB at hn0
      have := of_decide_eq_false hn0
      omega
    rw [hn0] at hN
    by_cases hb : belowB x = true
    · have hx31 : 2147483648 ≤ x := by
        unfold belowB at hb
        simp at hb
        omega
      have hR : Hid (textR x = 45 :: textU (x - 2147483648)) := by show _ = _; unfold textR; rw [if_neg hn, if_pos hb]
      have hng : ∀ w, (Op.unary .neg (.float .f32 x)).run Tryz.prog w = .ok (.float .f32 (x - 2147483648)) w := fun w => by
        show Sem.run Tryz.prog (pure (Value.float .f32 (Op.negFloat .f32 x))) w = _
        rw [neg_high x hx31 hx]
        rfl
      have hle2 : x - 2147483648 ≤ 2139095040 := by omega
      have hA := textAbove_all (x - 2147483648) hle2 w hT
      have hlen := textU_len (x - 2147483648) hle2
      rw [hb] at hB
      generalize x - 2147483648 = y at *
      have HL : Hid (∀ T : ByteArray, T.data.toList = textU y → T.size ≤ 300) := fun T h => by
        have h3 : T.data.toList.length = T.size := Array.length_toList
        rw [← h3, h]
        exact hlen
      clear hlen hx31 hle hn hle2
      go_enter Tryz.func6, Tryz.ntmps6
      go_wp2_with (first
        | (go_at_call 14; refine (hN _).mono ?_; rintro e9 w9 ⟨rfl, hw9⟩; obtain rfl := hw9.symm)
        | (go_at_call 15; refine (hB _).mono ?_; rintro e9 w9 ⟨rfl, hw9⟩; obtain rfl := hw9.symm)
        | (go_at_call 16; refine hA.mono ?_; rintro e9 w1 ⟨⟨T, rfl, hT1⟩, hb1⟩; have HT1 : Hid (T.data.toList = textU y) := hT1; have hts := HL.out T hT1; clear hT1))
      go_ret
      exact ⟨⟨_, rfl, by rw [hR.out, ba_app, HT1.out]; rfl⟩, hb1⟩
    · have hb0 : belowB x = false := by simpa using hb
      have hx31 : x < 2147483648 := by
        unfold belowB at hb0
        rw [hn0] at hb0
        simp at hb0
        omega
      have hR : textR x = textU x := by unfold textR; rw [if_neg hn, if_neg hb]
      have hA := textAbove_all x (by omega) w hT
      rw [hb0] at hB
      rw [hR]
      clear hx31 hle hn hb hR hn0 hb0 hx
      go_enter Tryz.func6, Tryz.ntmps6
      go_wp2_with (first
        | (go_at_call 14; refine (hN _).mono ?_; rintro e9 w9 ⟨rfl, hw9⟩; obtain rfl := hw9.symm)
        | (go_at_call 15; refine (hB _).mono ?_; rintro e9 w9 ⟨rfl, hw9⟩; obtain rfl := hw9.symm)
        | (go_at_call 16; refine hA.mono ?_; rintro e9 w1 ⟨⟨T, rfl, hT1⟩, hb1⟩))
      go_ret
      exact ⟨⟨_, rfl, hT1⟩, hb1⟩
end Go.Proofs.YtnljpbpphdhnpaaGreatDoor

/- The reference's IsNan, Below, Same, Key, FromKey. -/
namespace Go.Proofs.YtnljpbpphdhnpaaGreatDoor
open Go.RowKit Go.PlainAid Go.Lib

theorem rIsNan_any (x : Nat) (w : World) : Calls Tryz.prog 17 #[.float .f32 x] w fun e w' => e = .returned (.bool (nanB x)) ∧ w' = w := by
  have hn := neq_self x
  cases hb : nanB x <;> rw [hb] at hn
  all_goals
    go_enter Tryz.func17, Tryz.ntmps17
    go_wp2
    go_ret
    exact ⟨rfl, rfl⟩

theorem order_nan (x y : Nat) (h : nanB x = true) (o : Ordering) : (FloatKind.f32.format.order x y == some o) = false := by
  show (Ieee.single.order x y == some o) = _
  rw [order_any, if_pos (.inl (by simpa [nanB, rungN] using h))]
  rfl

set_option maxRecDepth 100000 in
set_option maxHeartbeats 1600000 in
theorem rBelow_any (x : Nat) (h : x < 4294967296) (w : World) : Calls Tryz.prog 18 #[.float .f32 x] w fun e w' => e = .returned (.bool (belowB x)) ∧ w' = w := by
  unfold belowB
  cases hx : nanB x
  · have hr : rungN x ≤ 2139095040 := by simpa [nanB, rungN] using hx
    have k1 := rlt_any x 0 hr (by decide)
    have k2 := req_any x 0 hr (by decide)
    rw [(srung_low 0 (by decide)).1] at k1 k2
    by_cases hs : 2147483648 ≤ x
    · rw [show decide (2147483648 ≤ x) = true by simpa using hs]
      have hz : srungZ x = -(rungN x : Int) := by unfold srungZ; rw [if_pos (by omega)]
      by_cases h0 : rungN x = 0
      · obtain rfl : x = 2147483648 := by unfold rungN at h0; omega
        rw [show decide (srungZ 2147483648 < ((0 : Nat) : Int)) = false by decide] at k1
        rw [show decide (srungZ 2147483648 = ((0 : Nat) : Int)) = true by decide] at k2
        have hq : ∀ w, (binOp .quo 22 (.float .f32 1065353216) (.float .f32 2147483648)).run Tryz.prog w = .ok (.float .f32 4286578688) w := fun w => run_float_arith w .quo 22 .f32 _ _ _ (by decide)
        have k3 : (FloatKind.f32.format.order 4286578688 0 == some Ordering.lt) = true := by decide
        go_enter Tryz.func18, Tryz.ntmps18
        go_wp2
        go_ret
        exact ⟨rfl, rfl⟩
      · rw [show decide (srungZ x < ((0 : Nat) : Int)) = true by simp; omega] at k1
        clear k2 hz h0
        go_enter Tryz.func18, Tryz.ntmps18
        go_wp2
        go_ret
        exact ⟨rfl, rfl⟩
    · rw [show decide (2147483648 ≤ x) = false by simpa using hs]
      obtain ⟨s1, s2⟩ := srung_low x (by omega)
      by_cases h0 : x = 0
      · subst h0
        rw [show decide (srungZ 0 < ((0 : Nat) : Int)) = false by decide] at k1
        rw [show decide (srungZ 0 = ((0 : Nat) : Int)) = true by decide] at k2
        have hq : ∀ w, (binOp .quo 22 (.float .f32 1065353216) (.float .f32 0)).run Tryz.prog w = .ok (.float .f32 2139095040) w := fun w => run_float_arith w .quo 22 .f32 _ _ _ (by decide)
        have k3 : (FloatKind.f32.format.order 2139095040 0 == some Ordering.lt) = false := by decide
        go_enter Tryz.func18, Tryz.ntmps18
        go_wp2
        go_ret
        exact ⟨rfl, rfl⟩
      · rw [show decide (srungZ x < ((0 : Nat) : Int)) = false by simp; omega] at k1
        rw [show decide (srungZ x = ((0 : Nat) : Int)) = false by simp; omega] at k2
        clear s1 s2 h0
        go_enter Tryz.func18, Tryz.ntmps18
        go_wp2
        go_ret
        exact ⟨rfl, rfl⟩
  · have k1 := order_nan x 0 hx .lt
    have k2 := order_nan x 0 hx .eq
    go_enter Tryz.func18, Tryz.ntmps18
    go_wp2
    go_ret
    exact ⟨rfl, rfl⟩

end Go.Proofs.YtnljpbpphdhnpaaGreatDoor


/- What the document's Text asks: noughts below nought, the digits and their text, the power's text. -/
namespace Go.Proofs.YtnljpbpphdhnpaaGreatDoor
open Go.RowKit Go.PlainAid

set_option maxRecDepth 1000000 in
theorem noughts_neg (k : Int) (hk : k < 0) (w : World) : Calls Tryz.prog 22 #[.int .i64 k] w fun e w' => e = .returned (.string ⟨#[]⟩) ∧ w' = w := by
  have h : ¬ (0 : Int) < k := by omega
  go_enter Tryz.func22, Tryz.ntmps22
  go_wp2
  refine wp_loop_rounds 1 ?_
  rw [rounds_succ]
  go_wp2
  go_ret
  exact ⟨rfl, rfl⟩
theorem few_text (n : Nat) (h1 : 1 ≤ n) (h2 : n < 2139095040) (m : Nat) (L : Int) (hm : ndF n = m) (hL : exF n - (m : Int) + 1 = L) (w : World) : Calls Tryz.prog 20 #[.int .u32 (n : Int)] w fun e w' => ∃ q : Nat, (∀ w : World, Calls Tryz.prog 21 #[.int .i64 (q : Int)] w fun e w' => (∃ T : ByteArray, e = .returned (.string T) ∧ T.data.toList = digs n) ∧ Below w.heap.size w w') ∧ e = .returned (.tuple #[.int .i64 (q : Int), .int .i64 (m : Int), .int .i64 L]) ∧ Keep [] w w' := by
  refine (fewest_any n h1 h2 w).mono ?_
  rintro e w' ⟨q, s, P, ⟨hD, hs⟩, rfl, hk⟩
  obtain ⟨t1, t2⟩ := isD_told n q s P h1 h2 hD
  obtain ⟨d1, d2, d3, _⟩ := hD
  have hsm : s = m := by
    have := digs_len n h1 h2
    rw [t1, decL_len] at this
    omega
  subst hsm
  refine ⟨q, fun w => ?_, by rw [show (P : Int) - 60 = L by omega], hk⟩
  rw [t1]
  exact decimal_any s q d1 (by omega) (.inl d2) d3 w
theorem itoa_pos : ∀ x, x < 100 → Lib.itoa ((x : Nat) : Int) = decL x (if x < 10 then 1 else 2) := by decide +kernel
theorem itoa_neg : ∀ x, x < 100 → 1 ≤ x → Lib.itoa (-((x : Nat) : Int)) = 45 :: decL x (if x < 10 then 1 else 2) := by decide +kernel
theorem power_text (x : Nat) (hx : x < 100) (w : World) : Calls Tryz.prog 21 #[.int .i64 (x : Int)] w fun e w' => (∃ T : ByteArray, e = .returned (.string T) ∧ T.data.toList = decL x (if x < 10 then 1 else 2)) ∧ Below w.heap.size w w' := by
  by_cases h : x < 10
  · rw [if_pos h]
    exact decimal_any 1 x (by decide) (by decide) (.inr rfl) (by simpa using h) w
  · rw [if_neg h]
    exact decimal_any 2 x (by decide) (by decide) (.inl (by simp; omega)) (by simpa using hx) w
end Go.Proofs.YtnljpbpphdhnpaaGreatDoor

/- The document's Text. -/
namespace Go.Proofs.YtnljpbpphdhnpaaGreatDoor
open Go.RowKit Go.PlainAid

theorem ext_drop (T : ByteArray) (i m : Nat) (h : T.size = m) : (T.extract i m).data.toList = T.data.toList.drop i := by
  subst h
  exact ba_drop T i

end Go.Proofs.YtnljpbpphdhnpaaGreatDoor
