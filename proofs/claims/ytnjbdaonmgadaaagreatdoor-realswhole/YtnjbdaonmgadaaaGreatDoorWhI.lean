/- Whole numbers as reals and back: the program's FromInt and ToInt. -/
import Derived.Test.YtnjbdaonmgadaaaGreatDoorRlA
namespace Go.Proofs.YtnjbdaonmgadaaaGreatDoor
open Go.RowKit Go.PlainAid

def fromI (n : Int) : Nat := if decide (n < 0) then rndR (n.natAbs * 2 ^ 149) + 2147483648 else rndR (n.natAbs * 2 ^ 149)

theorem fromI_float (n : Int) : floatOfInt .f32 n = fromI n := by
  have h1 : floatOfInt .f32 n = Ieee.single.nearest (decide (n < 0)) n.natAbs 0 := rfl
  have h2 := nearest_rnd (decide (n < 0)) n.natAbs 149
  rw [show (-149 : Int) + ((149 : Nat) : Int) = 0 from rfl] at h2
  rw [h1, h2]
  have e1 : Ieee.single.signWeight = 2147483648 := by decide
  unfold fromI
  generalize rndR (n.natAbs * 2 ^ 149) = r
  generalize decide (n < 0) = b
  unfold Ieee.Format.word
  rw [e1]
  cases b
  · rw [if_neg (by decide), if_neg (by decide)]
  · rw [if_pos rfl, if_pos rfl]; exact Nat.add_comm _ _

theorem fromI_lt (n : Int) : fromI n < 4294967296 := by
  have h := rndR_le (n.natAbs * 2 ^ 149)
  unfold fromI
  generalize rndR (n.natAbs * 2 ^ 149) = r at *
  split <;> omega

set_option maxRecDepth 1000000 in
theorem fromInt_any (n : Int) (w : World) : Calls Tryz.prog 5 #[.int .i64 n] w fun e w' => e = .returned (.float .f32 (fromI n)) ∧ w' = w := by
  have hc : ∀ w, (convert 2 23 (.int .i64 n)).run Tryz.prog w = .ok (.float .f32 (fromI n)) w := fun w => by
    rw [← fromI_float]; exact run_convert_int_float w 2 23 .i64 .f32 n (by kernel_rfl) Tryz.underlying23
  generalize fromI n = r at hc ⊢
  go_enter Tryz.func5, Tryz.ntmps5
  go_wp2
  go_ret
  exact ⟨rfl, rfl⟩

/-- the worth, if it is a whole number of 64 bits -/
def toI (x : Nat) : Int × Bool := if rungN x < 2139095040 ∧ svalZ x = wholeZ x * 2 ^ 149 ∧ -9223372036854775808 ≤ wholeZ x ∧ wholeZ x ≤ 9223372036854775807 then (wholeZ x, true) else (0, false)

theorem order_nan (x y : Nat) (h : nanB x = true) (o : Ordering) : (FloatKind.f32.format.order x y == some o) = false := by
  show (Ieee.single.order x y == some o) = _
  rw [order_any, if_pos (.inl (by simpa [nanB, rungN] using h))]
  rfl

set_option maxRecDepth 1000000 in
set_option maxHeartbeats 3200000 in
theorem toInt_any (x : Nat) (w : World) : Calls Tryz.prog 12 #[.float .f32 x] w fun e w' => e = .returned (.tuple #[.int .i64 (toI x).1, .bool (toI x).2]) ∧ w' = w := by
  cases hb : nanB x
  · obtain ⟨f1, f2, f3⟩ := ord_facts x 3741319168 hb nan_low
    obtain ⟨g1, g2, g3⟩ := ord_facts x 1593835520 hb nan_high
    by_cases c1 : svalZ x < svalZ 3741319168
    · have ht : toI x = (0, false) := by
        unfold toI
        rw [if_neg]
        rintro ⟨_, h2, h3, _⟩
        rw [sval_low, h2] at c1
        omega
      rw [decide_eq_true c1] at f1
      rw [decide_eq_false (by omega)] at f2
      rw [decide_eq_false (by omega)] at f3
      rw [ht]
      clear g1 g2 g3 c1 ht hb
      go_enter Tryz.func12, Tryz.ntmps12
      go_wp2
      go_ret2
      exact ⟨rfl, rfl⟩
    · rw [decide_eq_false c1] at f1
      have hcc : ((FloatKind.f32.format.order x 3741319168 == some Ordering.gt) = true ∧ (FloatKind.f32.format.order x 3741319168 == some Ordering.eq) = false) ∨ ((FloatKind.f32.format.order x 3741319168 == some Ordering.gt) = false ∧ (FloatKind.f32.format.order x 3741319168 == some Ordering.eq) = true) := by
        rw [f2, f3]
        by_cases e : svalZ x = svalZ 3741319168
        · exact .inr ⟨decide_eq_false (by omega), decide_eq_true e⟩
        · exact .inl ⟨decide_eq_true (by omega), decide_eq_false e⟩
      by_cases c2 : svalZ 1593835520 ≤ svalZ x
      · have ht : toI x = (0, false) := by
          unfold toI
          rw [if_neg]
          rintro ⟨_, h2, _, h3⟩
          rw [sval_high, h2] at c2
          omega
        rw [decide_eq_false (by omega)] at g1
        rw [ht]
        clear f2 f3 g2 g3 c1 c2 ht hb
        rcases hcc with ⟨k1, k2⟩ | ⟨k1, k2⟩
        all_goals
          go_enter Tryz.func12, Tryz.ntmps12
          go_wp2
          go_ret2
          exact ⟨rfl, rfl⟩
      · rw [decide_eq_true (by omega)] at g1
        obtain ⟨r1, r2, r3⟩ := whole_range x c1 c2
        have hcv : ∀ w, (convert 23 2 (.float .f32 x)).run Tryz.prog w = .ok (.int .i64 (wholeZ x)) w := fun w => wp_f2i x _ (by
          unfold floatToIntVal
          show (match (Ieee.single.read x).toInt .zero with | some n => if IntKind.i64.min ≤ n ∧ n ≤ IntKind.i64.max then some n else none | none => none) = _
          rw [toInt_whole x r3]
          exact if_pos ⟨r1, r2⟩) w
        have hcb : ∀ w, (convert 2 23 (.int .i64 (wholeZ x))).run Tryz.prog w = .ok (.float .f32 (floatOfInt .f32 (wholeZ x))) w := fun w => run_convert_int_float w 2 23 .i64 .f32 _ (by kernel_rfl) Tryz.underlying23
        obtain ⟨b1, b2⟩ := whole_back x (by omega)
        have hy : nanB (floatOfInt .f32 (wholeZ x)) = false := by
          unfold nanB; unfold rungN at b2; simp; omega
        obtain ⟨_, _, o3⟩ := ord_facts (floatOfInt .f32 (wholeZ x)) x hy hb
        rw [b1] at o3
        have ht : toI x = if svalZ x = wholeZ x * 2 ^ 149 then (wholeZ x, true) else (0, false) := by
          unfold toI
          by_cases e : svalZ x = wholeZ x * 2 ^ 149
          · rw [if_pos e, if_pos ⟨r3, e, r1, r2⟩]
          · rw [if_neg e, if_neg (fun h => e h.2.1)]
        rw [ht]
        clear f2 f3 g2 g3 c1 c2 ht hb b1 b2 hy r3
        generalize floatOfInt .f32 (wholeZ x) = y at *
        by_cases e : svalZ x = wholeZ x * 2 ^ 149
        · rw [decide_eq_true e.symm] at o3
          rw [if_pos e]
          have o4 : (FloatKind.f32.format.order y x != some Ordering.eq) = false := by rw [bne, o3]; rfl
          clear e
          generalize wholeZ x = t at *
          rcases hcc with ⟨k1, k2⟩ | ⟨k1, k2⟩
          all_goals
            go_enter Tryz.func12, Tryz.ntmps12
            go_wp2
            go_ret2
            exact ⟨rfl, rfl⟩
        · rw [decide_eq_false (fun h => e h.symm)] at o3
          rw [if_neg e]
          have o4 : (FloatKind.f32.format.order y x != some Ordering.eq) = true := by rw [bne, o3]; rfl
          clear e
          generalize wholeZ x = t at *
          rcases hcc with ⟨k1, k2⟩ | ⟨k1, k2⟩
          all_goals
            go_enter Tryz.func12, Tryz.ntmps12
            go_wp2
            go_ret2
            exact ⟨rfl, rfl⟩
  · have ht : toI x = (0, false) := by
      unfold toI
      rw [if_neg]
      rintro ⟨h, _⟩
      have : 2139095040 < rungN x := by simpa [nanB, rungN] using hb
      omega
    have k1 := order_nan x 3741319168 hb .gt
    have k2 := order_nan x 3741319168 hb .eq
    have k3 := order_nan x 3741319168 hb .lt
    rw [ht]
    go_enter Tryz.func12, Tryz.ntmps12
    go_wp2
    go_ret2
    exact ⟨rfl, rfl⟩
end Go.Proofs.YtnjbdaonmgadaaaGreatDoor
