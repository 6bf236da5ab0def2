/- What an escape does with one character more. -/
import Derived.Test.YtmglbcldjhdhkabTkE
namespace Go.Proofs.Ytmglbcldjhdhkab
open Go.RowKit Go.PlainAid

set_option maxHeartbeats 1000000 in
theorem escape_no (B b : Nat) (st : Int) (d : UInt8) (out : List UInt8) (v : Value) (c : Int) (w : World) (hu : Uq B w b st d out v) (h : (st = 1 ∧ c ≠ 34 ∧ c ≠ 92 ∧ c ≠ 110 ∧ c ≠ 120) ∨ ((st = 2 ∨ st = 3) ∧ hexI c < 0)) :
    Calls Try.prog 41 #[.pointer (some ⟨b, 0, none⟩), .int .i32 c] w fun e w' => e = .returned (.bool false) ∧ w' = w := by
  obtain ⟨c0, c1, c2, f0, f1, f2⟩ := box3 hu.box
  clear hu
  rcases h with ⟨rfl, h1, h2, h3, h4⟩ | ⟨rfl | rfl, hc⟩
  · have a1 : (c == 34) = false := by simpa using h1
    have a2 : (c == 92) = false := by simpa using h2
    have a3 : (c == 110) = false := by simpa using h3
    have a4 : (c == 120) = false := by simpa using h4
    clear h1 h2 h3 h4
    go_enter Try.func41, Try.ntmps41
    go_wp2
    go_ret
    exact ⟨rfl, rfl⟩
  all_goals
    have hc' : Hid _ := hc
    clear hc
    go_enter Try.func41, Try.ntmps41
    go_wp2_with (go_at_call 50; refine (base16_no b c _ hc'.out).mono ?_; rintro e w1 ⟨rfl, hw'⟩; obtain rfl := hw'.symm)
    go_ret
    exact ⟨rfl, rfl⟩

set_option maxHeartbeats 1000000 in
theorem escape_yes (B b : Nat) (st : Int) (d : UInt8) (out : List UInt8) (v : Value) (x : UInt8) (w : World) (hb : b < B) (hB : B ≤ w.heap.size) (hu : Uq B w b st d out v) (hs : st = 1 ∨ st = 2 ∨ st = 3) (st' : Int) (d' : UInt8) (out' : List UInt8)
    (hq : qStep st d out x = some (st', d', out')) (hn : out.length + 1 ≤ 140737488355328) :
    Calls Try.prog 41 #[.pointer (some ⟨b, 0, none⟩), .int .i32 (x.toNat : Int)] w fun e w' => e = .returned (.bool true) ∧ ∃ v', Uq B w' b st' d' out' v' ∧ Kp B b w w' := by
  obtain ⟨c0, c1, c2, f0, f1, f2⟩ := box3 hu.box
  have HU : Hid _ := hu
  clear hu
  rcases hs with rfl | rfl | rfl
  · simp only [qStep] at hq
    rw [if_neg (by decide), if_pos trivial] at hq
    by_cases h1 : x = 34
    · subst h1
      simp only [true_or, if_true, Option.some.injEq, Prod.mk.injEq] at hq
      obtain ⟨rfl, rfl, rfl⟩ := hq
      go_enter Try.func41, Try.ntmps41
      go_wp2_with (go_at_call 51; refine (mean_any B b 1 d 34 out v w hb hB HU.out hn).mono ?_; rintro e w1 ⟨rfl, v', U1, K1⟩)
      go_ret
      exact ⟨rfl, v', U1, K1⟩
    by_cases h2 : x = 92
    · subst h2
      simp only [or_true, if_true, Option.some.injEq, Prod.mk.injEq] at hq
      obtain ⟨rfl, rfl, rfl⟩ := hq
      clear h1
      go_enter Try.func41, Try.ntmps41
      go_wp2_with (go_at_call 51; refine (mean_any B b 1 d 92 out v w hb hB HU.out hn).mono ?_; rintro e w1 ⟨rfl, v', U1, K1⟩)
      go_ret
      exact ⟨rfl, v', U1, K1⟩
    by_cases h3 : x = 110
    · subst h3
      simp at hq
      obtain ⟨rfl, rfl, rfl⟩ := hq
      clear h1 h2
      go_enter Try.func41, Try.ntmps41
      go_wp2_with (go_at_call 51; refine (mean_any B b 1 d 10 out v w hb hB HU.out hn).mono ?_; rintro e w1 ⟨rfl, v', U1, K1⟩)
      go_ret
      exact ⟨rfl, v', U1, K1⟩
    by_cases h4 : x = 120
    · subst h4
      simp at hq
      obtain ⟨rfl, rfl, rfl⟩ := hq
      clear h1 h2 h3
      go_enter Try.func41, Try.ntmps41
      go_wp2
      go_ret
      exact ⟨rfl, v, HU.out.state hb 2, Kp.set w _ _ rfl⟩
    · simp [h1, h2, h3, h4] at hq
  · simp only [qStep] at hq
    rw [if_neg (by decide), if_neg (by decide)] at hq
    split at hq
    · cases hq
    · rename_i hx
      simp at hq
      obtain ⟨rfl, rfl, rfl⟩ := hq
      have hx' : Hid _ := hx
      clear hx
      go_enter Try.func41, Try.ntmps41
      go_wp2_with (go_at_call 50; refine (base16_hi B b d out v _ w hb HU.out hx'.out).mono ?_; rintro e w1 ⟨rfl, U1, K1⟩)
      go_ret
      exact ⟨rfl, v, U1, K1⟩
  · simp only [qStep] at hq
    rw [if_neg (by decide), if_neg (by decide)] at hq
    split at hq
    · cases hq
    · rename_i hx
      rw [if_neg (by decide)] at hq
      simp only [Option.some.injEq, Prod.mk.injEq] at hq
      obtain ⟨rfl, rfl, rfl⟩ := hq
      have hx' : Hid _ := hx
      clear hx
      go_enter Try.func41, Try.ntmps41
      go_wp2_with (go_at_call 50; refine (base16_lo B b d out v _ w hb hB HU.out hx'.out hn).mono ?_; rintro e w1 ⟨rfl, v', U1, K1⟩)
      go_ret
      exact ⟨rfl, v', U1, K1⟩
end Go.Proofs.Ytmglbcldjhdhkab

