/- Values as they were: SameValue, KeptValue. -/
import Derived.Test.YtppimacfeelneaaLtC
import Derived.Test.YtppimacfeelneaaDcQ
import Derived.Test.YtppimacfeelneaaRefH

namespace Go.Proofs.Ytppimacfeelneaa
open Go.RowKit Go.PlainAid

set_option maxRecDepth 1000000 in
set_option maxHeartbeats 1600000 in
theorem sameValue_self (p : VD) (u v : Value) (w : World) (hu : Ts w u p.texts) (hv : Ts w v p.texts) :
    Calls Try.prog 21 #[p.val u, p.val v] w fun e w' => e = .returned (.bool true) ∧ Keep [] w w' := by
  have hT := fun w1 (k : Keep [] w w1) => sameTexts_self u v p.texts w1 (hu.keep k (Off.nil _)) (hv.keep k (Off.nil _))
  obtain ⟨ao, ca, rfl, _, _, _, _⟩ := hu.ex
  obtain ⟨bo, cb, rfl, _, _, _, _⟩ := hv.ex
  clear hu hv
  obtain ⟨kd, b, n, x, t, ts⟩ := p
  simp only [] at hT ⊢
  have hR := sameReal_self x
  have e1 : (kd == kd) = true := by simp
  have e2 : (b == b) = true := by simp
  have e3 : (n == n) = true := by simp
  have e4 : (t.toList == t.toList) = true := by simp
  have K0 : Hid (Keep [] w ((w.alloc (.cells #[.int .i64 kd, .bool b, .int .i64 n, .float .f32 x, .string t, .slice ao ts.length ca] 28)).alloc (.cells #[.int .i64 kd, .bool b, .int .i64 n, .float .f32 x, .string t, .slice bo ts.length cb] 28))) := (Keep.alloc1 w _).alloc _
  cases h3 : (kd == 3)
  · have h3' : (kd != 3) = true := by simp [bne, h3]
    cases hq : (FloatKind.f32.format.order x x == some Ordering.eq)
    all_goals
      go_enter Try.func21, Try.ntmps21
      go_wp2_with (first
        | (go_at_call 44; refine (hR _).mono ?_; rintro e9 w9 ⟨rfl, hw9⟩; obtain rfl := hw9.symm)
        | (go_at_call 49; refine (hT _ K0.out).mono ?_; rintro e9 w9 ⟨rfl, n9, rfl⟩))
      go_ret
      exact ⟨rfl, K0.out.drewN _⟩
  · have h3' : (kd != 3) = false := by simp [bne, h3]
    go_enter Try.func21, Try.ntmps21
    go_wp2_with (first
      | (go_at_call 44; refine (hR _).mono ?_; rintro e9 w9 ⟨rfl, hw9⟩; obtain rfl := hw9.symm)
      | (go_at_call 49; refine (hT _ K0.out).mono ?_; rintro e9 w9 ⟨rfl, n9, rfl⟩))
    go_ret
    exact ⟨rfl, K0.out.drewN _⟩

set_option maxRecDepth 1000000 in
set_option maxHeartbeats 1600000 in
theorem keptValue_any (p : VD) (g cap : Nat) (v : Value) (w : World) (hx : Ts w (.slice (some ⟨g, 0, none⟩) (p.texts.length + 24) cap) (p.texts ++ marks 24)) (hx2 : Ts w (.slice (some ⟨g, 0, none⟩) p.texts.length cap) p.texts) (hv : Ts w v p.texts) (hlen : p.texts.length ≤ 8796093021952) :
    Calls Try.prog 18 #[p.val (.slice (some ⟨g, 0, none⟩) p.texts.length cap), p.val v] w fun e w' => e = .returned (.bool true) ∧ Keep [] w w' := by
  have hS := fun w1 (k : Keep [] w w1) => sameValue_self p _ v w1 (hx2.keep k (Off.nil _)) (hv.keep k (Off.nil _))
  have hT := fun w1 (k : Keep [] w w1) => keptTexts_any g cap v p.texts w1 (hx.keep k (Off.nil _)) (hv.keep k (Off.nil _)) hlen
  obtain ⟨bo, cb, rfl, _, _, _, _⟩ := hv.ex
  clear hx hx2 hv hlen
  obtain ⟨kd, b, n, x, t, ts⟩ := p
  simp only [] at hT hS ⊢
  have hR := sameReal_self x
  have K0 : Hid (Keep [] w ((w.alloc (.cells #[.int .i64 kd, .bool b, .int .i64 n, .float .f32 x, .string t, .slice (some ⟨g, 0, none⟩) ts.length cap] 28)).alloc (.cells #[.int .i64 kd, .bool b, .int .i64 n, .float .f32 x, .string t, .slice bo ts.length cb] 28))) := (Keep.alloc1 w _).alloc _
  go_enter Try.func18, Try.ntmps18
  go_wp2_with fail
  refine (hS _ K0.out).mono ?_
  rintro e9 w1 ⟨rfl, k1⟩
  obtain ⟨⟨c0, c1, c2, c3, c4, c5⟩, ⟨d0, d1, d2, d3, d4, d5⟩⟩ := two_cells k1
  have HK1 : Hid (Keep [] w w1) := K0.out.trans' k1
  clear k1 hS
  go_wp2_with (first
    | (go_at_call 44; refine (hR _).mono ?_; rintro e9 w9 ⟨rfl, hw9⟩; obtain rfl := hw9.symm)
    | (go_at_call 45; refine (hT _ HK1.out).mono ?_; rintro e9 w2 ⟨rfl, k2⟩))
  go_ret
  exact ⟨rfl, HK1.out.trans' k2⟩
end Go.Proofs.Ytppimacfeelneaa

/- SameValue of values that are alike. -/
namespace Go.Proofs.Ytppimacfeelneaa
open Go.RowKit Go.PlainAid Go.Lib

theorem key_same (a b : Nat) (ha : a < 4294967296) (hb : b < 4294967296) (h : keyN a = keyN b) : a = b ∨ (nanB a = true ∧ nanB b = true) := by
  unfold keyN at h
  by_cases h1 : nanB a = true
  · by_cases h2 : nanB b = true
    · exact .inr ⟨h1, h2⟩
    · rw [if_pos h1, if_neg h2] at h
      unfold nanB at h2
      simp at h2
      split at h <;> omega
  · by_cases h2 : nanB b = true
    · rw [if_neg h1, if_pos h2] at h
      unfold nanB at h1
      simp at h1
      split at h <;> omega
    · rw [if_neg h1, if_neg h2] at h
      left
      split at h <;> split at h <;> omega

theorem sameReal_nan (x y : Nat) (hx : nanB x = true) (hy : nanB y = true) (w : World) : Calls Try.prog 44 #[.float .f32 x, .float .f32 y] w fun e w' => e = .returned (.bool true) ∧ w' = w := by
  by_cases hq : x = y
  · subst hq
    exact sameReal_self x w
  have hb := run_f32bits x
  have hb2 := run_f32bits y
  have n1 := neq_self x
  have n2 := neq_self y
  rw [hx] at n1
  rw [hy] at n2
  have hee : ((x : Int) == (y : Int)) = false := beq_eq_false_iff_ne.2 (by omega)
  clear hx hy hq
  go_enter Try.func44, Try.ntmps44
  go_wp2
  go_ret
  exact ⟨rfl, rfl⟩

set_option maxRecDepth 1000000 in
set_option maxHeartbeats 1600000 in
theorem sameValue_nan (x y : Nat) (hx : nanB x = true) (hy : nanB y = true) (b : Bool) (n : Int) (t : ByteArray) (ts : List ByteArray) (u v : Value) (w : World) (hu : Ts w u ts) (hv : Ts w v ts) :
    Calls Try.prog 21 #[(⟨3, b, n, x, t, ts⟩ : VD).val u, (⟨3, b, n, y, t, ts⟩ : VD).val v] w fun e w' => e = .returned (.bool true) ∧ Keep [] w w' := by
  have hT := fun w1 (k : Keep [] w w1) => sameTexts_self u v ts w1 (hu.keep k (Off.nil _)) (hv.keep k (Off.nil _))
  obtain ⟨ao, ca, rfl, _, _, _, _⟩ := hu.ex
  obtain ⟨bo, cb, rfl, _, _, _, _⟩ := hv.ex
  clear hu hv
  have hR := sameReal_nan x y hx hy
  have e2 : (b == b) = true := by simp
  have e3 : (n == n) = true := by simp
  have e4 : (t.toList == t.toList) = true := by simp
  have K0 : Hid (Keep [] w ((w.alloc (.cells #[.int .i64 3, .bool b, .int .i64 n, .float .f32 x, .string t, .slice ao ts.length ca] 28)).alloc (.cells #[.int .i64 3, .bool b, .int .i64 n, .float .f32 y, .string t, .slice bo ts.length cb] 28))) := (Keep.alloc1 w _).alloc _
  clear hx hy
  go_enter Try.func21, Try.ntmps21
  go_wp2_with (first
    | (go_at_call 44; refine (hR _).mono ?_; rintro e9 w9 ⟨rfl, hw9⟩; obtain rfl := hw9.symm)
    | (go_at_call 49; refine (hT _ K0.out).mono ?_; rintro e9 w9 ⟨rfl, n9, rfl⟩))
  go_ret
  exact ⟨rfl, K0.out.drewN _⟩

theorem sameValue_alike (p q : VD) (hp : p.Ok) (hq : q.Ok) (h : Alike p q) (u v : Value) (w : World) (hu : Ts w u p.texts) (hv : Ts w v q.texts) :
    Calls Try.prog 21 #[p.val u, q.val v] w fun e w' => e = .returned (.bool true) ∧ Keep [] w w' := by
  have ha := hp.real1
  have hb := hq.real1
  obtain ⟨k, b, i, r, t, ts⟩ := p
  obtain ⟨k', b', i', r', t', ts'⟩ := q
  obtain ⟨h1, h2, h3, h4, h5, h6, h7⟩ := h
  simp only [] at h1 h2 h3 h4 h5 h6 h7 ha hb hu hv
  subst h1 h2 h3 h6 h7
  rcases key_same r r' ha hb h4 with hr | ⟨n1, n2⟩
  · subst hr
    exact sameValue_self ⟨k, b, i, r, t, ts⟩ u v w hu hv
  · by_cases hk : k = 3
    · subst hk
      exact sameValue_nan r r' n1 n2 b i t ts u v w hu hv
    · obtain rfl := h5 hk
      exact sameValue_self ⟨k, b, i, r, t, ts⟩ u v w hu hv
end Go.Proofs.Ytppimacfeelneaa
