/- Values held against one another: Compare, for every two values. -/
import Derived.Test.YtppimacfeelneaaTxM
namespace Go.Proofs.Ytppimacfeelneaa
open Go.RowKit Go.PlainAid Go.Lib

def b2i (b : Bool) : Int := if b then 1 else 0
theorem bit_any (b : Bool) (w : World) : Calls Try.prog 69 #[.bool b] w fun e w' => e = .returned (.int .u8 (b2i b)) ∧ w' = w := by
  cases b
  all_goals
    go_enter Try.func69, Try.ntmps69
    go_wp2
    go_ret
    exact ⟨rfl, rfl⟩
theorem isNaN_u8 (x : Int) (w : World) : Calls Try.prog 112 #[.int .u8 x] w fun e w' => e = .returned (.bool false) ∧ w' = w := by
  go_enter Try.func112, Try.ntmps112
  go_wp2
  go_ret
  exact ⟨rfl, rfl⟩
theorem cmp_bits (a b : Bool) (w : World) : Calls Try.prog 68 #[.int .u8 (b2i a), .int .u8 (b2i b)] w fun e w' => e = .returned (.int .i64 (cmpI (b2i a) (b2i b))) ∧ w' = w := by
  cases a <;> cases b <;> simp only [b2i, if_true, if_false, Bool.false_eq_true]
  all_goals
    go_enter Try.func68, Try.ntmps68
    go_wp2_with (go_at_call 112; refine (isNaN_u8 _ _).mono ?_; rintro e9 w9 ⟨rfl, hw9⟩; obtain rfl := hw9.symm)
    go_ret
    exact ⟨rfl, rfl⟩

def cmpR (a b : Nat) : Int × Bool := if nanB a || nanB b then (0, false) else (cmpI (svalZ a) (svalZ b), true)
theorem compareReals_any (a b : Nat) (w : World) : Calls Try.prog 71 #[.float .f32 a, .float .f32 b] w fun e w' => e = .returned (.tuple #[.int .i64 (cmpR a b).1, .bool (cmpR a b).2]) ∧ w' = w := by
  have ha := neq_self a
  have hb := neq_self b
  unfold cmpR
  cases h1 : nanB a <;> rw [h1] at ha
  · cases h2 : nanB b <;> rw [h2] at hb
    · have hC := cmp_f32 a b h1 h2
      simp only [Bool.or_self, Bool.false_eq_true, if_false]
      generalize cmpI (svalZ a) (svalZ b) = cc at hC ⊢
      go_enter Try.func71, Try.ntmps71
      go_wp2_with (go_at_call 74; refine (hC _).mono ?_; rintro e9 w9 ⟨rfl, hw9⟩; obtain rfl := hw9.symm)
      go_ret2
      exact ⟨rfl, rfl⟩
    · go_enter Try.func71, Try.ntmps71
      go_wp2
      go_ret2
      exact ⟨rfl, rfl⟩
  · go_enter Try.func71, Try.ntmps71
    go_wp2
    go_ret2
    exact ⟨rfl, rfl⟩

/-- two values of one kind -/
def likeV (a b : VD) : Int × Bool :=
  if a.kind = 1 then (cmpI (b2i a.bool) (b2i b.bool), true) else if a.kind = 2 then (cmpI a.int b.int, true) else if a.kind = 3 then cmpR a.real b.real
  else if a.kind = 4 then (cmpT a.text.toList b.text.toList, true) else (cmpL a.texts b.texts, true)

set_option maxRecDepth 100000 in
set_option maxHeartbeats 3200000 in
theorem compareLike_any (a b : VD) (u v : Value) (w : World) (hu : Ts w u a.texts) (hv : Ts w v b.texts) :
    Calls Try.prog 35 #[a.val u, b.val v] w fun e w' => e = .returned (.tuple #[.int .i64 (likeV a b).1, .bool (likeV a b).2]) ∧ Keep [] w w' := by
  have hL := listCmp_any u v a.texts b.texts ((w.alloc (a.blk u)).alloc (b.blk v)) (hu.keep ((Keep.alloc1 w _).alloc _) (Off.nil _)) (hv.keep ((Keep.alloc1 w _).alloc _) (Off.nil _))
  obtain ⟨ao, ca, rfl, _, _, _, _⟩ := hu.ex
  obtain ⟨bo, cb, rfl, _, _, _, _⟩ := hv.ex
  clear hu hv
  obtain ⟨ka, ba, na, xa, ta, la⟩ := a
  obtain ⟨kb, bb, nb, xb, tb, lb⟩ := b
  simp only [likeV, VD.val, VD.blk] at *
  by_cases h1 : ka = 1
  · subst h1
    clear hL
    simp only [if_true]
    go_enter Try.func35, Try.ntmps35
    go_wp2
    go_quiet (first | (go_at_call 69; exact Calls.quiet_of_same (bit_any _ _)) | (go_at_call 68; exact Calls.quiet_of_same (cmp_bits ba bb _)))
    go_wp2
    go_ret2
    exact ⟨rfl, ((Keep.alloc1 w _).alloc _).drewN _⟩
  rw [if_neg h1]
  have g1 : (ka == 1) = false := by simpa using h1
  by_cases h2 : ka = 2
  · subst h2
    clear hL g1
    simp only [if_true]
    go_enter Try.func35, Try.ntmps35
    go_wp2_with (go_at_call 70; refine (cmp_i64 _ _ _).mono ?_; rintro e9 w9 ⟨rfl, hw9⟩; obtain rfl := hw9.symm)
    go_ret2
    exact ⟨rfl, ((Keep.alloc1 w _).alloc _)⟩
  rw [if_neg h2]
  have g2 : (ka == 2) = false := by simpa using h2
  by_cases h3 : ka = 3
  · subst h3
    clear hL g1 g2
    simp only [if_true]
    go_enter Try.func35, Try.ntmps35
    go_wp2_with (go_at_call 71; refine (compareReals_any _ _ _).mono ?_; rintro e9 w9 ⟨rfl, hw9⟩; obtain rfl := hw9.symm)
    go_ret2
    exact ⟨rfl, ((Keep.alloc1 w _).alloc _)⟩
  rw [if_neg h3]
  have g3 : (ka == 3) = false := by simpa using h3
  by_cases h4 : ka = 4
  · subst h4
    clear hL g1 g2 g3
    simp only [if_true]
    go_enter Try.func35, Try.ntmps35
    go_wp2_with (go_at_call 72; refine (strCmp_any _ _ _).mono ?_; rintro e9 w9 ⟨rfl, hw9⟩; obtain rfl := hw9.symm)
    go_ret2
    exact ⟨rfl, ((Keep.alloc1 w _).alloc _)⟩
  rw [if_neg h4]
  have g4 : (ka == 4) = false := by simpa using h4
  clear h1 h2 h3 h4
  go_enter Try.func35, Try.ntmps35
  go_wp2_with (go_at_call 73; refine hL.mono ?_; rintro e9 w9 ⟨rfl, hw9⟩; obtain rfl := hw9.symm)
  go_ret2
  exact ⟨rfl, ((Keep.alloc1 w _).alloc _)⟩

end Go.Proofs.Ytppimacfeelneaa
