/- What is reckoned with two reals: the program's Do, for every kind and every two reals. -/
import Derived.Test.YtnljpbpphdhnpaaGreatDoorRlA
import Derived.Test.YtnljpbpphdhnpaaGreatDoorTxS

namespace Go.Proofs.YtnljpbpphdhnpaaGreatDoor
open Go.RowKit Go.PlainAid

theorem nan_aux (p q : Nat) (hp : p < 2) (hq : q < 8388607) : 2139095040 < (p * 2147483648 + 2139095040 + 1 + q) % 2147483648 ∧ p * 2147483648 + 2139095040 + 1 + q < 4294967296 := by
  have : p = 0 ∨ p = 1 := by omega
  rcases this with rfl | rfl <;> omega
theorem cut_nan (x y t : Nat) : nanB (Question.cut (.nanBits .f32 x y) t) = true ∧ Question.cut (.nanBits .f32 x y) t < 4294967296 := by
  unfold nanB
  simp only [Question.cut, Nat.reducePow, Nat.reduceSub]
  obtain ⟨h1, h2⟩ := nan_aux (t % 2) (t / 2 % 8388607) (Nat.mod_lt _ (by decide)) (Nat.mod_lt _ (by decide))
  exact ⟨decide_eq_true h1, h2⟩
/-- an operation that has no answer draws one that is no number -/
theorem run_nan (op : BinOp) (x y : Nat) (h : floatBits op .f32 x y = none) (ho : op = .add ∨ op = .sub ∨ op = .mul ∨ op = .quo) :
    ∃ r : World → Nat, (∀ w, nanB (r w) = true ∧ r w < 4294967296) ∧ ∀ w, (binOp op 22 (.float .f32 x) (.float .f32 y)).run Tryz.prog w = .ok (.float .f32 (r w)) w.drew := by
  refine ⟨fun w => Question.cut (.nanBits .f32 x y) (w.tape w.drawn (.nanBits .f32 x y)), fun w => ?_, fun w => ?_⟩
  · exact cut_nan x y _
  · rcases ho with rfl | rfl | rfl | rfl
    all_goals
      have h' := h
      simp only [floatBits] at h'
      simp [binOp, Op.floatArith, h', Question.forced, go_sem]

def opK (k : Int) : Option BinOp := if k = 5 then some .mul else if k = 6 then some .quo else if k = 7 then some .add else if k = 8 then some .sub else none
def doN (k : Int) (a b : Nat) : Nat := match opK k with
  | none => 2143289344
  | some op => match floatBits op .f32 a b with
    | none => 2143289344
    | some r => if nanB r then 2143289344 else r

set_option maxRecDepth 100000 in
set_option maxHeartbeats 1600000 in
theorem do_any (k : Int) (a b : Nat) (w : World) : Calls Tryz.prog 24 #[.int .i64 k, .float .f32 a, .float .f32 b] w fun e w' => e = .returned (.float .f32 (doN k a b)) ∧ ∃ n, w' = w.drewN n := by
  have hV := nan_any
  have hNN : ∀ w, Calls Tryz.prog 14 #[.float .f32 2143289344] w fun e w' => e = .returned (.bool true) ∧ w' = w := fun w => isNan_any 2143289344 w
  have hd : doN k a b = match opK k with
    | none => 2143289344
    | some op => match floatBits op .f32 a b with
      | none => 2143289344
      | some r => if nanB r then 2143289344 else r := rfl
  by_cases h5 : k = 5
  · subst h5
    have ho : opK 5 = some .mul := rfl
    rw [ho] at hd
    simp only [] at hd
    cases hf : floatBits .mul .f32 a b with
    | none =>
      obtain ⟨r, hr1, hr2⟩ := run_nan .mul a b hf (by simp)
      rw [hf] at hd
      rw [hd]
      have hN := fun w => isNan_any (r w)
      go_enter Tryz.func24, Tryz.ntmps24
      go_wp2_with (first | (go_at_call 26; refine (hV _).mono ?_; rintro e9 w9 ⟨rfl, hw9⟩; obtain rfl := hw9.symm) | (go_at_call 14; refine (hN _ _).mono ?_; rintro e9 w9 ⟨rfl, hw9⟩; obtain rfl := hw9.symm; rw [(hr1 _).1]))
      go_ret
      exact ⟨rfl, 1, rfl⟩
    | some z =>
      have hr := fun w => run_float_arith (P := Tryz.prog) w .mul 22 .f32 a b z hf
      rw [hf] at hd
      simp only [] at hd
      have hN := isNan_any z
      rw [hd]
      cases hz : nanB z <;> rw [hz] at hN
      all_goals
        simp only [Bool.false_eq_true, if_false, if_true]
        go_enter Tryz.func24, Tryz.ntmps24
        go_wp2_with (first | (go_at_call 26; refine (hV _).mono ?_; rintro e9 w9 ⟨rfl, hw9⟩; obtain rfl := hw9.symm) | (go_at_call 14; refine (hN _).mono ?_; rintro e9 w9 ⟨rfl, hw9⟩; obtain rfl := hw9.symm))
        go_ret
        exact ⟨rfl, 0, rfl⟩
  have t5 : (k == 5) = false := by simpa using h5
  by_cases h6 : k = 6
  · subst h6
    have ho : opK 6 = some .quo := rfl
    rw [ho] at hd
    simp only [] at hd
    cases hf : floatBits .quo .f32 a b with
    | none =>
      obtain ⟨r, hr1, hr2⟩ := run_nan .quo a b hf (by simp)
      rw [hf] at hd
      rw [hd]
      have hN := fun w => isNan_any (r w)
      go_enter Tryz.func24, Tryz.ntmps24
      go_wp2_with (first | (go_at_call 26; refine (hV _).mono ?_; rintro e9 w9 ⟨rfl, hw9⟩; obtain rfl := hw9.symm) | (go_at_call 14; refine (hN _ _).mono ?_; rintro e9 w9 ⟨rfl, hw9⟩; obtain rfl := hw9.symm; rw [(hr1 _).1]))
      go_ret
      exact ⟨rfl, 1, rfl⟩
    | some z =>
      have hr := fun w => run_float_arith (P := Tryz.prog) w .quo 22 .f32 a b z hf
      rw [hf] at hd
      simp only [] at hd
      have hN := isNan_any z
      rw [hd]
      cases hz : nanB z <;> rw [hz] at hN
      all_goals
        simp only [Bool.false_eq_true, if_false, if_true]
        go_enter Tryz.func24, Tryz.ntmps24
        go_wp2_with (first | (go_at_call 26; refine (hV _).mono ?_; rintro e9 w9 ⟨rfl, hw9⟩; obtain rfl := hw9.symm) | (go_at_call 14; refine (hN _).mono ?_; rintro e9 w9 ⟨rfl, hw9⟩; obtain rfl := hw9.symm))
        go_ret
        exact ⟨rfl, 0, rfl⟩
  have t6 : (k == 6) = false := by simpa using h6
  by_cases h7 : k = 7
  · subst h7
    have ho : opK 7 = some .add := rfl
    rw [ho] at hd
    simp only [] at hd
    cases hf : floatBits .add .f32 a b with
    | none =>
      obtain ⟨r, hr1, hr2⟩ := run_nan .add a b hf (by simp)
      rw [hf] at hd
      rw [hd]
      have hN := fun w => isNan_any (r w)
      go_enter Tryz.func24, Tryz.ntmps24
      go_wp2_with (first | (go_at_call 26; refine (hV _).mono ?_; rintro e9 w9 ⟨rfl, hw9⟩; obtain rfl := hw9.symm) | (go_at_call 14; refine (hN _ _).mono ?_; rintro e9 w9 ⟨rfl, hw9⟩; obtain rfl := hw9.symm; rw [(hr1 _).1]))
      go_ret
      exact ⟨rfl, 1, rfl⟩
    | some z =>
      have hr := fun w => run_float_arith (P := Tryz.prog) w .add 22 .f32 a b z hf
      rw [hf] at hd
      simp only [] at hd
      have hN := isNan_any z
      rw [hd]
      cases hz : nanB z <;> rw [hz] at hN
      all_goals
        simp only [Bool.false_eq_true, if_false, if_true]
        go_enter Tryz.func24, Tryz.ntmps24
        go_wp2_with (first | (go_at_call 26; refine (hV _).mono ?_; rintro e9 w9 ⟨rfl, hw9⟩; obtain rfl := hw9.symm) | (go_at_call 14; refine (hN _).mono ?_; rintro e9 w9 ⟨rfl, hw9⟩; obtain rfl := hw9.symm))
        go_ret
        exact ⟨rfl, 0, rfl⟩
  have t7 : (k == 7) = false := by simpa using h7
  by_cases h8 : k = 8
  · subst h8
    have ho : opK 8 = some .sub := rfl
    rw [ho] at hd
    simp only [] at hd
    cases hf : floatBits .sub .f32 a b with
    | none =>
      obtain ⟨r, hr1, hr2⟩ := run_nan .sub a b hf (by simp)
      rw [hf] at hd
      rw [hd]
      have hN := fun w => isNan_any (r w)
      go_enter Tryz.func24, Tryz.ntmps24
      go_wp2_with (first | (go_at_call 26; refine (hV _).mono ?_; rintro e9 w9 ⟨rfl, hw9⟩; obtain rfl := hw9.symm) | (go_at_call 14; refine (hN _ _).mono ?_; rintro e9 w9 ⟨rfl, hw9⟩; obtain rfl := hw9.symm; rw [(hr1 _).1]))
      go_ret
      exact ⟨rfl, 1, rfl⟩
    | some z =>
      have hr := fun w => run_float_arith (P := Tryz.prog) w .sub 22 .f32 a b z hf
      rw [hf] at hd
      simp only [] at hd
      have hN := isNan_any z
      rw [hd]
      cases hz : nanB z <;> rw [hz] at hN
      all_goals
        simp only [Bool.false_eq_true, if_false, if_true]
        go_enter Tryz.func24, Tryz.ntmps24
        go_wp2_with (first | (go_at_call 26; refine (hV _).mono ?_; rintro e9 w9 ⟨rfl, hw9⟩; obtain rfl := hw9.symm) | (go_at_call 14; refine (hN _).mono ?_; rintro e9 w9 ⟨rfl, hw9⟩; obtain rfl := hw9.symm))
        go_ret
        exact ⟨rfl, 0, rfl⟩
  have t8 : (k == 8) = false := by simpa using h8
  have ho : opK k = none := by unfold opK; rw [if_neg h5, if_neg h6, if_neg h7, if_neg h8]
  rw [ho] at hd
  rw [hd]
  clear hd ho h5 h6 h7 h8
  go_enter Tryz.func24, Tryz.ntmps24
  go_wp2_with (first | (go_at_call 26; refine (hV _).mono ?_; rintro e9 w9 ⟨rfl, hw9⟩; obtain rfl := hw9.symm) | (go_at_call 14; refine (hNN _).mono ?_; rintro e9 w9 ⟨rfl, hw9⟩; obtain rfl := hw9.symm))
  go_ret
  exact ⟨rfl, 0, rfl⟩
end Go.Proofs.YtnljpbpphdhnpaaGreatDoor



/- The statements' own look at some fixed answers: it says true, in whatever memory the library's tables lie in. -/
namespace Go.Proofs.YtnljpbpphdhnpaaGreatDoor
open Go.RowKit Go.PlainAid

theorem cmpI_p (w : World) : Calls Tryz.prog 23 #[.float .f32 1266679808, .int .i64 16777217] w fun e w' => e = .returned (.tuple #[.int .i64 (-1), .bool true]) ∧ w' = w := by
  have h := compareInt_any 1266679808 16777217 (by decide) (by decide) w
  have e1 : (cmpXN 1266679808 16777217) = (-1, true) := by decide
  rw [e1] at h
  exact h
theorem do_p (w : World) : Calls Tryz.prog 24 #[.int .i64 7, .float .f32 1266679808, .float .f32 1073741824] w fun e w' => e = .returned (.float .f32 1266679809) ∧ ∃ n, w' = w.drewN n := by
  have h := do_any 7 1266679808 1073741824 w
  have e1 : doN 7 1266679808 1073741824 = 1266679809 := by decide
  rw [e1] at h
  exact h

set_option maxRecDepth 1000000 in
set_option maxHeartbeats 1000000 in
theorem awake_any (w : World) (hT : Tabx w) : Calls Tryz.prog 8 #[] w fun e w' => e = .returned (.bool true) ∧ Below w.heap.size w w' := by
  have h1 : Calls Tryz.prog 9 #[.string ⟨#[49, 54, 55, 55, 55, 50, 49, 55, 46, 48]⟩] w fun e w' => e = .returned (.tuple #[.float .f32 1266679808, .int .i64 0]) ∧ Below w.heap.size w w' := parse_p w hT.tabs
  have k1 : (FloatKind.f32.format.order 1266679808 1266679808 == some Ordering.eq) = true := by decide
  have k2 : (FloatKind.f32.format.order 0 0 == some Ordering.eq) = true := by decide
  have k3 : (FloatKind.f32.format.order 1266679809 1266679809 == some Ordering.eq) = true := by decide
  go_enter Tryz.func8, Tryz.ntmps8
  go_wp2_with fail
  refine h1.mono ?_
  rintro e9 w1 ⟨rfl, hb1⟩
  have HB1 : Hid (Below w.heap.size w w1) := hb1
  clear hb1 h1
  go_wp2_with (first
    | (go_at_call 9; refine (parse_q _).mono ?_; rintro e9 w2 ⟨rfl, hb2⟩; have HB2 : Hid (Below w.heap.size w w2) := HB1.out.trans (hb2.mono HB1.out.size); clear hb2)
    | (go_at_call 23; refine (cmpI_p _).mono ?_; rintro e9 w9 ⟨rfl, hw9⟩; obtain rfl := hw9.symm)
    | (go_at_call 6; refine (text_p _ (hT.below HB2.out)).mono ?_; rintro e9 w3 ⟨rfl, hb3⟩; have HB3 : Hid (Below w.heap.size w w3) := HB2.out.trans (hb3.mono HB2.out.size); clear hb3)
    | (go_at_call 24; refine (do_p _).mono ?_; rintro e9 w4 ⟨rfl, n4, hw4⟩; have HB4 : Hid (Below w.heap.size w w4) := (by rw [hw4]; exact below_drewN HB3.out n4); clear hw4))
  go_ret
  exact ⟨rfl, HB4.out⟩
end Go.Proofs.YtnljpbpphdhnpaaGreatDoor


