/- CheckBounds: the program's two bounds, the document's, and the law's walk. -/
import Derived.Test.YtbfcmfmfoknnnaaBndW
namespace Go.Proofs.Ytbfcmfmfoknnnaa
open Go.RowKit Go.PlainAid

theorem rs3 (p f : Nat) : rs p f 3 = cap3 p f := rfl
theorem rs4 (p f : Nat) : rs p f 4 = cap4 p f := rfl
theorem cap3_le (p f : Nat) (hf : 0 < f) : cap3 p f ≤ 4611686018427387904 := capN_le _ _ hf
theorem rs_le (p f : Nat) (hf : 0 < f) : ∀ k, 0 < k → rs p f k ≤ 4611686018427387904 := by
  intro k hk
  induction k generalizing p with
  | zero => omega
  | succ k ih =>
    by_cases h : k = 0
    · subst h; exact capN_le _ _ hf
    · exact ih (capN p f) (by omega)
set_option maxRecDepth 1000000 in
theorem bound_any (n m k : Nat) (hn : n ≤ 9223372036854775807) (hm : m ≤ 9223372036854775807) (hk : k = 3 ∨ k = 4) (w : World) :
    Calls Try.prog 8 #[.int .i64 (n : Nat), .int .i64 (m : Nat), .int .i64 (k : Nat)] w fun e w' => e = .returned (.int .i64 (rs (cap3 16 (fN n)) (fN m) k : Nat)) ∧ w' = w := by
  have H1 := fun w => raised_any 16 n 3 (by decide) hn (by decide) w
  have H2 := fun w => raised_any (cap3 16 (fN n)) m k (cap3_le _ _ (fN_pos n)) hm (by omega) w
  have hle := rs_le (cap3 16 (fN n)) (fN m) (fN_pos m) k (by omega)
  have hle2 := cap3_le 16 (fN n) (fN_pos n)
  simp only [rs3] at H1
  generalize rs (cap3 16 (fN n)) (fN m) k = R at *
  generalize cap3 16 (fN n) = P at *
  have hk2 : k ≤ 4 := by omega
  clear hk
  go_enter Try.func8, Try.ntmps8
  go_wp2_with fail
  refine (H1 _).mono ?_
  rintro e9 w9 ⟨rfl, hw9⟩
  obtain rfl := hw9.symm
  clear hw9
  go_wp2_with fail
  refine (H2 _).mono ?_
  rintro e9 w9 ⟨rfl, hw9⟩
  obtain rfl := hw9.symm
  clear hw9
  go_wp2
  go_ret
  exact ⟨rfl, rfl⟩
set_option maxRecDepth 1000000 in
theorem bound_low (n m k : Int) (hn : -9223372036854775808 ≤ n ∧ n ≤ 9223372036854775807) (hm : -9223372036854775808 ≤ m ∧ m ≤ 9223372036854775807) (h : n < 0 ∨ m < 0) (w : World) :
    Calls Try.prog 8 #[.int .i64 n, .int .i64 m, .int .i64 k] w fun e w' => e = .returned (.int .i64 0) ∧ w' = w := by
  obtain ⟨n1, n2⟩ := hn
  obtain ⟨m1, m2⟩ := hm
  by_cases h1 : n < 0
  · clear h
    go_enter Try.func8, Try.ntmps8
    go_wp2
    go_ret
    exact ⟨rfl, rfl⟩
  · have h2 : m < 0 := by omega
    clear h
    go_enter Try.func8, Try.ntmps8
    go_wp2
    go_ret
    exact ⟨rfl, rfl⟩
/-- what both bounds of any two numbers are -/
def bZ (n m : Int) : Int := if n < 0 ∨ m < 0 then 0 else (bndP n.toNat m.toNat : Int)
def lZ (n m : Int) : Int := if n < 0 ∨ m < 0 then 0 else (lstP n.toNat m.toNat : Int)
theorem nat_of (n : Int) (h : ¬ n < 0) : ∃ k : Nat, n = k := ⟨n.toNat, by omega⟩
theorem bound8 (n m : Int) (k : Nat) (hk : k = 3 ∨ k = 4) (hn : -9223372036854775808 ≤ n ∧ n ≤ 9223372036854775807) (hm : -9223372036854775808 ≤ m ∧ m ≤ 9223372036854775807) (w : World) :
    Calls Try.prog 8 #[.int .i64 n, .int .i64 m, .int .i64 (k : Nat)] w fun e w' => e = .returned (.int .i64 (if k = 3 then bZ n m else lZ n m)) ∧ w' = w := by
  by_cases h : n < 0 ∨ m < 0
  · have e : (if k = 3 then bZ n m else lZ n m) = 0 := by unfold bZ lZ; rw [if_pos h, if_pos h]; split <;> rfl
    rw [e]
    exact bound_low n m k hn hm h w
  · obtain ⟨a, rfl⟩ := nat_of n (by omega)
    obtain ⟨b, rfl⟩ := nat_of m (by omega)
    have e : (if k = 3 then bZ a b else lZ a b) = ((rs (cap3 16 (fN a)) (fN b) k : Nat) : Int) := by
      unfold bZ lZ bndP lstP
      rw [if_neg h, if_neg h, Int.toNat_natCast, Int.toNat_natCast]
      rcases hk with rfl | rfl
      · rfl
      · rfl
    rw [e]
    exact bound_any a b k (by omega) (by omega) hk w
set_option maxRecDepth 1000000 in
theorem pBound (n m : Int) (hn : -9223372036854775808 ≤ n ∧ n ≤ 9223372036854775807) (hm : -9223372036854775808 ≤ m ∧ m ≤ 9223372036854775807) (w : World) :
    Calls Try.prog 4 #[.int .i64 n, .int .i64 m] w fun e w' => e = .returned (.int .i64 (bZ n m)) ∧ w' = w := by
  have H := fun w => bound8 n m 3 (Or.inl rfl) hn hm w
  simp only [if_true] at H
  obtain ⟨n1, n2⟩ := hn
  obtain ⟨m1, m2⟩ := hm
  generalize bZ n m = R at *
  go_enter Try.func4, Try.ntmps4
  go_wp2_with fail
  refine (H _).mono ?_
  rintro e9 w9 ⟨rfl, hw9⟩
  obtain rfl := hw9.symm
  clear hw9
  go_wp2
  go_ret
  exact ⟨rfl, rfl⟩
set_option maxRecDepth 1000000 in
theorem pList (n m : Int) (hn : -9223372036854775808 ≤ n ∧ n ≤ 9223372036854775807) (hm : -9223372036854775808 ≤ m ∧ m ≤ 9223372036854775807) (w : World) :
    Calls Try.prog 6 #[.int .i64 n, .int .i64 m] w fun e w' => e = .returned (.int .i64 (lZ n m)) ∧ w' = w := by
  have H := fun w => bound8 n m 4 (Or.inr rfl) hn hm w
  simp only [show ¬ ((4 : Nat) = 3) by decide, if_false] at H
  obtain ⟨n1, n2⟩ := hn
  obtain ⟨m1, m2⟩ := hm
  generalize lZ n m = R at *
  go_enter Try.func6, Try.ntmps6
  go_wp2_with fail
  refine (H _).mono ?_
  rintro e9 w9 ⟨rfl, hw9⟩
  obtain rfl := hw9.symm
  clear hw9
  go_wp2
  go_ret
  exact ⟨rfl, rfl⟩
end Go.Proofs.Ytbfcmfmfoknnnaa
