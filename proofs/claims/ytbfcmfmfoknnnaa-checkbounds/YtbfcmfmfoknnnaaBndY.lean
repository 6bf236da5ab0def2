/- CheckBounds: the document's two bounds, and the law's walk. -/
import Derived.Test.YtbfcmfmfoknnnaaBndX
namespace Go.Proofs.Ytbfcmfmfoknnnaa
open Go.RowKit Go.PlainAid

theorem capN_pos (a b : Nat) (ha : 0 < a) (hb : 0 < b) : 0 < capN a b := by
  rw [capN_min a b hb]
  have := Nat.mul_pos ha hb
  omega
set_option maxRecDepth 1000000 in
theorem rBound (n m : Int) (hn : -9223372036854775808 ≤ n ∧ n ≤ 9223372036854775807) (hm : -9223372036854775808 ≤ m ∧ m ≤ 9223372036854775807) (w : World) :
    Calls Try.prog 5 #[.int .i64 n, .int .i64 m] w fun e w' => e = .returned (.int .i64 (bZ n m)) ∧ w' = w := by
  obtain ⟨n1, n2⟩ := hn
  obtain ⟨m1, m2⟩ := hm
  by_cases h : n < 0 ∨ m < 0
  · have e : bZ n m = 0 := by unfold bZ; rw [if_pos h]
    rw [e]
    clear e
    by_cases h1 : n < 0
    · clear h
      go_enter Try.func5, Try.ntmps5
      go_wp2
      go_ret
      exact ⟨rfl, rfl⟩
    · have h2 : m < 0 := by omega
      clear h
      go_enter Try.func5, Try.ntmps5
      go_wp2
      go_ret
      exact ⟨rfl, rfl⟩
  · have h1 : ¬ n < 0 := by omega
    have h2 : ¬ m < 0 := by omega
    obtain ⟨a, rfl⟩ := nat_of n h1
    obtain ⟨b, rfl⟩ := nat_of m h2
    have e : bZ a b = ((bndR a b : Nat) : Int) := by
      unfold bZ
      rw [if_neg h, Int.toNat_natCast, Int.toNat_natCast, bnd_is]
    have pa := moreN_pos a
    have pb := moreN_pos b
    have la : moreN a ≤ 8388610 := by unfold moreN; omega
    have lb : moreN b ≤ 8388610 := by unfold moreN; omega
    have M1 := fun w => more_any a (by omega) w
    have M2 := fun w => more_any b (by omega) w
    have T1 := fun w => third_any (moreN a) pa (by omega) w
    have T2 := fun w => third_any (moreN b) pb (by omega) w
    have C1 := fun w => capped_any 16 (thirdN (moreN a)) (third_pos _ pa) (third_le _ pa) w
    have C2 := fun w => capped_any (capN 16 (thirdN (moreN a))) (thirdN (moreN b)) (third_pos _ pb) (third_le _ pb) w
    have l1 := third_le _ pa
    have l2 := third_le _ pb
    have l3 := capN_le 16 _ (third_pos _ pa)
    have l4 : bndR a b ≤ 4611686018427387904 := capN_le _ _ (third_pos _ pb)
    rw [e]
    have e2 : capN (capN 16 (thirdN (moreN a))) (thirdN (moreN b)) = bndR a b := rfl
    rw [e2] at C2
    clear e e2 h
    generalize bndR a b = R at *
    generalize capN 16 (thirdN (moreN a)) = c1 at *
    generalize thirdN (moreN a) = t1 at *
    generalize thirdN (moreN b) = t2 at *
    generalize moreN a = x1 at *
    generalize moreN b = x2 at *
    go_enter Try.func5, Try.ntmps5
    go_wp2_with fail
    refine (M1 _).mono ?_
    rintro e9 w9 ⟨rfl, hw9⟩
    obtain rfl := hw9.symm
    clear hw9
    go_wp2_with fail
    refine (T1 _).mono ?_
    rintro e9 w9 ⟨rfl, hw9⟩
    obtain rfl := hw9.symm
    clear hw9
    go_wp2_with fail
    refine (C1 _).mono ?_
    rintro e9 w9 ⟨rfl, hw9⟩
    obtain rfl := hw9.symm
    clear hw9
    go_wp2_with fail
    refine (M2 _).mono ?_
    rintro e9 w9 ⟨rfl, hw9⟩
    obtain rfl := hw9.symm
    clear hw9
    go_wp2_with fail
    refine (T2 _).mono ?_
    rintro e9 w9 ⟨rfl, hw9⟩
    obtain rfl := hw9.symm
    clear hw9
    go_wp2_with fail
    refine (C2 _).mono ?_
    rintro e9 w9 ⟨rfl, hw9⟩
    obtain rfl := hw9.symm
    clear hw9
    go_wp2
    go_ret
    exact ⟨rfl, rfl⟩
set_option maxRecDepth 1000000 in
theorem rList (n m : Int) (hn : -9223372036854775808 ≤ n ∧ n ≤ 9223372036854775807) (hm : -9223372036854775808 ≤ m ∧ m ≤ 9223372036854775807) (w : World) :
    Calls Try.prog 7 #[.int .i64 n, .int .i64 m] w fun e w' => e = .returned (.int .i64 (lZ n m)) ∧ w' = w := by
  have HB := fun w => rBound n m hn hm w
  obtain ⟨n1, n2⟩ := hn
  obtain ⟨m1, m2⟩ := hm
  by_cases h : n < 0 ∨ m < 0
  · have e : lZ n m = 0 := by unfold lZ; rw [if_pos h]
    rw [e]
    clear e HB
    by_cases h1 : n < 0
    · clear h
      go_enter Try.func7, Try.ntmps7
      go_wp2
      go_ret
      exact ⟨rfl, rfl⟩
    · have h2 : m < 0 := by omega
      clear h
      go_enter Try.func7, Try.ntmps7
      go_wp2
      go_ret
      exact ⟨rfl, rfl⟩
  · have h1 : ¬ n < 0 := by omega
    have h2 : ¬ m < 0 := by omega
    obtain ⟨a, rfl⟩ := nat_of n h1
    obtain ⟨b, rfl⟩ := nat_of m h2
    have e : lZ a b = ((lstR a b : Nat) : Int) := by
      unfold lZ
      rw [if_neg h, Int.toNat_natCast, Int.toNat_natCast, lst_is]
    have eb : bZ a b = ((bndR a b : Nat) : Int) := by
      unfold bZ
      rw [if_neg h, Int.toNat_natCast, Int.toNat_natCast, bnd_is]
    rw [e]
    rw [eb] at HB
    clear e eb h
    by_cases h3 : 8388608 < b
    · have e3 : lstR a b = 4611686018427387904 := by unfold lstR; rw [if_pos h3]
      rw [e3]
      clear e3 HB
      go_enter Try.func7, Try.ntmps7
      go_wp2
      go_ret
      exact ⟨rfl, rfl⟩
    · have e3 : lstR a b = capN (bndR a b) (b + 2) := by unfold lstR; rw [if_neg h3]
      have C := fun w => capped_any (bndR a b) (b + 2) (by omega) (by omega) w
      have l4 : bndR a b ≤ 4611686018427387904 := capN_le _ _ (third_pos _ (moreN_pos b))
      have l5 : capN (bndR a b) (b + 2) ≤ 4611686018427387904 := capN_le _ _ (by omega)
      rw [e3]
      clear e3
      generalize capN (bndR a b) (b + 2) = R at *
      generalize bndR a b = r at *
      have eb2 : ((b + 2 : Nat) : Int) = (b : Int) + 2 := by omega
      rw [eb2] at C
      clear eb2
      go_enter Try.func7, Try.ntmps7
      go_wp2_with fail
      refine (HB _).mono ?_
      rintro e9 w9 ⟨rfl, hw9⟩
      obtain rfl := hw9.symm
      clear hw9
      go_wp2_with fail
      refine (C _).mono ?_
      rintro e9 w9 ⟨rfl, hw9⟩
      obtain rfl := hw9.symm
      clear hw9
      go_wp2
      go_ret
      exact ⟨rfl, rfl⟩
theorem b00 : bZ 0 0 = 1024 := by decide +kernel
theorem l12 : lZ 1 2 = 110592 := by decide +kernel
set_option maxRecDepth 1000000 in
theorem bounds_walk (n m : Int) (hn : -9223372036854775808 ≤ n ∧ n ≤ 9223372036854775807) (hm : -9223372036854775808 ≤ m ∧ m ≤ 9223372036854775807) (w : World) :
    Calls Try.prog 3 #[.int .i64 n, .int .i64 m] w fun e w' => e = .returned (.bool true) ∧ w' = w := by
  have P1 := fun w => pBound n m hn hm w
  have P2 := fun w => rBound n m hn hm w
  have P3 := fun w => pList n m hn hm w
  have P4 := fun w => rList n m hn hm w
  have P5 := fun w => pBound 0 0 (by decide) (by decide) w
  have P6 := fun w => pList 1 2 (by decide) (by decide) w
  rw [b00] at P5
  rw [l12] at P6
  generalize bZ n m = B at *
  generalize lZ n m = L at *
  go_enter Try.func3, Try.ntmps3
  go_wp2_with fail
  refine (P1 _).mono ?_
  rintro e9 w9 ⟨rfl, hw9⟩
  obtain rfl := hw9.symm
  clear hw9
  go_wp2_with fail
  refine (P2 _).mono ?_
  rintro e9 w9 ⟨rfl, hw9⟩
  obtain rfl := hw9.symm
  clear hw9
  go_wp2_with fail
  refine (P3 _).mono ?_
  rintro e9 w9 ⟨rfl, hw9⟩
  obtain rfl := hw9.symm
  clear hw9
  go_wp2_with fail
  refine (P4 _).mono ?_
  rintro e9 w9 ⟨rfl, hw9⟩
  obtain rfl := hw9.symm
  clear hw9
  go_wp2_with fail
  refine (P5 _).mono ?_
  rintro e9 w9 ⟨rfl, hw9⟩
  obtain rfl := hw9.symm
  clear hw9
  go_wp2_with fail
  refine (P6 _).mono ?_
  rintro e9 w9 ⟨rfl, hw9⟩
  obtain rfl := hw9.symm
  clear hw9
  go_wp2
  go_ret
  exact ⟨rfl, rfl⟩
end Go.Proofs.Ytbfcmfmfoknnnaa
