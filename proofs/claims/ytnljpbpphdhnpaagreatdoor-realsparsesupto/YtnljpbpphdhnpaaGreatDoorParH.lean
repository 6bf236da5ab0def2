/- The document's cut of a text of a real (ParH). -/
import Derived.Test.YtnljpbpphdhnpaaGreatDoorParD
import Derived.Deep.QuietTactic
import Derived.BigQuiet
namespace Go.Proofs.YtnljpbpphdhnpaaGreatDoor
open Go.RowKit Go.PlainAid

set_option maxRecDepth 1000000 in
set_option maxHeartbeats 1000000 in
theorem parts_okp (s : ByteArray) (a k0 : Nat) (p : Nat) (F : Nat → Int) (R : Int) (w : World) (hs : s.size ≤ 1000000000) (ha : 0 < a) (hA : ∀ j, j < a → 48 ≤ bt s j ∧ bt s j ≤ 57) (hD : bt s a = 46) (hB : ∀ j, a + 1 ≤ j → j < k0 → 48 ≤ bt s j ∧ bt s j ≤ 57) (hk : a + 1 ≤ k0) (hk3 : a + 1 < k0) (h101 : Hid (bt s k0 = 101)) (h45 : Hid (bt s (k0 + 1) ≠ 45)) (hxp : k0 + 1 ≤ p) (hxs : k0 + 1 < s.size) (HC : Hid (∀ j, k0 + 1 ≤ j → j < p → 48 ≤ bt s j ∧ bt s j ≤ 57)) (F0 : Hid (F (k0 + 1) = 0)) (FS : Hid (∀ j, k0 + 1 ≤ j → j < p → F (j + 1) = min (10 * F j + (bt s j - 48)) 1099511627776)) (FB : Hid (∀ j, 0 ≤ F j ∧ F j ≤ 1099511627776)) (FR : Hid (F p = R)) (hp : p = s.size) :
    Calls Tryz.prog 33 #[.string s] w fun e w' => e = .returned (.tuple #[.string (s.extract 0 a ++ s.extract (a + 1) k0), .int .i64 (R - ((k0 : Int) - (a : Int) - 1)), .bool true]) ∧ ∃ n, w' = w.drewN n := by
  have HG : Hid (∀ i (h : i < s.size), ((s[i]'h).toNat : Int) = bt s i) := get_bt s
  have HA : Hid (∀ j, j < a → 48 ≤ bt s j ∧ bt s j ≤ 57) := hA
  have HB : Hid (∀ j, a + 1 ≤ j → j < k0 → 48 ≤ bt s j ∧ bt s j ≤ 57) := hB
  have HD : Hid (bt s a = 46) := hD
  clear hA hB hD
  go_enter Tryz.func33, Tryz.ntmps33
  go_wp2
  go_loop [5] (fun i => ∃ j : Nat, j ≤ a ∧ i = .int .i64 j) (fun i => a - (intOf i).toNat)
  case atStart => exact ⟨0, Nat.zero_le _, rfl⟩
  case round =>
    obtain ⟨j, hj, rfl⟩ := hrel
    by_cases hja : j < a
    · have hjs : j < s.size := by omega
      have hji : (j : Int) < (s.size : Int) := by omega
      have gj : ((s[j]'hjs).toNat : Int) = bt s j := HG.out j hjs
      obtain ⟨r1, r2⟩ := HA.out j hja
      generalize bt s j = c at *
      go_wp2
      go_round
      case rel => exact ⟨j + 1, by omega, by go_num⟩
      case measure => simp [intOf]; omega
    · obtain rfl : a = j := by omega
      clear hj hja
      have has : a < s.size := by omega
      have hai : (a : Int) < (s.size : Int) := by omega
      have ga : ((s[a]'has).toNat : Int) = 46 := (HG.out a has).trans HD.out
      have hane : ((a : Int) == 0) = false := by rw [beq_eq_false_iff_ne]; omega
      have hane2 : ((a : Int) == (s.size : Int)) = false := by rw [beq_eq_false_iff_ne]; omega
      go_wp2
      go_loop [6] (fun i => ∃ j : Nat, j ≤ k0 ∧ a + 1 ≤ j ∧ i = .int .i64 j) (fun i => k0 - (intOf i).toNat)
      case atStart => exact ⟨a + 1, by omega, Nat.le_refl _, by go_num⟩
      case round =>
        obtain ⟨j, hj, haj, rfl⟩ := hrel
        by_cases hja : j < k0
        · have hjs : j < s.size := by omega
          have hji : (j : Int) < (s.size : Int) := by omega
          have gj : ((s[j]'hjs).toNat : Int) = bt s j := HG.out j hjs
          obtain ⟨r1, r2⟩ := HB.out j haj hja
          generalize bt s j = c at *
          go_wp2
          go_round
          case rel => exact ⟨j + 1, by omega, by omega, by go_num⟩
          case measure => simp [intOf]; omega
        · obtain rfl : k0 = j := by omega
          clear hj hja haj
          have q1 : (a : Int) ≤ (s.size : Int) := by omega
          have q2 : (a : Int) + 1 ≤ (k0 : Int) := by omega
          have q3 : (k0 : Int) ≤ (s.size : Int) := by omega
          have q4 : ¬ (k0 : Int) = (a : Int) + 1 := by omega
          have q5 : ((k0 : Int) == (a : Int) + 1) = false := by rw [beq_eq_false_iff_ne]; exact q4
          have qk : k0 < s.size := by omega
          have qki : (k0 : Int) < (s.size : Int) := by omega
          have qkn : ((k0 : Int) == (s.size : Int)) = false := by rw [beq_eq_false_iff_ne]; omega
          have gk : ((s[k0]'qk).toNat : Int) = 101 := (HG.out k0 qk).trans h101.out
          clear h101
          have q6 : (k0 : Int) + 1 < (s.size : Int) := by omega
          have q6n : k0 + 1 < s.size := by omega
          have g1 : ((s[k0 + 1]'q6n).toNat : Int) = bt s (k0 + 1) := HG.out (k0 + 1) q6n
          have g2 : (bt s (k0 + 1) == 45) = false := by rw [beq_eq_false_iff_ne]; exact h45.out
          clear h45
          have q7 : ((k0 : Int) + 1 == (s.size : Int)) = false := by rw [beq_eq_false_iff_ne]; omega
          go_wp2_with fail
          go_quiet (fail)
          go_wp2
          go_loop [6, 9] (fun i n => ∃ j : Nat, k0 + 1 ≤ j ∧ j ≤ p ∧ i = .int .i64 j ∧ n = .int .i64 (F j)) (fun i _ => p - (intOf i).toNat)
          case atStart => exact ⟨k0 + 1, Nat.le_refl _, by omega, by go_num, by rw [F0.out]⟩
          case round =>
            obtain ⟨j, hxj, hj, rfl, rfl⟩ := hrel
            by_cases hjp : j < p
            · have hjs : j < s.size := by omega
              have hji : (j : Int) < (s.size : Int) := by omega
              have gj : ((s[j]'hjs).toNat : Int) = bt s j := HG.out j hjs
              obtain ⟨r1, r2⟩ := HC.out j hxj hjp
              obtain ⟨b1, b2⟩ := FB.out j
              have H1 : Hid (F (j + 1) = min (10 * F j + (bt s j - 48)) 1099511627776) := FS.out j hxj hjp
              generalize bt s j = c at *
              generalize F j = n at *
              go_wp2
              go_round
              case rel => exact ⟨j + 1, by omega, by omega, by go_num, by rw [H1.out]; simp only [Value.int.injEq, true_and]; omega⟩
              case measure => simp [intOf]; omega
            · obtain rfl : p = j := by omega
              clear hj hjp hxj
              obtain ⟨b1, b2⟩ := FB.out p
              have HR := FR.out
              clear FS F0 FB FR
              generalize F p = n at *
              have q8 : ¬ (p : Int) < (s.size : Int) := by omega
              obtain rfl := HR.symm
              go_wp2
              refine bodyPost_ret (v := .tuple #[.string (s.extract 0 a ++ s.extract (a + 1) k0), .int .i64 (R - ((k0 : Int) - (a : Int) - 1)), .bool true]) (by simp [results, Tryz.results33, go_sem]; omega) rfl ⟨rfl, _, rfl⟩
set_option maxRecDepth 1000000 in
set_option maxHeartbeats 1000000 in
theorem parts_okm (s : ByteArray) (a k0 : Nat) (p : Nat) (F : Nat → Int) (R : Int) (w : World) (hs : s.size ≤ 1000000000) (ha : 0 < a) (hA : ∀ j, j < a → 48 ≤ bt s j ∧ bt s j ≤ 57) (hD : bt s a = 46) (hB : ∀ j, a + 1 ≤ j → j < k0 → 48 ≤ bt s j ∧ bt s j ≤ 57) (hk : a + 1 ≤ k0) (hk3 : a + 1 < k0) (h101 : Hid (bt s k0 = 101)) (h45 : Hid (bt s (k0 + 1) = 45)) (hxp : k0 + 2 ≤ p) (hxs : k0 + 2 < s.size) (HC : Hid (∀ j, k0 + 2 ≤ j → j < p → 48 ≤ bt s j ∧ bt s j ≤ 57)) (F0 : Hid (F (k0 + 2) = 0)) (FS : Hid (∀ j, k0 + 2 ≤ j → j < p → F (j + 1) = min (10 * F j + (bt s j - 48)) 1099511627776)) (FB : Hid (∀ j, 0 ≤ F j ∧ F j ≤ 1099511627776)) (FR : Hid (F p = R)) (hp : p = s.size) :
    Calls Tryz.prog 33 #[.string s] w fun e w' => e = .returned (.tuple #[.string (s.extract 0 a ++ s.extract (a + 1) k0), .int .i64 (-R - ((k0 : Int) - (a : Int) - 1)), .bool true]) ∧ ∃ n, w' = w.drewN n := by
  have HG : Hid (∀ i (h : i < s.size), ((s[i]'h).toNat : Int) = bt s i) := get_bt s
  have HA : Hid (∀ j, j < a → 48 ≤ bt s j ∧ bt s j ≤ 57) := hA
  have HB : Hid (∀ j, a + 1 ≤ j → j < k0 → 48 ≤ bt s j ∧ bt s j ≤ 57) := hB
  have HD : Hid (bt s a = 46) := hD
  clear hA hB hD
  go_enter Tryz.func33, Tryz.ntmps33
  go_wp2
  go_loop [5] (fun i => ∃ j : Nat, j ≤ a ∧ i = .int .i64 j) (fun i => a - (intOf i).toNat)
  case atStart => exact ⟨0, Nat.zero_le _, rfl⟩
  case round =>
    obtain ⟨j, hj, rfl⟩ := hrel
    by_cases hja : j < a
    · have hjs : j < s.size := by omega
      have hji : (j : Int) < (s.size : Int) := by omega
      have gj : ((s[j]'hjs).toNat : Int) = bt s j := HG.out j hjs
      obtain ⟨r1, r2⟩ := HA.out j hja
      generalize bt s j = c at *
      go_wp2
      go_round
      case rel => exact ⟨j + 1, by omega, by go_num⟩
      case measure => simp [intOf]; omega
    · obtain rfl : a = j := by omega
      clear hj hja
      have has : a < s.size := by omega
      have hai : (a : Int) < (s.size : Int) := by omega
      have ga : ((s[a]'has).toNat : Int) = 46 := (HG.out a has).trans HD.out
      have hane : ((a : Int) == 0) = false := by rw [beq_eq_false_iff_ne]; omega
      have hane2 : ((a : Int) == (s.size : Int)) = false := by rw [beq_eq_false_iff_ne]; omega
      go_wp2
      go_loop [6] (fun i => ∃ j : Nat, j ≤ k0 ∧ a + 1 ≤ j ∧ i = .int .i64 j) (fun i => k0 - (intOf i).toNat)
      case atStart => exact ⟨a + 1, by omega, Nat.le_refl _, by go_num⟩
      case round =>
        obtain ⟨j, hj, haj, rfl⟩ := hrel
        by_cases hja : j < k0
        · have hjs : j < s.size := by omega
          have hji : (j : Int) < (s.size : Int) := by omega
          have gj : ((s[j]'hjs).toNat : Int) = bt s j := HG.out j hjs
          obtain ⟨r1, r2⟩ := HB.out j haj hja
          generalize bt s j = c at *
          go_wp2
          go_round
          case rel => exact ⟨j + 1, by omega, by omega, by go_num⟩
          case measure => simp [intOf]; omega
        · obtain rfl : k0 = j := by omega
          clear hj hja haj
          have q1 : (a : Int) ≤ (s.size : Int) := by omega
          have q2 : (a : Int) + 1 ≤ (k0 : Int) := by omega
          have q3 : (k0 : Int) ≤ (s.size : Int) := by omega
          have q4 : ¬ (k0 : Int) = (a : Int) + 1 := by omega
          have q5 : ((k0 : Int) == (a : Int) + 1) = false := by rw [beq_eq_false_iff_ne]; exact q4
          have qk : k0 < s.size := by omega
          have qki : (k0 : Int) < (s.size : Int) := by omega
          have qkn : ((k0 : Int) == (s.size : Int)) = false := by rw [beq_eq_false_iff_ne]; omega
          have gk : ((s[k0]'qk).toNat : Int) = 101 := (HG.out k0 qk).trans h101.out
          clear h101
          have q6 : (k0 : Int) + 1 < (s.size : Int) := by omega
          have q6n : k0 + 1 < s.size := by omega
          have g1 : ((s[k0 + 1]'q6n).toNat : Int) = 45 := (HG.out (k0 + 1) q6n).trans h45.out
          clear h45
          have q7 : ((k0 : Int) + 1 + 1 == (s.size : Int)) = false := by rw [beq_eq_false_iff_ne]; omega
          go_wp2_with fail
          go_quiet (fail)
          go_wp2
          go_loop [6, 9] (fun i n => ∃ j : Nat, k0 + 2 ≤ j ∧ j ≤ p ∧ i = .int .i64 j ∧ n = .int .i64 (F j)) (fun i _ => p - (intOf i).toNat)
          case atStart => exact ⟨k0 + 2, Nat.le_refl _, by omega, by go_num, by rw [F0.out]⟩
          case round =>
            obtain ⟨j, hxj, hj, rfl, rfl⟩ := hrel
            by_cases hjp : j < p
            · have hjs : j < s.size := by omega
              have hji : (j : Int) < (s.size : Int) := by omega
              have gj : ((s[j]'hjs).toNat : Int) = bt s j := HG.out j hjs
              obtain ⟨r1, r2⟩ := HC.out j hxj hjp
              obtain ⟨b1, b2⟩ := FB.out j
              have H1 : Hid (F (j + 1) = min (10 * F j + (bt s j - 48)) 1099511627776) := FS.out j hxj hjp
              generalize bt s j = c at *
              generalize F j = n at *
              go_wp2
              go_round
              case rel => exact ⟨j + 1, by omega, by omega, by go_num, by rw [H1.out]; simp only [Value.int.injEq, true_and]; omega⟩
              case measure => simp [intOf]; omega
            · obtain rfl : p = j := by omega
              clear hj hjp hxj
              obtain ⟨b1, b2⟩ := FB.out p
              have HR := FR.out
              clear FS F0 FB FR
              generalize F p = n at *
              have q8 : ¬ (p : Int) < (s.size : Int) := by omega
              obtain rfl := HR.symm
              go_wp2
              refine bodyPost_ret (v := .tuple #[.string (s.extract 0 a ++ s.extract (a + 1) k0), .int .i64 (-R - ((k0 : Int) - (a : Int) - 1)), .bool true]) (by simp [results, Tryz.results33, go_sem]; omega) rfl ⟨rfl, _, rfl⟩
end Go.Proofs.YtnljpbpphdhnpaaGreatDoor
