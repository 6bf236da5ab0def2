/- The document's cut of a text of a real (ParE). -/
import Derived.Test.YtnljpbpphdhnpaaGreatDoorParD
import Derived.Deep.QuietTactic
import Derived.BigQuiet
namespace Go.Proofs.YtnljpbpphdhnpaaGreatDoor
open Go.RowKit Go.PlainAid

set_option maxRecDepth 1000000 in
theorem parts_empty (w : World) : Calls Tryz.prog 33 #[.string ⟨#[]⟩] w fun e w' => e = .returned (.tuple #[.string ⟨#[]⟩, .int .i64 0, .bool false]) ∧ ∃ n, w' = w.drewN n := by
  go_enter Tryz.func33, Tryz.ntmps33
  go_wp2
  refine wp_loop_rounds 1 ?_
  rw [rounds_succ]
  go_wp2
  refine bodyPost_ret (v := .tuple #[.string ⟨#[]⟩, .int .i64 0, .bool false]) (by simp [results, Tryz.results33, go_sem]) rfl ⟨rfl, 0, rfl⟩
set_option maxRecDepth 1000000 in
set_option maxHeartbeats 1000000 in
theorem parts_n1a (s : ByteArray) (a : Nat) (w : World) (hs : s.size ≤ 1000000000) (ha2 : a ≤ s.size) (hA : ∀ j, j < a → 48 ≤ bt s j ∧ bt s j ≤ 57) (he : a = s.size) (hz : 0 < a) :
    Calls Tryz.prog 33 #[.string s] w fun e w' => e = .returned (.tuple #[.string ⟨#[]⟩, .int .i64 0, .bool false]) ∧ ∃ n, w' = w.drewN n := by
  have HG : Hid (∀ i (h : i < s.size), ((s[i]'h).toNat : Int) = bt s i) := get_bt s
  have HA : Hid (∀ j, j < a → 48 ≤ bt s j ∧ bt s j ≤ 57) := hA
  clear hA
  go_enter Tryz.func33, Tryz.ntmps33
  go_wp2
  obtain rfl := he
  go_loop [5] (fun i => ∃ j : Nat, j ≤ s.size ∧ i = .int .i64 j) (fun i => s.size - (intOf i).toNat)
  case atStart => exact ⟨0, Nat.zero_le _, rfl⟩
  case round =>
    obtain ⟨j, hj, rfl⟩ := hrel
    by_cases hja : j < s.size
    · have hjs : j < s.size := by omega
      have hji : (j : Int) < (s.size : Int) := by omega
      have gj : ((s[j]'hjs).toNat : Int) = bt s j := HG.out j hjs
      obtain ⟨r1, r2⟩ := HA.out j hja
      generalize bt s j = c at *
      go_wp2
      go_round
      case rel => exact ⟨j + 1, by omega, by go_num⟩
      case measure => simp [intOf]; omega
    · obtain rfl : j = s.size := by omega
      clear hj hja
      have q0 : ¬ (s.size : Int) < (s.size : Int) := by omega
      have hz2 : ((s.size : Int) == 0) = false := by rw [beq_eq_false_iff_ne]; omega
      go_wp2
      refine bodyPost_ret (v := .tuple #[.string ⟨#[]⟩, .int .i64 0, .bool false]) (by simp [results, Tryz.results33, go_sem]) rfl ⟨rfl, 0, rfl⟩
set_option maxRecDepth 1000000 in
set_option maxHeartbeats 1000000 in
theorem parts_n1z (s : ByteArray) (w : World) (hs : s.size ≤ 1000000000) (he : 0 < s.size) (hn : ¬ (48 ≤ bt s 0 ∧ bt s 0 ≤ 57)) :
    Calls Tryz.prog 33 #[.string s] w fun e w' => e = .returned (.tuple #[.string ⟨#[]⟩, .int .i64 0, .bool false]) ∧ ∃ n, w' = w.drewN n := by
  have ga : ((s[0]'he).toNat : Int) = bt s 0 := get_bt s 0 he
  have HN := hn
  clear hn
  generalize bt s 0 = c at *
  have he2 : (0 : Int) < (s.size : Int) := by omega
  go_enter Tryz.func33, Tryz.ntmps33
  go_wp2
  by_cases h48 : c < 48
  · clear HN
    refine wp_loop_rounds 1 ?_
    rw [rounds_succ]
    go_wp2
    refine bodyPost_ret (v := .tuple #[.string ⟨#[]⟩, .int .i64 0, .bool false]) (by simp [results, Tryz.results33, go_sem]) rfl ⟨rfl, 0, rfl⟩
  · have h57 : 57 < c := by omega
    clear HN
    refine wp_loop_rounds 1 ?_
    rw [rounds_succ]
    go_wp2
    refine bodyPost_ret (v := .tuple #[.string ⟨#[]⟩, .int .i64 0, .bool false]) (by simp [results, Tryz.results33, go_sem]) rfl ⟨rfl, 0, rfl⟩
set_option maxRecDepth 1000000 in
set_option maxHeartbeats 1000000 in
theorem parts_n1b (s : ByteArray) (a : Nat) (w : World) (hs : s.size ≤ 1000000000) (hA : ∀ j, j < a → 48 ≤ bt s j ∧ bt s j ≤ 57) (h0 : 0 < a) (he : a < s.size) (hn : Hid (¬ (48 ≤ bt s a ∧ bt s a ≤ 57))) (hz : Hid (bt s a ≠ 46)) :
    Calls Tryz.prog 33 #[.string s] w fun e w' => e = .returned (.tuple #[.string ⟨#[]⟩, .int .i64 0, .bool false]) ∧ ∃ n, w' = w.drewN n := by
  have HG : Hid (∀ i (h : i < s.size), ((s[i]'h).toNat : Int) = bt s i) := get_bt s
  have HA : Hid (∀ j, j < a → 48 ≤ bt s j ∧ bt s j ≤ 57) := hA
  clear hA
  go_enter Tryz.func33, Tryz.ntmps33
  go_wp2
  go_loop [5] (fun i => ∃ j : Nat, j ≤ a ∧ i = .int .i64 j) (fun i => a - (intOf i).toNat)
  case atStart => exact ⟨0, Nat.zero_le _, rfl⟩
  case round =>
    obtain ⟨j, hj, rfl⟩ := hrel
    by_cases hja : j < a
    · have hjs : j < s.size := by omega
      have hji : (j : Int) < (s.size : Int) := by omega
      have gj : ((s[j]'hjs).toNat : Int) = bt s j := HG.out j hjs
      obtain ⟨r1, r2⟩ := HA.out j hja
      generalize bt s j = c at *
      go_wp2
      go_round
      case rel => exact ⟨j + 1, by omega, by go_num⟩
      case measure => simp [intOf]; omega
    · obtain rfl : a = j := by omega
      clear hj hja
      have has : a < s.size := by omega
      have hai : (a : Int) < (s.size : Int) := by omega
      have ga : ((s[a]'has).toNat : Int) = bt s a := HG.out a has
      have HN := hn.out
      have qs : ((a : Int) == (s.size : Int)) = false := by rw [beq_eq_false_iff_ne]; omega
      have h46 : (bt s a == 46) = false := by rw [beq_eq_false_iff_ne]; exact hz.out
      have hz2 : ((a : Int) == 0) = false := by rw [beq_eq_false_iff_ne]; omega
      clear hn hz
      generalize bt s a = c at *
      by_cases h48 : c < 48
      · clear HN
        go_wp2
        refine bodyPost_ret (v := .tuple #[.string ⟨#[]⟩, .int .i64 0, .bool false]) (by simp [results, Tryz.results33, go_sem]) rfl ⟨rfl, 0, rfl⟩
      · have h57 : 57 < c := by omega
        clear HN
        go_wp2
        refine bodyPost_ret (v := .tuple #[.string ⟨#[]⟩, .int .i64 0, .bool false]) (by simp [results, Tryz.results33, go_sem]) rfl ⟨rfl, 0, rfl⟩
set_option maxRecDepth 1000000 in
set_option maxHeartbeats 1000000 in
theorem parts_n2a (s : ByteArray) (a : Nat) (w : World) (hs : s.size ≤ 1000000000) (ha : 0 < a) (hD : bt s a = 46) (hA : ∀ j, j < a → 48 ≤ bt s j ∧ bt s j ≤ 57) (hke : a + 1 = s.size) :
    Calls Tryz.prog 33 #[.string s] w fun e w' => e = .returned (.tuple #[.string ⟨#[]⟩, .int .i64 0, .bool false]) ∧ ∃ n, w' = w.drewN n := by
  have HG : Hid (∀ i (h : i < s.size), ((s[i]'h).toNat : Int) = bt s i) := get_bt s
  have HA : Hid (∀ j, j < a → 48 ≤ bt s j ∧ bt s j ≤ 57) := hA
  have HD : Hid (bt s a = 46) := hD
  clear hA hD
  go_enter Tryz.func33, Tryz.ntmps33
  go_wp2
  go_loop [5] (fun i => ∃ j : Nat, j ≤ a ∧ i = .int .i64 j) (fun i => a - (intOf i).toNat)
  case atStart => exact ⟨0, Nat.zero_le _, rfl⟩
  case round =>
    obtain ⟨j, hj, rfl⟩ := hrel
    by_cases hja : j < a
    · have hjs : j < s.size := by omega
      have hji : (j : Int) < (s.size : Int) := by omega
      have gj : ((s[j]'hjs).toNat : Int) = bt s j := HG.out j hjs
      obtain ⟨r1, r2⟩ := HA.out j hja
      generalize bt s j = c at *
      go_wp2
      go_round
      case rel => exact ⟨j + 1, by omega, by go_num⟩
      case measure => simp [intOf]; omega
    · obtain rfl : a = j := by omega
      clear hj hja
      have q0 : ¬ (a : Int) + 1 < (s.size : Int) := by omega
      have has : a < s.size := by omega
      have hai : (a : Int) < (s.size : Int) := by omega
      have ga : ((s[a]'has).toNat : Int) = 46 := (HG.out a has).trans HD.out
      have hane : ((a : Int) == 0) = false := by rw [beq_eq_false_iff_ne]; omega
      have hane2 : ((a : Int) == (s.size : Int)) = false := by rw [beq_eq_false_iff_ne]; omega
      go_wp2
      refine wp_loop_rounds 1 ?_
      rw [rounds_succ]
      go_wp2
      refine bodyPost_ret (v := .tuple #[.string ⟨#[]⟩, .int .i64 0, .bool false]) (by simp [results, Tryz.results33, go_sem]) rfl ⟨rfl, 0, rfl⟩
set_option maxRecDepth 1000000 in
set_option maxHeartbeats 1000000 in
theorem parts_n2b (s : ByteArray) (a : Nat) (w : World) (hs : s.size ≤ 1000000000) (ha : 0 < a) (hD : bt s a = 46) (hA : ∀ j, j < a → 48 ≤ bt s j ∧ bt s j ≤ 57) (hke : a + 1 < s.size) (hn : Hid (¬ (48 ≤ bt s (a + 1) ∧ bt s (a + 1) ≤ 57))) :
    Calls Tryz.prog 33 #[.string s] w fun e w' => e = .returned (.tuple #[.string ⟨#[]⟩, .int .i64 0, .bool false]) ∧ ∃ n, w' = w.drewN n := by
  have HG : Hid (∀ i (h : i < s.size), ((s[i]'h).toNat : Int) = bt s i) := get_bt s
  have HA : Hid (∀ j, j < a → 48 ≤ bt s j ∧ bt s j ≤ 57) := hA
  have HD : Hid (bt s a = 46) := hD
  clear hA hD
  go_enter Tryz.func33, Tryz.ntmps33
  go_wp2
  go_loop [5] (fun i => ∃ j : Nat, j ≤ a ∧ i = .int .i64 j) (fun i => a - (intOf i).toNat)
  case atStart => exact ⟨0, Nat.zero_le _, rfl⟩
  case round =>
    obtain ⟨j, hj, rfl⟩ := hrel
    by_cases hja : j < a
    · have hjs : j < s.size := by omega
      have hji : (j : Int) < (s.size : Int) := by omega
      have gj : ((s[j]'hjs).toNat : Int) = bt s j := HG.out j hjs
      obtain ⟨r1, r2⟩ := HA.out j hja
      generalize bt s j = c at *
      go_wp2
      go_round
      case rel => exact ⟨j + 1, by omega, by go_num⟩
      case measure => simp [intOf]; omega
    · obtain rfl : a = j := by omega
      clear hj hja
      have qk : a + 1 < s.size := by omega
      have q0 : (a : Int) + 1 < (s.size : Int) := by omega
      have gk : ((s[a + 1]'qk).toNat : Int) = bt s (a + 1) := HG.out (a + 1) qk
      have HN := hn.out
      clear hn
      generalize bt s (a + 1) = c at *
      have has : a < s.size := by omega
      have hai : (a : Int) < (s.size : Int) := by omega
      have ga : ((s[a]'has).toNat : Int) = 46 := (HG.out a has).trans HD.out
      have hane : ((a : Int) == 0) = false := by rw [beq_eq_false_iff_ne]; omega
      have hane2 : ((a : Int) == (s.size : Int)) = false := by rw [beq_eq_false_iff_ne]; omega
      go_wp2
      by_cases h48 : c < 48
      · clear HN
        refine wp_loop_rounds 1 ?_
        rw [rounds_succ]
        go_wp2
        refine bodyPost_ret (v := .tuple #[.string ⟨#[]⟩, .int .i64 0, .bool false]) (by simp [results, Tryz.results33, go_sem]) rfl ⟨rfl, 0, rfl⟩
      · have h57 : 57 < c := by omega
        clear HN
        refine wp_loop_rounds 1 ?_
        rw [rounds_succ]
        go_wp2
        refine bodyPost_ret (v := .tuple #[.string ⟨#[]⟩, .int .i64 0, .bool false]) (by simp [results, Tryz.results33, go_sem]) rfl ⟨rfl, 0, rfl⟩
end Go.Proofs.YtnljpbpphdhnpaaGreatDoor
