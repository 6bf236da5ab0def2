/- The library's Cut at one byte; the program's allDigits. -/
import Derived.Test.YtnjbdaonmgadaaaGreatDoorPfD
namespace Go.Proofs.YtnjbdaonmgadaaaGreatDoor
open Go.RowKit Go.PlainAid

theorem index_at (s : ByteArray) (c : UInt8) (i : Int) (h : Lib.indexByte s.data.toList c = i) (w : World) : Calls Tryz.prog 69 #[.string s, .string ⟨#[c]⟩] w fun e w' => e = .returned (.int .i64 i) ∧ w' = w := by
  rw [← h]; exact Tryz.stringslite_Index_one s c w

set_option maxRecDepth 1000000 in
theorem icut_none (s : ByteArray) (c : UInt8) (h : Lib.indexByte s.data.toList c = -1) (w : World) : Calls Tryz.prog 49 #[.string s, .string ⟨#[c]⟩] w fun e w' => e = .returned (.tuple #[.string s, .string ⟨#[]⟩, .bool false]) ∧ w' = w := by
  have hI := index_at s c (-1) h
  go_enter Tryz.func49, Tryz.ntmps49
  go_wp2_with (first | (go_at_call 69; refine (hI _).mono ?_; rintro e9 w9 ⟨rfl, hw9⟩; obtain rfl := hw9.symm))
  go_ret3
  exact ⟨rfl, rfl⟩
theorem cut_none (s : ByteArray) (c : UInt8) (h : Lib.indexByte s.data.toList c = -1) (w : World) : Calls Tryz.prog 32 #[.string s, .string ⟨#[c]⟩] w fun e w' => e = .returned (.tuple #[.string s, .string ⟨#[]⟩, .bool false]) ∧ w' = w := by
  have hI := icut_none s c h
  go_enter Tryz.func32, Tryz.ntmps32
  go_wp2_with (first | (go_at_call 49; refine (hI _).mono ?_; rintro e9 w9 ⟨rfl, hw9⟩; obtain rfl := hw9.symm))
  go_ret3
  exact ⟨rfl, rfl⟩
set_option maxRecDepth 1000000 in
theorem icut_at (s : ByteArray) (c : UInt8) (i : Nat) (hi : i < s.size) (hs : s.size ≤ maxLen) (h : Lib.indexByte s.data.toList c = (i : Int)) (w : World) : Calls Tryz.prog 49 #[.string s, .string ⟨#[c]⟩] w fun e w' => e = .returned (.tuple #[.string (s.extract 0 i), .string (s.extract (i + 1) s.size), .bool true]) ∧ ∃ n, w' = w.drewN n := by
  have hI := index_at s c i h
  have hs' : s.size ≤ 9223372036854775807 := hs
  have h1 : (i : Int) < (s.size : Int) := by omega
  have h2 : (i : Int) + 1 ≤ (s.size : Int) := by omega
  go_enter Tryz.func49, Tryz.ntmps49
  go_wp2_with (first | (go_at_call 69; refine (hI _).mono ?_; rintro e9 w9 ⟨rfl, hw9⟩; obtain rfl := hw9.symm))
  go_quiet (fail)
  go_wp2
  go_ret3
  exact ⟨rfl, _, rfl⟩
theorem cut_at (s : ByteArray) (c : UInt8) (i : Nat) (hi : i < s.size) (hs : s.size ≤ maxLen) (h : Lib.indexByte s.data.toList c = (i : Int)) (w : World) : Calls Tryz.prog 32 #[.string s, .string ⟨#[c]⟩] w fun e w' => e = .returned (.tuple #[.string (s.extract 0 i), .string (s.extract (i + 1) s.size), .bool true]) ∧ ∃ n, w' = w.drewN n := by
  have hI := icut_at s c i hi hs h
  go_enter Tryz.func32, Tryz.ntmps32
  go_wp2_with (first | (go_at_call 49; refine (hI _).mono ?_; rintro e9 w9 ⟨rfl, n9, rfl⟩))
  go_ret3
  exact ⟨rfl, _, rfl⟩

set_option maxRecDepth 1000000 in
theorem allDigits_yes (s : ByteArray) (h0 : 0 < s.size) (hall : ∀ j, j < s.size → 48 ≤ bt s j ∧ bt s j ≤ 57) (hs : s.size ≤ maxLen) (w : World) : Calls Tryz.prog 33 #[.string s] w fun e w' => e = .returned (.bool true) ∧ w' = w := by
  have HG : Hid (∀ i (h : i < s.size), ((s[i]'h).toNat : Int) = bt s i) := get_bt s
  have HA : Hid (∀ j, j < s.size → 48 ≤ bt s j ∧ bt s j ≤ 57) := hall
  have hne : s.toList.isEmpty = false := by
    have hl : s.toList.length = s.size := by rw [ByteArray.toList_eq]; exact Array.length_toList
    cases he : s.toList with
    | nil => rw [he] at hl; simp at hl; omega
    | cons x l => rfl
  have hs' : s.size ≤ 9223372036854775807 := hs
  clear hall
  go_enter Tryz.func33, Tryz.ntmps33
  go_wp2
  go_loop [6] (fun i => ∃ k : Nat, k ≤ s.size ∧ i = .int .i64 k) (fun i => s.size - (intOf i).toNat)
  case atStart => exact ⟨0, Nat.zero_le _, rfl⟩
  case round =>
    obtain ⟨k, hk, rfl⟩ := hrel
    by_cases hlt : k < s.size
    · have hki : (k : Int) < (s.size : Int) := by omega
      have gk : ((s[k]'hlt).toNat : Int) = bt s k := HG.out k hlt
      obtain ⟨r1, r2⟩ := HA.out k hlt
      generalize bt s k = c at *
      go_wp2
      go_round
      case rel => exact ⟨k + 1, by omega, by go_num⟩
      case measure => simp [intOf]; omega
    · go_wp2
      go_ret
      exact ⟨rfl, rfl⟩
theorem atMostFar_none (w : World) : Calls Tryz.prog 34 #[.string ⟨#[]⟩] w fun e w' => e = .returned (.int .i64 0) ∧ w' = w := by
  go_enter Tryz.func34, Tryz.ntmps34
  go_wp2
  go_rounds 1
  go_ret
  exact ⟨rfl, rfl⟩
end Go.Proofs.YtnjbdaonmgadaaaGreatDoor

