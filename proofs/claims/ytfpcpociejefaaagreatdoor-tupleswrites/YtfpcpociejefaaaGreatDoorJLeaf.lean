/- What the small functions of package ident answer, each for every input. -/
import Derived.Test.YtfpcpociejefaaaGreatDoorRows
import Derived.WalkKit
import Derived.WalkSpells
import Derived.WalkLawsBesides
import Derived.PlainAid
import Derived.Test.YtfpcpociejefaaaGreatDoorRvA
import Derived.Deep.RegionHeld3

namespace Go.Proofs.YtfpcpociejefaaaGreatDoor
open Go.RowKit Go.PlainAid
def smallB (c : Int) : Bool := decide (97 ≤ c) && decide (c ≤ 122)
def digitB (c : Int) : Bool := decide (48 ≤ c) && decide (c ≤ 57)
def upperB (c : Int) : Bool := decide (65 ≤ c) && decide (c ≤ 90)
def letterB (c : Int) : Bool := smallB c || upperB c
def inNameB (c : Int) : Bool := smallB c || digitB c || c == 95
def signB (c : Int) : Bool := c == 45 || c == 95 || c == 46 || c == 61 || c == 43 || c == 47 || c == 124 || c == 126
def inIdB (c : Int) : Bool := signB c || letterB c || digitB c
def resL (l : List UInt8) : Bool :=
 l == [116, 121, 112, 101] || l == [114, 101, 108, 97, 116, 105, 111, 110] || l == [99, 111, 110, 100] || l == [111, 114] || l == [97, 110, 100] || l == [110, 111, 116] || l == [102, 114, 111, 109] || l == [119, 105, 116, 104] || l == [105, 110] || l == [116, 114, 117, 101] || l == [102, 97, 108, 115, 101] || l == [110, 97, 110] || l == [105, 110, 102]
set_option maxHeartbeats 400000 in
theorem small_any (c : Int) (w : World) :
  Calls Tryz.prog 56 #[.int .u8 c] w fun e w' => e = .returned (.bool (smallB c)) ∧ w' = w := by
 by_cases h1 : 97 ≤ c <;> by_cases h2 : c ≤ 122
 all_goals
  have hb : smallB c = (decide (97 ≤ c) && decide (c ≤ 122)) := rfl
  simp only [h1, h2, decide_true, decide_false, Bool.and_true, Bool.and_false] at hb
  rw [hb]; clear hb
  go_enter Tryz.func56, Tryz.ntmps56
  go_wp2
  go_ret
  exact ⟨rfl, rfl⟩
set_option maxHeartbeats 400000 in
theorem digit_any (c : Int) (w : World) :
  Calls Tryz.prog 84 #[.int .u8 c] w fun e w' => e = .returned (.bool (digitB c)) ∧ w' = w := by
 by_cases h1 : 48 ≤ c <;> by_cases h2 : c ≤ 57
 all_goals
  have hb : digitB c = (decide (48 ≤ c) && decide (c ≤ 57)) := rfl
  simp only [h1, h2, decide_true, decide_false, Bool.and_true, Bool.and_false] at hb
  rw [hb]; clear hb
  go_enter Tryz.func84, Tryz.ntmps84
  go_wp2
  go_ret
  exact ⟨rfl, rfl⟩
set_option maxHeartbeats 400000 in
theorem inName_any (c : Int) (w : World) :
  Calls Tryz.prog 58 #[.int .u8 c] w fun e w' => e = .returned (.bool (inNameB c)) ∧ w' = w := by
 have hb : inNameB c = (smallB c || digitB c || c == 95) := rfl
 rw [hb]; clear hb
 cases hs : smallB c
 ·cases hd : digitB c
  ·cases hu : (c == 95)
   all_goals
    go_enter Tryz.func58, Tryz.ntmps58
    go_wp2_with (first | (go_at_call 56; refine (small_any _ _).mono ?_; rintro e w' ⟨rfl, rfl⟩) | (go_at_call 84; refine (digit_any _ _).mono ?_; rintro e w' ⟨rfl, rfl⟩))
    go_ret
    exact ⟨rfl, rfl⟩
  ·go_enter Tryz.func58, Tryz.ntmps58
   go_wp2_with (first | (go_at_call 56; refine (small_any _ _).mono ?_; rintro e w' ⟨rfl, rfl⟩) | (go_at_call 84; refine (digit_any _ _).mono ?_; rintro e w' ⟨rfl, rfl⟩))
   go_ret
   exact ⟨rfl, rfl⟩
 ·go_enter Tryz.func58, Tryz.ntmps58
  go_wp2_with (first | (go_at_call 56; refine (small_any _ _).mono ?_; rintro e w' ⟨rfl, rfl⟩) | (go_at_call 84; refine (digit_any _ _).mono ?_; rintro e w' ⟨rfl, rfl⟩))
  go_ret
  exact ⟨rfl, rfl⟩
set_option maxHeartbeats 400000 in
theorem res_any (s : ByteArray) (w : World) :
  Calls Tryz.prog 57 #[.string s] w fun e w' => e = .returned (.bool (resL s.toList)) ∧ w' = w := by
 go_enter Tryz.func57, Tryz.ntmps57
 go_wp2
 all_goals
  go_ret
  exact ⟨by simp_all [resL], rfl⟩
end Go.Proofs.YtfpcpociejefaaaGreatDoor

/- What Name and Id of package ident answer, for every text. -/
namespace Go.Proofs.YtfpcpociejefaaaGreatDoor
open Go.RowKit Go.PlainAid
def hd (l : List UInt8) : Int := match l with
 | [] => 0
 | c :: _ => (c.toNat : Int)
def nameL (l : List UInt8) : Bool := decide (1 ≤ l.length) && decide (l.length ≤ 32) && smallB (hd l) && !resL l && l.all (fun c => inNameB (c.toNat : Int))
def idL (l : List UInt8) : Bool := decide (1 ≤ l.length) && decide (l.length ≤ 64) && l.all (fun c => inIdB (c.toNat : Int))
theorem bt_hd (s : ByteArray) : bt s 0 = hd s.toList := by
 cases e : s.toList with
 | nil => exact bt_end s (by rw [← toList_len, e]; exact Nat.le_refl 0)
 | cons c l =>
  have h : 0 < s.toList.length := by rw [e]; simp
  rw [bt_get s 0 h]; simp [e, hd]
theorem all_of (p : Int → Bool) (s : ByteArray) (h : ∀ j, j < s.size → p (bt s j) = true) : s.toList.all (fun c => p (c.toNat : Int)) = true := by
 rw [List.all_eq_true]
 intro c hc
 obtain ⟨j, hj, rfl⟩ := List.getElem_of_mem hc
 have := h j (by rw [← toList_len]; exact hj)
 rwa [bt_get s j hj] at this
theorem all_not (p : Int → Bool) (s : ByteArray) (j : Nat) (hj : j < s.size) (h : p (bt s j) = false) : s.toList.all (fun c => p (c.toNat : Int)) = false := by
 rw [List.all_eq_false]
 have hj' : j < s.toList.length := by rw [toList_len]; exact hj
 refine ⟨s.toList[j], List.getElem_mem hj', ?_⟩
 rw [bt_get s j hj'] at h
 simp [h]
set_option maxHeartbeats 400000 in
theorem name_any (s : ByteArray) (w : World) :
  Calls Tryz.prog 31 #[.string s] w fun e w' => e = .returned (.bool (nameL s.toList)) ∧ w' = w := by
 have hb := get_bt s
 have HL : Hid (nameL s.toList = (decide (1 ≤ s.size) && decide (s.size ≤ 32) && smallB (bt s 0) && !resL s.toList && s.toList.all (fun c => inNameB (c.toNat : Int)))) := by
  show _ = _
  rw [bt_hd, ← toList_len]; rfl
 by_cases h0 : s.size = 0
 ·have z0 : ((s.size : Int) == 0) = true := by simp [h0]
  go_enter Tryz.func31, Tryz.ntmps31
  go_wp2
  go_ret
  exact ⟨by rw [HL.out, h0]; rfl, rfl⟩
 have z0 : ((s.size : Int) == 0) = false := by simp [h0]
 by_cases h1 : 32 < s.size
 ·have z1 : (32 : Int) < (s.size : Int) := by omega
  go_enter Tryz.func31, Tryz.ntmps31
  go_wp2
  go_ret
  exact ⟨by rw [HL.out]; simp; omega, rfl⟩
 have z1 : ¬ (32 : Int) < (s.size : Int) := by omega
 cases h2 : smallB (bt s 0)
 ·go_enter Tryz.func31, Tryz.ntmps31
  go_wp2_with (go_at_call 56; refine (small_any _ _).mono ?_; rintro e w' ⟨rfl, rfl⟩)
  go_ret
  exact ⟨by rw [HL.out, h2]; simp, rfl⟩
 cases h3 : resL s.toList
 case true =>
  go_enter Tryz.func31, Tryz.ntmps31
  go_wp2_with (first | (go_at_call 56; refine (small_any _ _).mono ?_; rintro e w' ⟨rfl, rfl⟩) | (go_at_call 57; refine (res_any _ _).mono ?_; rintro e w' ⟨rfl, rfl⟩))
  go_ret
  exact ⟨by rw [HL.out, h3]; simp, rfl⟩
 go_enter Tryz.func31, Tryz.ntmps31
 go_wp2_with (first | (go_at_call 56; refine (small_any _ _).mono ?_; rintro e w' ⟨rfl, rfl⟩) | (go_at_call 57; refine (res_any _ _).mono ?_; rintro e w' ⟨rfl, rfl⟩))
 go_loop [24] (fun i => ∃ k : Nat, k ≤ s.size ∧ i = .int .i64 k ∧ Hid (∀ j, j < k → inNameB (bt s j) = true)) (fun i => s.size - (RowKit.intOf i).toNat)
 case atStart => exact ⟨0, Nat.zero_le _, rfl, fun j hj => absurd hj (Nat.not_lt_zero j)⟩
 case round =>
  obtain ⟨k, hk, rfl, hall⟩ := hrel
  by_cases hlt : k < s.size
  ·cases hc : inNameB (bt s k)
   ·go_wp2_with (go_at_call 58; refine (inName_any _ _).mono ?_; rintro e w' ⟨rfl, rfl⟩)
    go_ret
    exact ⟨by rw [HL.out, all_not inNameB s k hlt hc]; simp, rfl⟩
   ·go_wp2_with (go_at_call 58; refine (inName_any _ _).mono ?_; rintro e w' ⟨rfl, rfl⟩)
    go_round
    case rel => exact ⟨k + 1, by omega, by go_num, fun j hj => (by
     by_cases e : j = k
     ·rw [e]; exact hc
     ·exact hall.out j (by omega))⟩
    case measure => simp [RowKit.intOf]; omega
  ·go_wp2
   go_ret
   exact ⟨by rw [HL.out, h2, h3, all_of inNameB s (fun j hj => hall.out j (by omega))]; simp; omega, rfl⟩
end Go.Proofs.YtfpcpociejefaaaGreatDoor

/- Arguments: a list of them that may be is taken, one that is too long is refused; lists of texts that the law makes. -/
namespace Go.Proofs.YtfpcpociejefaaaGreatDoor
open Go.RowKit Go.PlainAid Go.Lib
def xs (n : Nat) : ByteArray := ⟨(List.replicate n 120).toArray⟩
/-- a row of one's own of n like texts reads as them -/
theorem RowC.texts {w : World} {v : Value} {n : Nat} {s : ByteArray} (h : RowC w 9 1 v n (List.replicate n (.string s))) (hs : s.size ≤ 9223372036854775807) : Ts w v (List.replicate n s) := by
 rcases h.cases with ⟨rfl, _, rfl⟩ | ⟨g, cap, rfl, h1, h2, _, h4, _⟩
 ·exact Ts.nil w
 ·refine ⟨some ⟨g, 0, none⟩, cap, by simp, by simpa using h1, h2, fun t ht => by rw [(List.mem_replicate.1 ht).2]; exact hs, fun _ => ⟨g, 0, rfl, fun j hj => ?_⟩⟩
  simp at hj
  rw [Nat.zero_add, h4 j (by omega)]
  simp [hj]
end Go.Proofs.YtfpcpociejefaaaGreatDoor

/- What the small functions of package ident answer, each for every input. -/
namespace Go.Proofs.YtfpcpociejefaaaGreatDoor
open Go.RowKit Go.PlainAid
set_option maxHeartbeats 400000 in
theorem letter_any (c : Int) (w : World) :
  Calls Tryz.prog 85 #[.int .u8 c] w fun e w' => e = .returned (.bool (letterB c)) ∧ w' = w := by
 cases hs : smallB c
 ·by_cases h1 : 65 ≤ c
  ·by_cases h2 : c ≤ 90
   all_goals
    go_enter Tryz.func85, Tryz.ntmps85
    go_wp2_with (go_at_call 56; refine (small_any _ _).mono ?_; rintro e w' ⟨rfl, rfl⟩)
    go_ret
    exact ⟨by simp_all [letterB, upperB], rfl⟩
  ·go_enter Tryz.func85, Tryz.ntmps85
   go_wp2_with (go_at_call 56; refine (small_any _ _).mono ?_; rintro e w' ⟨rfl, rfl⟩)
   go_ret
   exact ⟨by simp [letterB, upperB, hs]; omega, rfl⟩
 ·go_enter Tryz.func85, Tryz.ntmps85
  go_wp2_with (go_at_call 56; refine (small_any _ _).mono ?_; rintro e w' ⟨rfl, rfl⟩)
  go_ret
  exact ⟨by simp [letterB, hs], rfl⟩
set_option maxHeartbeats 400000 in
theorem inId_any (c : Int) (w : World) :
  Calls Tryz.prog 59 #[.int .u8 c] w fun e w' => e = .returned (.bool (inIdB c)) ∧ w' = w := by
 cases hs : letterB c
 ·cases hd : digitB c
  ·go_enter Tryz.func59, Tryz.ntmps59
   go_wp2_with (first | (go_at_call 85; refine (letter_any _ _).mono ?_; rintro e w' ⟨rfl, rfl⟩) | (go_at_call 84; refine (digit_any _ _).mono ?_; rintro e w' ⟨rfl, rfl⟩))
   all_goals
    go_ret
    exact ⟨by simp_all [inIdB, signB], rfl⟩
  ·go_enter Tryz.func59, Tryz.ntmps59
   go_wp2_with (first | (go_at_call 85; refine (letter_any _ _).mono ?_; rintro e w' ⟨rfl, rfl⟩) | (go_at_call 84; refine (digit_any _ _).mono ?_; rintro e w' ⟨rfl, rfl⟩))
   all_goals
    go_ret
    exact ⟨by simp_all [inIdB, signB], rfl⟩
 ·go_enter Tryz.func59, Tryz.ntmps59
  go_wp2_with (first | (go_at_call 85; refine (letter_any _ _).mono ?_; rintro e w' ⟨rfl, rfl⟩) | (go_at_call 84; refine (digit_any _ _).mono ?_; rintro e w' ⟨rfl, rfl⟩))
  all_goals
   go_ret
   exact ⟨by simp_all [inIdB, signB], rfl⟩
end Go.Proofs.YtfpcpociejefaaaGreatDoor
