/- What the small functions of package ident answer, each for every input. -/
import Derived.Test.YtplbclokoffgkaaGreatDoorRows
import Derived.WalkKit
import Derived.WalkSpells
import Derived.WalkLawsBesides
import Derived.PlainAid
namespace Go.Proofs.YtplbclokoffgkaaGreatDoor
open Go.RowKit Go.PlainAid

def smallB (c : Int) : Bool := decide (97 ≤ c) && decide (c ≤ 122)
def digitB (c : Int) : Bool := decide (48 ≤ c) && decide (c ≤ 57)
def upperB (c : Int) : Bool := decide (65 ≤ c) && decide (c ≤ 90)
def letterB (c : Int) : Bool := smallB c || upperB c
def inNameB (c : Int) : Bool := smallB c || digitB c || c == 95
def signB (c : Int) : Bool := c == 45 || c == 95 || c == 46 || c == 61 || c == 43 || c == 47 || c == 124 || c == 126
def inIdB (c : Int) : Bool := signB c || letterB c || digitB c
def resL (l : List UInt8) : Bool :=
  l == [116, 121, 112, 101] || l == [114, 101, 108, 97, 116, 105, 111, 110] || l == [99, 111, 110, 100] || l == [111, 114] || l == [97, 110, 100] || l == [110, 111, 116] || l == [102, 114, 111, 109] || l == [119, 105, 116, 104] || l == [105, 110] || l == [116, 114, 117, 101] || l == [102, 97, 108, 115, 101] || l == [110, 97, 110] || l == [105, 110, 102]

set_option maxHeartbeats 400000 in
theorem small_any (c : Int) (w : World) :
    Calls Tryz.prog 64 #[.int .u8 c] w fun e w' => e = .returned (.bool (smallB c)) ∧ w' = w := by
  by_cases h1 : 97 ≤ c <;> by_cases h2 : c ≤ 122
  all_goals
    have hb : smallB c = (decide (97 ≤ c) && decide (c ≤ 122)) := rfl
    simp only [h1, h2, decide_true, decide_false, Bool.and_true, Bool.and_false] at hb
    rw [hb]; clear hb
    go_enter Tryz.func64, Tryz.ntmps64
    go_wp2
    go_ret
    exact ⟨rfl, rfl⟩

set_option maxHeartbeats 400000 in
theorem digit_any (c : Int) (w : World) :
    Calls Tryz.prog 90 #[.int .u8 c] w fun e w' => e = .returned (.bool (digitB c)) ∧ w' = w := by
  by_cases h1 : 48 ≤ c <;> by_cases h2 : c ≤ 57
  all_goals
    have hb : digitB c = (decide (48 ≤ c) && decide (c ≤ 57)) := rfl
    simp only [h1, h2, decide_true, decide_false, Bool.and_true, Bool.and_false] at hb
    rw [hb]; clear hb
    go_enter Tryz.func90, Tryz.ntmps90
    go_wp2
    go_ret
    exact ⟨rfl, rfl⟩

set_option maxHeartbeats 400000 in
theorem inName_any (c : Int) (w : World) :
    Calls Tryz.prog 66 #[.int .u8 c] w fun e w' => e = .returned (.bool (inNameB c)) ∧ w' = w := by
  have hb : inNameB c = (smallB c || digitB c || c == 95) := rfl
  rw [hb]; clear hb
  cases hs : smallB c
  · cases hd : digitB c
    · cases hu : (c == 95)
      all_goals
        go_enter Tryz.func66, Tryz.ntmps66
        go_wp2_with (first | (go_at_call 64; refine (small_any _ _).mono ?_; rintro e w' ⟨rfl, rfl⟩) | (go_at_call 90; refine (digit_any _ _).mono ?_; rintro e w' ⟨rfl, rfl⟩))
        go_ret
        exact ⟨rfl, rfl⟩
    · go_enter Tryz.func66, Tryz.ntmps66
      go_wp2_with (first | (go_at_call 64; refine (small_any _ _).mono ?_; rintro e w' ⟨rfl, rfl⟩) | (go_at_call 90; refine (digit_any _ _).mono ?_; rintro e w' ⟨rfl, rfl⟩))
      go_ret
      exact ⟨rfl, rfl⟩
  · go_enter Tryz.func66, Tryz.ntmps66
    go_wp2_with (first | (go_at_call 64; refine (small_any _ _).mono ?_; rintro e w' ⟨rfl, rfl⟩) | (go_at_call 90; refine (digit_any _ _).mono ?_; rintro e w' ⟨rfl, rfl⟩))
    go_ret
    exact ⟨rfl, rfl⟩

set_option maxHeartbeats 400000 in
theorem res_any (s : ByteArray) (w : World) :
    Calls Tryz.prog 65 #[.string s] w fun e w' => e = .returned (.bool (resL s.toList)) ∧ w' = w := by
  go_enter Tryz.func65, Tryz.ntmps65
  go_wp2
  all_goals
    go_ret
    exact ⟨by simp_all [resL], rfl⟩
end Go.Proofs.YtplbclokoffgkaaGreatDoor




