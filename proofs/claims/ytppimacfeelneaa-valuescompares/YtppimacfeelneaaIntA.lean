/- Whole numbers as reals: the document's size and FromInt, the program's FromInt. -/
import Derived.Test.YtppimacfeelneaaNearW
import Derived.Test.YtppimacfeelneaaRefH
namespace Go.Proofs.Ytppimacfeelneaa
open Go.RowKit Go.PlainAid

theorem size_any (n : Int) (h1 : -9223372036854775808 ≤ n) (h2 : n ≤ 9223372036854775807) (w : World) : Calls Try.prog 83 #[.int .i64 n] w fun e w' => e = .returned (.int .u64 ((n.natAbs : Nat) : Int)) ∧ w' = w := by
  by_cases h : n < 0
  · have e : ((n.natAbs : Nat) : Int) = -(n + 1) + 1 := by omega
    rw [e]
    go_enter Try.func83, Try.ntmps83
    go_wp2
    go_ret
    refine ⟨?_, rfl⟩
    go_num
  · have e : ((n.natAbs : Nat) : Int) = n := by omega
    have h0 : 0 ≤ n := by omega
    rw [e]
    go_enter Try.func83, Try.ntmps83
    go_wp2
    go_ret
    exact ⟨rfl, rfl⟩

def fromI (n : Int) : Nat := if decide (n < 0) then rndR (n.natAbs * 2 ^ 149) + 2147483648 else rndR (n.natAbs * 2 ^ 149)

theorem fromI_float (n : Int) : floatOfInt .f32 n = fromI n := by
  have h1 : floatOfInt .f32 n = Ieee.single.nearest (decide (n < 0)) n.natAbs 0 := rfl
  have h2 := nearest_rnd (decide (n < 0)) n.natAbs 149
  rw [show (-149 : Int) + ((149 : Nat) : Int) = 0 from rfl] at h2
  rw [h1, h2]
  have e1 : Ieee.single.signWeight = 2147483648 := by decide
  unfold fromI
  generalize rndR (n.natAbs * 2 ^ 149) = r
  generalize decide (n < 0) = b
  unfold Ieee.Format.word
  rw [e1]
  cases b
  · rw [if_neg (by decide), if_neg (by decide)]
  · rw [if_pos rfl, if_pos rfl]; exact Nat.add_comm _ _

theorem fromI_lt (n : Int) : fromI n < 4294967296 := by
  have h := rndR_le (n.natAbs * 2 ^ 149)
  unfold fromI
  generalize rndR (n.natAbs * 2 ^ 149) = r at *
  split <;> omega

/-- Finite: no infinite one, no nan -/
def finB (x : Nat) : Bool := decide (rungN x < 2139095040)
end Go.Proofs.Ytppimacfeelneaa

