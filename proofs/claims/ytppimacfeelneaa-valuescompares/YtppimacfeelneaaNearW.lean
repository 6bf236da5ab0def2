/- The document's Nearest. -/
import Derived.Test.YtppimacfeelneaaNearM
import Derived.Test.YtppimacfeelneaaRefF
namespace Go.Proofs.Ytppimacfeelneaa
open Go.RowKit Go.PlainAid

theorem at_le (n : Nat) (h : n ≤ 2139095040) (w : World) : Calls Try.prog 79 #[.int .u32 (n : Int)] w fun e w' => e = .returned (.tuple #[.int .u64 (atM n : Nat), .int .i64 (atE n)]) ∧ w' = w := by
  by_cases h1 : n < 2139095040
  · exact at_any n h1 w
  · obtain rfl : n = 2139095040 := by omega
    have hM : ((atM 2139095040 : Nat) : Int) = 8388608 := by decide
    have hE : atE 2139095040 = 105 := by decide
    rw [hM, hE]
    go_enter Try.func79, Try.ntmps79
    go_wp2
    go_ret2
    exact ⟨rfl, rfl⟩
theorem at_bounds (n : Nat) (h : n ≤ 2139095040) : atM n < 16777216 ∧ -149 ≤ atE n ∧ atE n ≤ 105 := by
  unfold atM atE
  split <;> omega

/-- n is the float below A over B, or the last one -/
def LowB (A B n : Nat) : Prop := n ≤ 2139095040 ∧ valN n * B ≤ A * 2 ^ 149 ∧ (n = 2139095040 ∨ A * 2 ^ 149 < valN (n + 1) * B)
def nearB (A B n : Nat) : Nat := if n = 2139095040 then n else if upB (2 * (A * 2 ^ 149)) ((valN n + valN (n + 1)) * B) n = true then n + 1 else n

/-- how the halving stands -/
def Hal (A B lo hi : Nat) : Prop := lo < hi ∧ hi ≤ 2139095041 ∧ valN lo * B ≤ A * 2 ^ 149 ∧ (hi = 2139095041 ∨ A * 2 ^ 149 < valN hi * B)

end Go.Proofs.Ytppimacfeelneaa

