/- What the library's functions answer, laid at this program: a product in full width. -/
import Derived.Shelf.Bits.Mul64
import Derived.Test.YtmlpkjeaieljfaaProg
namespace Go.Proofs
open Go.Shelf
def Try.mulBits_ren : Go.Shelf.Ren := ⟨fun | 212 => 85 | 263 => 108 | 264 => 109 | n => n, fun | 46 => 70 | 51 => 88 | 146 => 107 | 53 => 90 | 148 => 109 | n => n, fun | n => n⟩
theorem Try.mulBits : Go.Proofs.Lays.n212 Try.prog Try.mulBits_ren := {
  mixed := by kernel_rfl
  f212 := Try.func85.trans (congrArg some (by kernel_rfl))
  f263 := Try.func108.trans (congrArg some (by kernel_rfl))
  f264 := Try.func109.trans (congrArg some (by kernel_rfl))
  t46 := Try.underlying70
  a46 := Try.isAgg70
  z46 := Try.sizeOf70
  v46 := Try.zeroValue70
  t51 := Try.underlying88
  a51 := Try.isAgg88
  z51 := Try.sizeOf88
  v51 := Try.zeroValue88
  t53 := Try.underlying90
  a53 := Try.isAgg90
  z53 := Try.sizeOf90
  v53 := Try.zeroValue90
  t146 := Try.underlying107
  a146 := Try.isAgg107
  z146 := Try.sizeOf107
  v146 := Try.zeroValue107
  t148 := Try.underlying109
  a148 := Try.isAgg109
  z148 := Try.sizeOf109
  v148 := Try.zeroValue109 }
end Go.Proofs
