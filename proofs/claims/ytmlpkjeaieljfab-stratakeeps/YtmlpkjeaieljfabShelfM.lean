/- What the library's functions answer, laid at this program: a product in full width. -/
import Derived.Shelf.Bits.Mul64
import Derived.Test.YtmlpkjeaieljfabProg
namespace Go.Proofs
open Go.Shelf
def Try.mulBits_ren : Go.Shelf.Ren := ⟨fun | 212 => 68 | 263 => 91 | 264 => 92 | n => n, fun | 46 => 67 | 51 => 84 | 146 => 103 | 53 => 86 | 148 => 105 | n => n, fun | n => n⟩
theorem Try.mulBits : Go.Proofs.Lays.n212 Try.prog Try.mulBits_ren := {
  mixed := by kernel_rfl
  f212 := Try.func68.trans (congrArg some (by kernel_rfl))
  f263 := Try.func91.trans (congrArg some (by kernel_rfl))
  f264 := Try.func92.trans (congrArg some (by kernel_rfl))
  t46 := Try.underlying67
  a46 := Try.isAgg67
  z46 := Try.sizeOf67
  v46 := Try.zeroValue67
  t51 := Try.underlying84
  a51 := Try.isAgg84
  z51 := Try.sizeOf84
  v51 := Try.zeroValue84
  t53 := Try.underlying86
  a53 := Try.isAgg86
  z53 := Try.sizeOf86
  v53 := Try.zeroValue86
  t146 := Try.underlying103
  a146 := Try.isAgg103
  z146 := Try.sizeOf103
  v146 := Try.zeroValue103
  t148 := Try.underlying105
  a148 := Try.isAgg105
  z148 := Try.sizeOf105
  v148 := Try.zeroValue105 }
end Go.Proofs

