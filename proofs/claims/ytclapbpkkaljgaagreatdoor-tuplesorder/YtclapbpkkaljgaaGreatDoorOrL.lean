/- The walk of TuplesOrder, whole. -/
import Derived.Test.YtclapbpkkaljgaaGreatDoorOrL1
import Derived.Test.YtclapbpkkaljgaaGreatDoorOrL2
import Derived.Test.YtclapbpkkaljgaaGreatDoorOrL3
import Derived.Test.YtclapbpkkaljgaaGreatDoorOrL4
import Derived.Test.YtclapbpkkaljgaaGreatDoorOrL5
namespace Go.Proofs.YtclapbpkkaljgaaGreatDoor
open Go.RowKit Go.PlainAid

theorem order_law (x y z : K7) (u v t : Value) (l m p : List AD) (w : World) (hM : MaxL w) (hu : As w u l) (hv : As w v m) (ht : As w t p) :
    Calls Tryz.prog 3 #[x.tup u, y.tup v, z.tup t] w fun e w' => e = .returned (.bool true) ∧ Keep [] w w' := by
  have HF := ordF x y z
  have HB := ordB x y z
  have hk := HF.same.trans HB.same.symm
  rcases HF.range with h1 | h1 | h1 <;> rcases HB.range with h2 | h2 | h2
  · exact order_mm x y z u v t l m p w hM hu hv ht h1 h2
  · rw [h1, h2] at hk; exact absurd hk (by decide)
  · exact order_mp x y z u v t l m p w hM hu hv ht h1 h2
  · rw [h1, h2] at hk; exact absurd hk (by decide)
  · by_cases g2 : cmpK y z ≤ 0
    · obtain ⟨h3, h4⟩ := HF.go (by omega) g2
      by_cases h5 : cmpK x z = 0
      · exact order_zd x y z u v t l m p w hM hu hv ht h1 h2 ⟨(h4 h5).2, h5⟩
      · exact order_zc x y z u v t l m p w hM hu hv ht h1 h2 ⟨g2, by omega, by simpa using h5⟩
    · exact order_zb x y z u v t l m p w hM hu hv ht h1 h2 g2
  · rw [h1, h2] at hk; exact absurd hk (by decide)
  · exact order_pm x y z u v t l m p w hM hu hv ht h1 h2
  · rw [h1, h2] at hk; exact absurd hk (by decide)
  · exact order_pp x y z u v t l m p w hM hu hv ht h1 h2
end Go.Proofs.YtclapbpkkaljgaaGreatDoor
