/- Values held against one another: Compare, for every two values. -/
import Derived.Test.YtplbclokoffgkaaGreatDoorTxM
namespace Go.Proofs.YtplbclokoffgkaaGreatDoor
open Go.RowKit Go.PlainAid Go.Lib

def b2i (b : Bool) : Int := if b then 1 else 0
theorem bit_any (b : Bool) (w : World) : Calls Tryz.prog 127 #[.bool b] w fun e w' => e = .returned (.int .u8 (b2i b)) ∧ w' = w := by
  cases b
  all_goals
    go_enter Tryz.func127, Tryz.ntmps127
    go_wp2
    go_ret
    exact ⟨rfl, rfl⟩
def cmpR (a b : Nat) : Int × Bool := if nanB a || nanB b then (0, false) else (cmpI (svalZ a) (svalZ b), true)
/-- two values of one kind -/
def likeV (a b : VD) : Int × Bool :=
  if a.kind = 1 then (cmpI (b2i a.bool) (b2i b.bool), true) else if a.kind = 2 then (cmpI a.int b.int, true) else if a.kind = 3 then cmpR a.real b.real
  else if a.kind = 4 then (cmpT a.text.toList b.text.toList, true) else (cmpL a.texts b.texts, true)

end Go.Proofs.YtplbclokoffgkaaGreatDoor


