/- SameTokens; TokensScans, walked. -/
import Derived.Test.YtmglbcldjhdhkaaTkRm
import Derived.Test.YtmglbcldjhdhkaaTkC2
import Derived.Test.YtmglbcldjhdhkaaTkAw
namespace Go.Proofs.Ytmglbcldjhdhkaa
open Go.RowKit Go.PlainAid

set_option maxRecDepth 1000000 in
set_option maxHeartbeats 1000000 in
theorem same_yes (v1 v2 : Value) (x : List TokD) (w : World) (h1 : Ts4 w v1 x) (h2 : Ts4 w v2 x) :
    Calls Try.prog 11 #[v1, v2] w fun e w' => e = .returned (.bool true) ∧ Keep [] w w' := by
  have HT1 : Hid (Ts4 w v1 x) := h1
  have HT2 : Hid (Ts4 w v2 x) := h2
  obtain ⟨a3, c3, rfl, q1, q2, -⟩ := h1.ex
  obtain ⟨a4, c4, rfl, -⟩ := h2.ex
  have hx63 : x.length ≤ 9223372036854775807 := by omega
  clear q1 q2 h1 h2
  go_enter Try.func11, Try.ntmps11
  go_wp2
  go_loopw [5] (fun z wr => ∃ (k : Nat), z = .int .i64 (k : Int) ∧ k ≤ x.length ∧ Hid (Keep [] w wr)) (fun z _ => x.length - (intOf z).toNat)
  case atStart => exact ⟨0, rfl, Nat.zero_le _, Keep.refl _ _⟩
  case round =>
    obtain ⟨k, rfl, hk, hI⟩ := hrel
    by_cases hlt : k < x.length
    · have hlti : (k : Int) < (x.length : Int) := by omega
      obtain ⟨-, b1, o1, rfl, c0, c1, c2, c3'⟩ := (HT1.out.keep hI.out (Off.nil _)).at k hlt
      obtain ⟨-, b2, o2, rfl, d0, d1, d2, d3⟩ := (HT2.out.keep hI.out (Off.nil _)).at k hlt
      have hK : Hid (Keep [] w wr) := hI.out
      generalize x[k].kind = tk at c0 d0
      generalize x[k].text = tt at c1 d1
      generalize x[k].line = tl at c2 d2
      generalize x[k].col = tc at c3' d3
      clear hI
      go_wp2
      go_quiet (fail)
      go_wp2
      go_roundw
      case rel => exact ⟨k + 1, by go_num, by omega, by first | exact hK.out.drewN _ | exact hK.out.drew | exact hK.out⟩
      case measure => simp [intOf]; omega
    · have hlti : ¬ (k : Int) < (x.length : Int) := by omega
      have hK := hI.out
      go_wp2
      go_ret
      exact ⟨rfl, hK⟩
end Go.Proofs.Ytmglbcldjhdhkaa
