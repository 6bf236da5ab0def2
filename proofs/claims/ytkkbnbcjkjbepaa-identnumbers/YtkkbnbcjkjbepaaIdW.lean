/- What Id of package ident answers, for every text. -/
import Derived.Test.YtkkbnbcjkjbepaaNameW
import Derived.Deep.QuietTactic
import Derived.BigQuiet
import Derived.Lib.Strings
namespace Go.Proofs.Ytkkbnbcjkjbepaa
open Go.RowKit Go.PlainAid

set_option maxHeartbeats 400000 in
theorem id_any (s : ByteArray) (w : World) :
    Calls Try.prog 5 #[.string s] w fun e w' => e = .returned (.bool (idL s.toList)) ∧ w' = w := by
  have hb := get_bt s
  have HL : Hid (idL s.toList = (decide (1 ≤ s.size) && decide (s.size ≤ 64) && s.toList.all (fun c => inIdB (c.toNat : Int)))) := by
    show _ = _
    rw [← toList_len]; rfl
  by_cases h0 : s.size = 0
  · have z0 : ((s.size : Int) == 0) = true := by simp [h0]
    go_enter Try.func5, Try.ntmps5
    go_wp2
    go_ret
    exact ⟨by rw [HL.out, h0]; rfl, rfl⟩
  have z0 : ((s.size : Int) == 0) = false := by simp [h0]
  by_cases h1 : 64 < s.size
  · have z1 : (64 : Int) < (s.size : Int) := by omega
    go_enter Try.func5, Try.ntmps5
    go_wp2
    go_ret
    exact ⟨by rw [HL.out]; simp; omega, rfl⟩
  have z1 : ¬ (64 : Int) < (s.size : Int) := by omega
  go_enter Try.func5, Try.ntmps5
  go_wp2
  go_loop [14] (fun i => ∃ k : Nat, k ≤ s.size ∧ i = .int .i64 k ∧ Hid (∀ j, j < k → inIdB (bt s j) = true)) (fun i => s.size - (intOf i).toNat)
  case atStart => exact ⟨0, Nat.zero_le _, rfl, fun j hj => absurd hj (Nat.not_lt_zero j)⟩
  case round =>
    obtain ⟨k, hk, rfl, hall⟩ := hrel
    by_cases hlt : k < s.size
    · cases hc : inIdB (bt s k)
      · go_wp2_with (go_at_call 9; refine (inId_any _ _).mono ?_; rintro e w' ⟨rfl, rfl⟩)
        go_ret
        exact ⟨by rw [HL.out, all_not inIdB s k hlt hc]; simp, rfl⟩
      · go_wp2_with (go_at_call 9; refine (inId_any _ _).mono ?_; rintro e w' ⟨rfl, rfl⟩)
        go_round
        case rel => exact ⟨k + 1, by omega, by go_num, fun j hj => (by
          by_cases e : j = k
          · rw [e]; exact hc
          · exact hall.out j (by omega))⟩
        case measure => simp [intOf]; omega
    · go_wp2
      go_ret
      exact ⟨by rw [HL.out, all_of inIdB s (fun j hj => hall.out j (by omega))]; simp; omega, rfl⟩

end Go.Proofs.Ytkkbnbcjkjbepaa
