/- Whole numbers as reals: the document's size and FromInt, the program's FromInt. -/
import Derived.Test.YtgpjmadleaiioaaGreatDoorNearW
import Derived.Test.YtgpjmadleaiioaaGreatDoorKeyP
namespace Go.Proofs.YtgpjmadleaiioaaGreatDoor
open Go.RowKit Go.PlainAid

theorem size_any (n : Int) (h1 : -9223372036854775808 ≤ n) (h2 : n ≤ 9223372036854775807) (w : World) : Calls Tryz.prog 40 #[.int .i64 n] w fun e w' => e = .returned (.int .u64 ((n.natAbs : Nat) : Int)) ∧ w' = w := by
  by_cases h : n < 0
  · have e : ((n.natAbs : Nat) : Int) = -(n + 1) + 1 := by omega
    rw [e]
    go_enter Tryz.func40, Tryz.ntmps40
    go_wp2
    go_ret
    refine ⟨?_, rfl⟩
    go_num
  · have e : ((n.natAbs : Nat) : Int) = n := by omega
    have h0 : 0 ≤ n := by omega
    rw [e]
    go_enter Tryz.func40, Tryz.ntmps40
    go_wp2
    go_ret
    exact ⟨rfl, rfl⟩

def fromI (n : Int) : Nat := if decide (n < 0) then rndR (n.natAbs * 2 ^ 149) + 2147483648 else rndR (n.natAbs * 2 ^ 149)

theorem fromI_float (n : Int) : floatOfInt .f32 n = fromI n := by
  have h1 : floatOfInt .f32 n = Ieee.single.nearest (decide (n < 0)) n.natAbs 0 := rfl
  have h2 := nearest_rnd (decide (n < 0)) n.natAbs 149
  rw [show (-149 : Int) + ((149 : Nat) : Int) = 0 from rfl] at h2
  rw [h1, h2]
  have e1 : Ieee.single.signWeight = 2147483648 := by decide
  unfold fromI
  generalize rndR (n.natAbs * 2 ^ 149) = r
  generalize decide (n < 0) = b
  unfold Ieee.Format.word
  rw [e1]
  cases b
  · rw [if_neg (by decide), if_neg (by decide)]
  · rw [if_pos rfl, if_pos rfl]; exact Nat.add_comm _ _

theorem fromI_lt (n : Int) : fromI n < 4294967296 := by
  have h := rndR_le (n.natAbs * 2 ^ 149)
  unfold fromI
  generalize rndR (n.natAbs * 2 ^ 149) = r at *
  split <;> omega

set_option maxRecDepth 1000000 in
theorem fromInt_any (n : Int) (w : World) : Calls Tryz.prog 18 #[.int .i64 n] w fun e w' => e = .returned (.float .f32 (fromI n)) ∧ w' = w := by
  have hc : ∀ w, (convert 2 22 (.int .i64 n)).run Tryz.prog w = .ok (.float .f32 (fromI n)) w := fun w => by
    rw [← fromI_float]; exact run_convert_int_float w 2 22 .i64 .f32 n (by kernel_rfl) Tryz.underlying22
  generalize fromI n = r at hc ⊢
  go_enter Tryz.func18, Tryz.ntmps18
  go_wp2
  go_ret
  exact ⟨rfl, rfl⟩

set_option maxRecDepth 1000000 in
set_option maxHeartbeats 800000 in
theorem rFromInt_any (n : Int) (h1 : -9223372036854775808 ≤ n) (h2 : n ≤ 9223372036854775807) (w : World) : Calls Tryz.prog 19 #[.int .i64 n] w fun e w' => e = .returned (.float .f32 (fromI n)) ∧ Keep [] w w' := by
  have hS := size_any n h1 h2
  have hF := float_any (decide (n < 0)) (rndR (n.natAbs * 2 ^ 149)) (rndR_le _)
  have hNb : n.natAbs < 18446744073709551616 := by omega
  have hfi : (if decide (n < 0) then rndR (n.natAbs * 2 ^ 149) + 2147483648 else rndR (n.natAbs * 2 ^ 149)) = fromI n := rfl
  rw [hfi] at hF
  generalize fromI n = R at *
  have hW : ∀ (fa fb : Value) (w : World), Big w fa n.natAbs 3 → Big w fb 1 1 → _ := fun fa fb w a b => nearest_whole fa fb n.natAbs 3 1 w a b (by omega) (by omega)
  generalize rndR (n.natAbs * 2 ^ 149) = r at *
  clear hfi
  generalize n.natAbs = m at *
  go_enter Tryz.func19, Tryz.ntmps19
  go_wp2_with fail
  refine (hS _).mono ?_
  rintro e9 w9 ⟨rfl, hw9⟩; obtain rfl := hw9.symm
  clear hw9
  go_wp2_with fail
  refine (number_big m hNb _).mono ?_
  rintro e9 w1 ⟨v1, rfl, hb1, hf1, hk1⟩
  obtain ⟨ao, na, ca, rfl⟩ := hb1.sl
  have HB : Hid (Big w1 (.slice ao na ca) m 3 ∧ Keep [] w w1) := ⟨hb1, hk1⟩
  clear hb1 hf1 hk1
  go_wp2_with fail
  refine (hW _ _ _ (HB.out.1.keep (Keep.alloc1 w1 _) (Off.nil _)) (Big.one w1)).mono ?_
  rintro e9 w2 ⟨rfl, hk2⟩
  have HK : Hid (Keep [] w w2) := (HB.out.2.alloc _).trans' hk2
  clear hk2 hW hS
  go_wp2_with fail
  refine (hF _).mono ?_
  rintro e9 w9 ⟨rfl, hw9⟩; obtain rfl := hw9.symm
  clear hw9
  go_wp2
  go_ret
  exact ⟨rfl, HK.out⟩

/-- Finite: no infinite one, no nan -/
def finB (x : Nat) : Bool := decide (rungN x < 2139095040)
end Go.Proofs.YtgpjmadleaiioaaGreatDoor
