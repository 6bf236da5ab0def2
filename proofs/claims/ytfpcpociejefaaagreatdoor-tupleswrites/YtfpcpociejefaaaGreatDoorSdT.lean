/- The library's setDigits, of a number that ends in noughts. -/
import Derived.Test.YtfpcpociejefaaaGreatDoorShA
namespace Go.Proofs.YtfpcpociejefaaaGreatDoor
open Go.RowKit Go.PlainAid Go.Sort
set_option maxRecDepth 1000000 in
set_option maxHeartbeats 1000000 in
theorem setDigits_0 (b m u : Nat) (p : Int) (w : World) (hn2 : m + 0 + 1 ≤ 32) (hu : u < 10 ^ (m + 0 + 1)) (hu64 : u < 18446744073709551616) (_hz : ∀ i, i < 0 → u / 10 ^ i % 10 = 0) (h10 : u / 10 ^ 0 % 10 ≠ 0) (hp1 : -1000 ≤ p) (hp2 : p ≤ 1000)
  (hZ : ∀ j, j < 32 → w.cell? ⟨b, j, none⟩ = some (.int .u8 0) ∧ w.frozen? ⟨b, j, none⟩ = false) :
  Calls Tryz.prog 187 #[.slice (some ⟨b, 0, none⟩) 32 32, .int .u64 (u : Nat), .int .i64 p, .int .i64 ((m : Int) + 0 + 1)] w fun e w' =>
   e = .returned (.tuple #[.int .i64 ((m : Int) + 0 + 1 + p), .int .i64 ((m : Int) + 1)]) ∧ Keep [b] w w' ∧ (∀ j, j < m + 0 + 1 → w'.cell? ⟨b, j, none⟩ = some (.int .u8 ((Lib.dg u (m + 0 - j)).toNat : Int))) ∧ (∀ j, m + 0 + 1 ≤ j → j < 32 → w'.cell? ⟨b, j, none⟩ = some (.int .u8 0)) := by
 have hH : Holds encB w b 0 (Array.replicate (m + 0 + 1) (0 : UInt8)) := fun j hj => by
  have hj' : j < (m + 0 + 1) := by simpa using hj
  rw [Nat.zero_add]
  obtain ⟨z1, z2⟩ := hZ j (by omega)
  refine ⟨?_, z2⟩
  rw [z1, getElem!_pos _ j (by simpa using hj)]
  simp
 have hC := Tryz.internal_strconv_formatBase10 b 0 32 u (Array.replicate (m + 0 + 1) (0 : UInt8)) w hH (by simpa using hu) hu64 (by simp; omega)
 rw [Array.size_replicate] at hC
 have HZ : Hid (∀ j, j < 32 → w.cell? ⟨b, j, none⟩ = some (.int .u8 0) ∧ w.frozen? ⟨b, j, none⟩ = false) := hZ
 have HH : Hid (Holds encB w b 0 (Array.replicate (m + 0 + 1) (0 : UInt8))) := hH
 have HD10 : Hid ((∀ i, i < 0 → u / 10 ^ i % 10 = 0) ∧ u / 10 ^ 0 % 10 ≠ 0) := ⟨_hz, h10⟩
 clear hZ hH _hz h10
 have hndi : (m : Int) + 0 + 1 ≤ 32 := by omega
 go_enter Tryz.func187, Tryz.ntmps187
 go_wp2_with (first | (go_at_call 113; refine hC.mono ?_; rintro e9 w9 ⟨rfl, n9, v9, dk, hw9, hI⟩; have HW : Hid (w9 = (putRow encB w b 0 dk).drewN n9 ∧ Lib.FmtInv (m + 0 + 1) u 0 v9 dk) := ⟨hw9, hI⟩; clear hw9 hI))
 obtain ⟨hw9, hI⟩ := HW.out
 have hdone : ∀ j, j < m + 0 + 1 → w9.cell? ⟨b, j, none⟩ = some (.int .u8 ((Lib.dg u (m + 0 - j)).toNat : Int)) := by
  intro j hj
  have hsz : dk.size = (Array.replicate (m + 0 + 1) (0 : UInt8)).size := by rw [hI.size]; simp
  have := cell?_putRow encB w b 0 (Array.replicate (m + 0 + 1) (0 : UInt8)) dk HH.out hsz j (by rw [hI.size]; exact hj)
  rw [Nat.zero_add] at this
  rw [hw9]
  show (putRow encB w b 0 dk).cell? ⟨b, j, none⟩ = _
  rw [this, hI.done j (Nat.zero_le _) hj]
  rfl
 have hrest : ∀ j, m + 0 + 1 ≤ j → j < 32 → w9.cell? ⟨b, j, none⟩ = some (.int .u8 0) := by
  intro j h1 h2
  rw [hw9]
  show (putRow encB w b 0 dk).cell? ⟨b, j, none⟩ = _
  rw [cell?_putRow_other encB w b 0 dk ⟨b, j, none⟩ (.inr (.inr (by rw [hI.size]; simpa using h1)))]
  exact (HZ.out j h2).1
 have HK : Hid (Keep [b] w w9) := by rw [hw9]; exact putRow_keep w b 0 dk n9
 have hlast := hdone m (by omega)
 rw [show m + 0 - m = 0 by omega] at hlast
 have h48 : ((Lib.dg u 0).toNat : Int) ≠ 48 := by
  have := HD10.out.2
  unfold Lib.dg
  rw [UInt8.toNat_ofNat']
  omega
 generalize ((Lib.dg u 0).toNat : Int) = c at hlast h48
 have t1 : (c == 48) = false := by simpa using h48
 have HD : Hid ((∀ j, j < m + 0 + 1 → w9.cell? ⟨b, j, none⟩ = some (.int .u8 ((Lib.dg u (m + 0 - j)).toNat : Int))) ∧ ∀ j, m + 0 + 1 ≤ j → j < 32 → w9.cell? ⟨b, j, none⟩ = some (.int .u8 0)) := ⟨hdone, hrest⟩
 clear hdone hrest hw9 hI HW h48 HZ HH hC hu hu64 HD10
 refine wp_loop_rounds 1 ?_
 rw [rounds_succ]
 go_wp2
 go_ret2
 exact ⟨by first | (simp; done) | (simp; omega), HK.out, HD.out.1, HD.out.2⟩
set_option maxRecDepth 1000000 in
set_option maxHeartbeats 1000000 in
theorem setDigits_1 (b m u : Nat) (p : Int) (w : World) (hn2 : m + 1 + 1 ≤ 32) (hu : u < 10 ^ (m + 1 + 1)) (hu64 : u < 18446744073709551616) (hz : ∀ i, i < 1 → u / 10 ^ i % 10 = 0) (h10 : u / 10 ^ 1 % 10 ≠ 0) (hp1 : -1000 ≤ p) (hp2 : p ≤ 1000)
  (hZ : ∀ j, j < 32 → w.cell? ⟨b, j, none⟩ = some (.int .u8 0) ∧ w.frozen? ⟨b, j, none⟩ = false) :
  Calls Tryz.prog 187 #[.slice (some ⟨b, 0, none⟩) 32 32, .int .u64 (u : Nat), .int .i64 p, .int .i64 ((m : Int) + 1 + 1)] w fun e w' =>
   e = .returned (.tuple #[.int .i64 ((m : Int) + 1 + 1 + p), .int .i64 ((m : Int) + 1)]) ∧ Keep [b] w w' ∧ (∀ j, j < m + 1 + 1 → w'.cell? ⟨b, j, none⟩ = some (.int .u8 ((Lib.dg u (m + 1 - j)).toNat : Int))) ∧ (∀ j, m + 1 + 1 ≤ j → j < 32 → w'.cell? ⟨b, j, none⟩ = some (.int .u8 0)) := by
 have hH : Holds encB w b 0 (Array.replicate (m + 1 + 1) (0 : UInt8)) := fun j hj => by
  have hj' : j < (m + 1 + 1) := by simpa using hj
  rw [Nat.zero_add]
  obtain ⟨z1, z2⟩ := hZ j (by omega)
  refine ⟨?_, z2⟩
  rw [z1, getElem!_pos _ j (by simpa using hj)]
  simp
 have hC := Tryz.internal_strconv_formatBase10 b 0 32 u (Array.replicate (m + 1 + 1) (0 : UInt8)) w hH (by simpa using hu) hu64 (by simp; omega)
 rw [Array.size_replicate] at hC
 have HZ : Hid (∀ j, j < 32 → w.cell? ⟨b, j, none⟩ = some (.int .u8 0) ∧ w.frozen? ⟨b, j, none⟩ = false) := hZ
 have HH : Hid (Holds encB w b 0 (Array.replicate (m + 1 + 1) (0 : UInt8))) := hH
 have HD10 : Hid ((∀ i, i < 1 → u / 10 ^ i % 10 = 0) ∧ u / 10 ^ 1 % 10 ≠ 0) := ⟨hz, h10⟩
 clear hZ hH hz h10
 have hndi : (m : Int) + 1 + 1 ≤ 32 := by omega
 go_enter Tryz.func187, Tryz.ntmps187
 go_wp2_with (first | (go_at_call 113; refine hC.mono ?_; rintro e9 w9 ⟨rfl, n9, v9, dk, hw9, hI⟩; have HW : Hid (w9 = (putRow encB w b 0 dk).drewN n9 ∧ Lib.FmtInv (m + 1 + 1) u 0 v9 dk) := ⟨hw9, hI⟩; clear hw9 hI))
 obtain ⟨hw9, hI⟩ := HW.out
 have hdone : ∀ j, j < m + 1 + 1 → w9.cell? ⟨b, j, none⟩ = some (.int .u8 ((Lib.dg u (m + 1 - j)).toNat : Int)) := by
  intro j hj
  have hsz : dk.size = (Array.replicate (m + 1 + 1) (0 : UInt8)).size := by rw [hI.size]; simp
  have := cell?_putRow encB w b 0 (Array.replicate (m + 1 + 1) (0 : UInt8)) dk HH.out hsz j (by rw [hI.size]; exact hj)
  rw [Nat.zero_add] at this
  rw [hw9]
  show (putRow encB w b 0 dk).cell? ⟨b, j, none⟩ = _
  rw [this, hI.done j (Nat.zero_le _) hj]
  rfl
 have hrest : ∀ j, m + 1 + 1 ≤ j → j < 32 → w9.cell? ⟨b, j, none⟩ = some (.int .u8 0) := by
  intro j h1 h2
  rw [hw9]
  show (putRow encB w b 0 dk).cell? ⟨b, j, none⟩ = _
  rw [cell?_putRow_other encB w b 0 dk ⟨b, j, none⟩ (.inr (.inr (by rw [hI.size]; simpa using h1)))]
  exact (HZ.out j h2).1
 have HK : Hid (Keep [b] w w9) := by rw [hw9]; exact putRow_keep w b 0 dk n9
 have q0 : w9.cell? ⟨b, m + 1, none⟩ = some (.int .u8 48) := by
  rw [hdone (m + 1) (by omega), show m + 1 - (m + 1) = 0 by omega]
  have := HD10.out.1 0 (by decide)
  unfold Lib.dg
  rw [this]
  rfl
 have hlast := hdone m (by omega)
 rw [show m + 1 - m = 1 by omega] at hlast
 have h48 : ((Lib.dg u 1).toNat : Int) ≠ 48 := by
  have := HD10.out.2
  unfold Lib.dg
  rw [UInt8.toNat_ofNat']
  omega
 generalize ((Lib.dg u 1).toNat : Int) = c at hlast h48
 have t1 : (c == 48) = false := by simpa using h48
 have HD : Hid ((∀ j, j < m + 1 + 1 → w9.cell? ⟨b, j, none⟩ = some (.int .u8 ((Lib.dg u (m + 1 - j)).toNat : Int))) ∧ ∀ j, m + 1 + 1 ≤ j → j < 32 → w9.cell? ⟨b, j, none⟩ = some (.int .u8 0)) := ⟨hdone, hrest⟩
 clear hdone hrest hw9 hI HW h48 HZ HH hC hu hu64 HD10
 refine wp_loop_rounds 2 ?_
 rw [rounds_succ]
 go_wp2
 rw [rounds_succ]
 go_wp2
 go_ret2
 exact ⟨by first | (simp; done) | (simp; omega), HK.out, HD.out.1, HD.out.2⟩
set_option maxRecDepth 1000000 in
set_option maxHeartbeats 1000000 in
theorem setDigits_2 (b m u : Nat) (p : Int) (w : World) (hn2 : m + 2 + 1 ≤ 32) (hu : u < 10 ^ (m + 2 + 1)) (hu64 : u < 18446744073709551616) (hz : ∀ i, i < 2 → u / 10 ^ i % 10 = 0) (h10 : u / 10 ^ 2 % 10 ≠ 0) (hp1 : -1000 ≤ p) (hp2 : p ≤ 1000)
  (hZ : ∀ j, j < 32 → w.cell? ⟨b, j, none⟩ = some (.int .u8 0) ∧ w.frozen? ⟨b, j, none⟩ = false) :
  Calls Tryz.prog 187 #[.slice (some ⟨b, 0, none⟩) 32 32, .int .u64 (u : Nat), .int .i64 p, .int .i64 ((m : Int) + 2 + 1)] w fun e w' =>
   e = .returned (.tuple #[.int .i64 ((m : Int) + 2 + 1 + p), .int .i64 ((m : Int) + 1)]) ∧ Keep [b] w w' ∧ (∀ j, j < m + 2 + 1 → w'.cell? ⟨b, j, none⟩ = some (.int .u8 ((Lib.dg u (m + 2 - j)).toNat : Int))) ∧ (∀ j, m + 2 + 1 ≤ j → j < 32 → w'.cell? ⟨b, j, none⟩ = some (.int .u8 0)) := by
 have hH : Holds encB w b 0 (Array.replicate (m + 2 + 1) (0 : UInt8)) := fun j hj => by
  have hj' : j < (m + 2 + 1) := by simpa using hj
  rw [Nat.zero_add]
  obtain ⟨z1, z2⟩ := hZ j (by omega)
  refine ⟨?_, z2⟩
  rw [z1, getElem!_pos _ j (by simpa using hj)]
  simp
 have hC := Tryz.internal_strconv_formatBase10 b 0 32 u (Array.replicate (m + 2 + 1) (0 : UInt8)) w hH (by simpa using hu) hu64 (by simp; omega)
 rw [Array.size_replicate] at hC
 have HZ : Hid (∀ j, j < 32 → w.cell? ⟨b, j, none⟩ = some (.int .u8 0) ∧ w.frozen? ⟨b, j, none⟩ = false) := hZ
 have HH : Hid (Holds encB w b 0 (Array.replicate (m + 2 + 1) (0 : UInt8))) := hH
 have HD10 : Hid ((∀ i, i < 2 → u / 10 ^ i % 10 = 0) ∧ u / 10 ^ 2 % 10 ≠ 0) := ⟨hz, h10⟩
 clear hZ hH hz h10
 have hndi : (m : Int) + 2 + 1 ≤ 32 := by omega
 go_enter Tryz.func187, Tryz.ntmps187
 go_wp2_with (first | (go_at_call 113; refine hC.mono ?_; rintro e9 w9 ⟨rfl, n9, v9, dk, hw9, hI⟩; have HW : Hid (w9 = (putRow encB w b 0 dk).drewN n9 ∧ Lib.FmtInv (m + 2 + 1) u 0 v9 dk) := ⟨hw9, hI⟩; clear hw9 hI))
 obtain ⟨hw9, hI⟩ := HW.out
 have hdone : ∀ j, j < m + 2 + 1 → w9.cell? ⟨b, j, none⟩ = some (.int .u8 ((Lib.dg u (m + 2 - j)).toNat : Int)) := by
  intro j hj
  have hsz : dk.size = (Array.replicate (m + 2 + 1) (0 : UInt8)).size := by rw [hI.size]; simp
  have := cell?_putRow encB w b 0 (Array.replicate (m + 2 + 1) (0 : UInt8)) dk HH.out hsz j (by rw [hI.size]; exact hj)
  rw [Nat.zero_add] at this
  rw [hw9]
  show (putRow encB w b 0 dk).cell? ⟨b, j, none⟩ = _
  rw [this, hI.done j (Nat.zero_le _) hj]
  rfl
 have hrest : ∀ j, m + 2 + 1 ≤ j → j < 32 → w9.cell? ⟨b, j, none⟩ = some (.int .u8 0) := by
  intro j h1 h2
  rw [hw9]
  show (putRow encB w b 0 dk).cell? ⟨b, j, none⟩ = _
  rw [cell?_putRow_other encB w b 0 dk ⟨b, j, none⟩ (.inr (.inr (by rw [hI.size]; simpa using h1)))]
  exact (HZ.out j h2).1
 have HK : Hid (Keep [b] w w9) := by rw [hw9]; exact putRow_keep w b 0 dk n9
 have q0 : w9.cell? ⟨b, m + 2, none⟩ = some (.int .u8 48) := by
  rw [hdone (m + 2) (by omega), show m + 2 - (m + 2) = 0 by omega]
  have := HD10.out.1 0 (by decide)
  unfold Lib.dg
  rw [this]
  rfl
 have q1 : w9.cell? ⟨b, m + 1, none⟩ = some (.int .u8 48) := by
  rw [hdone (m + 1) (by omega), show m + 2 - (m + 1) = 1 by omega]
  have := HD10.out.1 1 (by decide)
  unfold Lib.dg
  rw [this]
  rfl
 have hlast := hdone m (by omega)
 rw [show m + 2 - m = 2 by omega] at hlast
 have h48 : ((Lib.dg u 2).toNat : Int) ≠ 48 := by
  have := HD10.out.2
  unfold Lib.dg
  rw [UInt8.toNat_ofNat']
  omega
 generalize ((Lib.dg u 2).toNat : Int) = c at hlast h48
 have t1 : (c == 48) = false := by simpa using h48
 have HD : Hid ((∀ j, j < m + 2 + 1 → w9.cell? ⟨b, j, none⟩ = some (.int .u8 ((Lib.dg u (m + 2 - j)).toNat : Int))) ∧ ∀ j, m + 2 + 1 ≤ j → j < 32 → w9.cell? ⟨b, j, none⟩ = some (.int .u8 0)) := ⟨hdone, hrest⟩
 clear hdone hrest hw9 hI HW h48 HZ HH hC hu hu64 HD10
 refine wp_loop_rounds 3 ?_
 rw [rounds_succ]
 go_wp2
 rw [rounds_succ]
 go_wp2
 rw [rounds_succ]
 go_wp2
 go_ret2
 exact ⟨by first | (simp; done) | (simp; omega), HK.out, HD.out.1, HD.out.2⟩
set_option maxRecDepth 1000000 in
set_option maxHeartbeats 1000000 in
theorem setDigits_3 (b m u : Nat) (p : Int) (w : World) (hn2 : m + 3 + 1 ≤ 32) (hu : u < 10 ^ (m + 3 + 1)) (hu64 : u < 18446744073709551616) (hz : ∀ i, i < 3 → u / 10 ^ i % 10 = 0) (h10 : u / 10 ^ 3 % 10 ≠ 0) (hp1 : -1000 ≤ p) (hp2 : p ≤ 1000)
  (hZ : ∀ j, j < 32 → w.cell? ⟨b, j, none⟩ = some (.int .u8 0) ∧ w.frozen? ⟨b, j, none⟩ = false) :
  Calls Tryz.prog 187 #[.slice (some ⟨b, 0, none⟩) 32 32, .int .u64 (u : Nat), .int .i64 p, .int .i64 ((m : Int) + 3 + 1)] w fun e w' =>
   e = .returned (.tuple #[.int .i64 ((m : Int) + 3 + 1 + p), .int .i64 ((m : Int) + 1)]) ∧ Keep [b] w w' ∧ (∀ j, j < m + 3 + 1 → w'.cell? ⟨b, j, none⟩ = some (.int .u8 ((Lib.dg u (m + 3 - j)).toNat : Int))) ∧ (∀ j, m + 3 + 1 ≤ j → j < 32 → w'.cell? ⟨b, j, none⟩ = some (.int .u8 0)) := by
 have hH : Holds encB w b 0 (Array.replicate (m + 3 + 1) (0 : UInt8)) := fun j hj => by
  have hj' : j < (m + 3 + 1) := by simpa using hj
  rw [Nat.zero_add]
  obtain ⟨z1, z2⟩ := hZ j (by omega)
  refine ⟨?_, z2⟩
  rw [z1, getElem!_pos _ j (by simpa using hj)]
  simp
 have hC := Tryz.internal_strconv_formatBase10 b 0 32 u (Array.replicate (m + 3 + 1) (0 : UInt8)) w hH (by simpa using hu) hu64 (by simp; omega)
 rw [Array.size_replicate] at hC
 have HZ : Hid (∀ j, j < 32 → w.cell? ⟨b, j, none⟩ = some (.int .u8 0) ∧ w.frozen? ⟨b, j, none⟩ = false) := hZ
 have HH : Hid (Holds encB w b 0 (Array.replicate (m + 3 + 1) (0 : UInt8))) := hH
 have HD10 : Hid ((∀ i, i < 3 → u / 10 ^ i % 10 = 0) ∧ u / 10 ^ 3 % 10 ≠ 0) := ⟨hz, h10⟩
 clear hZ hH hz h10
 have hndi : (m : Int) + 3 + 1 ≤ 32 := by omega
 go_enter Tryz.func187, Tryz.ntmps187
 go_wp2_with (first | (go_at_call 113; refine hC.mono ?_; rintro e9 w9 ⟨rfl, n9, v9, dk, hw9, hI⟩; have HW : Hid (w9 = (putRow encB w b 0 dk).drewN n9 ∧ Lib.FmtInv (m + 3 + 1) u 0 v9 dk) := ⟨hw9, hI⟩; clear hw9 hI))
 obtain ⟨hw9, hI⟩ := HW.out
 have hdone : ∀ j, j < m + 3 + 1 → w9.cell? ⟨b, j, none⟩ = some (.int .u8 ((Lib.dg u (m + 3 - j)).toNat : Int)) := by
  intro j hj
  have hsz : dk.size = (Array.replicate (m + 3 + 1) (0 : UInt8)).size := by rw [hI.size]; simp
  have := cell?_putRow encB w b 0 (Array.replicate (m + 3 + 1) (0 : UInt8)) dk HH.out hsz j (by rw [hI.size]; exact hj)
  rw [Nat.zero_add] at this
  rw [hw9]
  show (putRow encB w b 0 dk).cell? ⟨b, j, none⟩ = _
  rw [this, hI.done j (Nat.zero_le _) hj]
  rfl
 have hrest : ∀ j, m + 3 + 1 ≤ j → j < 32 → w9.cell? ⟨b, j, none⟩ = some (.int .u8 0) := by
  intro j h1 h2
  rw [hw9]
  show (putRow encB w b 0 dk).cell? ⟨b, j, none⟩ = _
  rw [cell?_putRow_other encB w b 0 dk ⟨b, j, none⟩ (.inr (.inr (by rw [hI.size]; simpa using h1)))]
  exact (HZ.out j h2).1
 have HK : Hid (Keep [b] w w9) := by rw [hw9]; exact putRow_keep w b 0 dk n9
 have q0 : w9.cell? ⟨b, m + 3, none⟩ = some (.int .u8 48) := by
  rw [hdone (m + 3) (by omega), show m + 3 - (m + 3) = 0 by omega]
  have := HD10.out.1 0 (by decide)
  unfold Lib.dg
  rw [this]
  rfl
 have q1 : w9.cell? ⟨b, m + 2, none⟩ = some (.int .u8 48) := by
  rw [hdone (m + 2) (by omega), show m + 3 - (m + 2) = 1 by omega]
  have := HD10.out.1 1 (by decide)
  unfold Lib.dg
  rw [this]
  rfl
 have q2 : w9.cell? ⟨b, m + 1, none⟩ = some (.int .u8 48) := by
  rw [hdone (m + 1) (by omega), show m + 3 - (m + 1) = 2 by omega]
  have := HD10.out.1 2 (by decide)
  unfold Lib.dg
  rw [this]
  rfl
 have hlast := hdone m (by omega)
 rw [show m + 3 - m = 3 by omega] at hlast
 have h48 : ((Lib.dg u 3).toNat : Int) ≠ 48 := by
  have := HD10.out.2
  unfold Lib.dg
  rw [UInt8.toNat_ofNat']
  omega
 generalize ((Lib.dg u 3).toNat : Int) = c at hlast h48
 have t1 : (c == 48) = false := by simpa using h48
 have HD : Hid ((∀ j, j < m + 3 + 1 → w9.cell? ⟨b, j, none⟩ = some (.int .u8 ((Lib.dg u (m + 3 - j)).toNat : Int))) ∧ ∀ j, m + 3 + 1 ≤ j → j < 32 → w9.cell? ⟨b, j, none⟩ = some (.int .u8 0)) := ⟨hdone, hrest⟩
 clear hdone hrest hw9 hI HW h48 HZ HH hC hu hu64 HD10
 refine wp_loop_rounds 4 ?_
 rw [rounds_succ]
 go_wp2
 rw [rounds_succ]
 go_wp2
 rw [rounds_succ]
 go_wp2
 rw [rounds_succ]
 go_wp2
 go_ret2
 exact ⟨by first | (simp; done) | (simp; omega), HK.out, HD.out.1, HD.out.2⟩
set_option maxRecDepth 1000000 in
set_option maxHeartbeats 1000000 in
theorem setDigits_4 (b m u : Nat) (p : Int) (w : World) (hn2 : m + 4 + 1 ≤ 32) (hu : u < 10 ^ (m + 4 + 1)) (hu64 : u < 18446744073709551616) (hz : ∀ i, i < 4 → u / 10 ^ i % 10 = 0) (h10 : u / 10 ^ 4 % 10 ≠ 0) (hp1 : -1000 ≤ p) (hp2 : p ≤ 1000)
  (hZ : ∀ j, j < 32 → w.cell? ⟨b, j, none⟩ = some (.int .u8 0) ∧ w.frozen? ⟨b, j, none⟩ = false) :
  Calls Tryz.prog 187 #[.slice (some ⟨b, 0, none⟩) 32 32, .int .u64 (u : Nat), .int .i64 p, .int .i64 ((m : Int) + 4 + 1)] w fun e w' =>
   e = .returned (.tuple #[.int .i64 ((m : Int) + 4 + 1 + p), .int .i64 ((m : Int) + 1)]) ∧ Keep [b] w w' ∧ (∀ j, j < m + 4 + 1 → w'.cell? ⟨b, j, none⟩ = some (.int .u8 ((Lib.dg u (m + 4 - j)).toNat : Int))) ∧ (∀ j, m + 4 + 1 ≤ j → j < 32 → w'.cell? ⟨b, j, none⟩ = some (.int .u8 0)) := by
 have hH : Holds encB w b 0 (Array.replicate (m + 4 + 1) (0 : UInt8)) := fun j hj => by
  have hj' : j < (m + 4 + 1) := by simpa using hj
  rw [Nat.zero_add]
  obtain ⟨z1, z2⟩ := hZ j (by omega)
  refine ⟨?_, z2⟩
  rw [z1, getElem!_pos _ j (by simpa using hj)]
  simp
 have hC := Tryz.internal_strconv_formatBase10 b 0 32 u (Array.replicate (m + 4 + 1) (0 : UInt8)) w hH (by simpa using hu) hu64 (by simp; omega)
 rw [Array.size_replicate] at hC
 have HZ : Hid (∀ j, j < 32 → w.cell? ⟨b, j, none⟩ = some (.int .u8 0) ∧ w.frozen? ⟨b, j, none⟩ = false) := hZ
 have HH : Hid (Holds encB w b 0 (Array.replicate (m + 4 + 1) (0 : UInt8))) := hH
 have HD10 : Hid ((∀ i, i < 4 → u / 10 ^ i % 10 = 0) ∧ u / 10 ^ 4 % 10 ≠ 0) := ⟨hz, h10⟩
 clear hZ hH hz h10
 have hndi : (m : Int) + 4 + 1 ≤ 32 := by omega
 go_enter Tryz.func187, Tryz.ntmps187
 go_wp2_with (first | (go_at_call 113; refine hC.mono ?_; rintro e9 w9 ⟨rfl, n9, v9, dk, hw9, hI⟩; have HW : Hid (w9 = (putRow encB w b 0 dk).drewN n9 ∧ Lib.FmtInv (m + 4 + 1) u 0 v9 dk) := ⟨hw9, hI⟩; clear hw9 hI))
 obtain ⟨hw9, hI⟩ := HW.out
 have hdone : ∀ j, j < m + 4 + 1 → w9.cell? ⟨b, j, none⟩ = some (.int .u8 ((Lib.dg u (m + 4 - j)).toNat : Int)) := by
  intro j hj
  have hsz : dk.size = (Array.replicate (m + 4 + 1) (0 : UInt8)).size := by rw [hI.size]; simp
  have := cell?_putRow encB w b 0 (Array.replicate (m + 4 + 1) (0 : UInt8)) dk HH.out hsz j (by rw [hI.size]; exact hj)
  rw [Nat.zero_add] at this
  rw [hw9]
  show (putRow encB w b 0 dk).cell? ⟨b, j, none⟩ = _
  rw [this, hI.done j (Nat.zero_le _) hj]
  rfl
 have hrest : ∀ j, m + 4 + 1 ≤ j → j < 32 → w9.cell? ⟨b, j, none⟩ = some (.int .u8 0) := by
  intro j h1 h2
  rw [hw9]
  show (putRow encB w b 0 dk).cell? ⟨b, j, none⟩ = _
  rw [cell?_putRow_other encB w b 0 dk ⟨b, j, none⟩ (.inr (.inr (by rw [hI.size]; simpa using h1)))]
  exact (HZ.out j h2).1
 have HK : Hid (Keep [b] w w9) := by rw [hw9]; exact putRow_keep w b 0 dk n9
 have q0 : w9.cell? ⟨b, m + 4, none⟩ = some (.int .u8 48) := by
  rw [hdone (m + 4) (by omega), show m + 4 - (m + 4) = 0 by omega]
  have := HD10.out.1 0 (by decide)
  unfold Lib.dg
  rw [this]
  rfl
 have q1 : w9.cell? ⟨b, m + 3, none⟩ = some (.int .u8 48) := by
  rw [hdone (m + 3) (by omega), show m + 4 - (m + 3) = 1 by omega]
  have := HD10.out.1 1 (by decide)
  unfold Lib.dg
  rw [this]
  rfl
 have q2 : w9.cell? ⟨b, m + 2, none⟩ = some (.int .u8 48) := by
  rw [hdone (m + 2) (by omega), show m + 4 - (m + 2) = 2 by omega]
  have := HD10.out.1 2 (by decide)
  unfold Lib.dg
  rw [this]
  rfl
 have q3 : w9.cell? ⟨b, m + 1, none⟩ = some (.int .u8 48) := by
  rw [hdone (m + 1) (by omega), show m + 4 - (m + 1) = 3 by omega]
  have := HD10.out.1 3 (by decide)
  unfold Lib.dg
  rw [this]
  rfl
 have hlast := hdone m (by omega)
 rw [show m + 4 - m = 4 by omega] at hlast
 have h48 : ((Lib.dg u 4).toNat : Int) ≠ 48 := by
  have := HD10.out.2
  unfold Lib.dg
  rw [UInt8.toNat_ofNat']
  omega
 generalize ((Lib.dg u 4).toNat : Int) = c at hlast h48
 have t1 : (c == 48) = false := by simpa using h48
 have HD : Hid ((∀ j, j < m + 4 + 1 → w9.cell? ⟨b, j, none⟩ = some (.int .u8 ((Lib.dg u (m + 4 - j)).toNat : Int))) ∧ ∀ j, m + 4 + 1 ≤ j → j < 32 → w9.cell? ⟨b, j, none⟩ = some (.int .u8 0)) := ⟨hdone, hrest⟩
 clear hdone hrest hw9 hI HW h48 HZ HH hC hu hu64 HD10
 refine wp_loop_rounds 5 ?_
 rw [rounds_succ]
 go_wp2
 rw [rounds_succ]
 go_wp2
 rw [rounds_succ]
 go_wp2
 rw [rounds_succ]
 go_wp2
 rw [rounds_succ]
 go_wp2
 go_ret2
 exact ⟨by first | (simp; done) | (simp; omega), HK.out, HD.out.1, HD.out.2⟩
set_option maxRecDepth 1000000 in
set_option maxHeartbeats 1000000 in
theorem setDigits_5 (b m u : Nat) (p : Int) (w : World) (hn2 : m + 5 + 1 ≤ 32) (hu : u < 10 ^ (m + 5 + 1)) (hu64 : u < 18446744073709551616) (hz : ∀ i, i < 5 → u / 10 ^ i % 10 = 0) (h10 : u / 10 ^ 5 % 10 ≠ 0) (hp1 : -1000 ≤ p) (hp2 : p ≤ 1000)
  (hZ : ∀ j, j < 32 → w.cell? ⟨b, j, none⟩ = some (.int .u8 0) ∧ w.frozen? ⟨b, j, none⟩ = false) :
  Calls Tryz.prog 187 #[.slice (some ⟨b, 0, none⟩) 32 32, .int .u64 (u : Nat), .int .i64 p, .int .i64 ((m : Int) + 5 + 1)] w fun e w' =>
   e = .returned (.tuple #[.int .i64 ((m : Int) + 5 + 1 + p), .int .i64 ((m : Int) + 1)]) ∧ Keep [b] w w' ∧ (∀ j, j < m + 5 + 1 → w'.cell? ⟨b, j, none⟩ = some (.int .u8 ((Lib.dg u (m + 5 - j)).toNat : Int))) ∧ (∀ j, m + 5 + 1 ≤ j → j < 32 → w'.cell? ⟨b, j, none⟩ = some (.int .u8 0)) := by
 have hH : Holds encB w b 0 (Array.replicate (m + 5 + 1) (0 : UInt8)) := fun j hj => by
  have hj' : j < (m + 5 + 1) := by simpa using hj
  rw [Nat.zero_add]
  obtain ⟨z1, z2⟩ := hZ j (by omega)
  refine ⟨?_, z2⟩
  rw [z1, getElem!_pos _ j (by simpa using hj)]
  simp
 have hC := Tryz.internal_strconv_formatBase10 b 0 32 u (Array.replicate (m + 5 + 1) (0 : UInt8)) w hH (by simpa using hu) hu64 (by simp; omega)
 rw [Array.size_replicate] at hC
 have HZ : Hid (∀ j, j < 32 → w.cell? ⟨b, j, none⟩ = some (.int .u8 0) ∧ w.frozen? ⟨b, j, none⟩ = false) := hZ
 have HH : Hid (Holds encB w b 0 (Array.replicate (m + 5 + 1) (0 : UInt8))) := hH
 have HD10 : Hid ((∀ i, i < 5 → u / 10 ^ i % 10 = 0) ∧ u / 10 ^ 5 % 10 ≠ 0) := ⟨hz, h10⟩
 clear hZ hH hz h10
 have hndi : (m : Int) + 5 + 1 ≤ 32 := by omega
 go_enter Tryz.func187, Tryz.ntmps187
 go_wp2_with (first | (go_at_call 113; refine hC.mono ?_; rintro e9 w9 ⟨rfl, n9, v9, dk, hw9, hI⟩; have HW : Hid (w9 = (putRow encB w b 0 dk).drewN n9 ∧ Lib.FmtInv (m + 5 + 1) u 0 v9 dk) := ⟨hw9, hI⟩; clear hw9 hI))
 obtain ⟨hw9, hI⟩ := HW.out
 have hdone : ∀ j, j < m + 5 + 1 → w9.cell? ⟨b, j, none⟩ = some (.int .u8 ((Lib.dg u (m + 5 - j)).toNat : Int)) := by
  intro j hj
  have hsz : dk.size = (Array.replicate (m + 5 + 1) (0 : UInt8)).size := by rw [hI.size]; simp
  have := cell?_putRow encB w b 0 (Array.replicate (m + 5 + 1) (0 : UInt8)) dk HH.out hsz j (by rw [hI.size]; exact hj)
  rw [Nat.zero_add] at this
  rw [hw9]
  show (putRow encB w b 0 dk).cell? ⟨b, j, none⟩ = _
  rw [this, hI.done j (Nat.zero_le _) hj]
  rfl
 have hrest : ∀ j, m + 5 + 1 ≤ j → j < 32 → w9.cell? ⟨b, j, none⟩ = some (.int .u8 0) := by
  intro j h1 h2
  rw [hw9]
  show (putRow encB w b 0 dk).cell? ⟨b, j, none⟩ = _
  rw [cell?_putRow_other encB w b 0 dk ⟨b, j, none⟩ (.inr (.inr (by rw [hI.size]; simpa using h1)))]
  exact (HZ.out j h2).1
 have HK : Hid (Keep [b] w w9) := by rw [hw9]; exact putRow_keep w b 0 dk n9
 have q0 : w9.cell? ⟨b, m + 5, none⟩ = some (.int .u8 48) := by
  rw [hdone (m + 5) (by omega), show m + 5 - (m + 5) = 0 by omega]
  have := HD10.out.1 0 (by decide)
  unfold Lib.dg
  rw [this]
  rfl
 have q1 : w9.cell? ⟨b, m + 4, none⟩ = some (.int .u8 48) := by
  rw [hdone (m + 4) (by omega), show m + 5 - (m + 4) = 1 by omega]
  have := HD10.out.1 1 (by decide)
  unfold Lib.dg
  rw [this]
  rfl
 have q2 : w9.cell? ⟨b, m + 3, none⟩ = some (.int .u8 48) := by
  rw [hdone (m + 3) (by omega), show m + 5 - (m + 3) = 2 by omega]
  have := HD10.out.1 2 (by decide)
  unfold Lib.dg
  rw [this]
  rfl
 have q3 : w9.cell? ⟨b, m + 2, none⟩ = some (.int .u8 48) := by
  rw [hdone (m + 2) (by omega), show m + 5 - (m + 2) = 3 by omega]
  have := HD10.out.1 3 (by decide)
  unfold Lib.dg
  rw [this]
  rfl
 have q4 : w9.cell? ⟨b, m + 1, none⟩ = some (.int .u8 48) := by
  rw [hdone (m + 1) (by omega), show m + 5 - (m + 1) = 4 by omega]
  have := HD10.out.1 4 (by decide)
  unfold Lib.dg
  rw [this]
  rfl
 have hlast := hdone m (by omega)
 rw [show m + 5 - m = 5 by omega] at hlast
 have h48 : ((Lib.dg u 5).toNat : Int) ≠ 48 := by
  have := HD10.out.2
  unfold Lib.dg
  rw [UInt8.toNat_ofNat']
  omega
 generalize ((Lib.dg u 5).toNat : Int) = c at hlast h48
 have t1 : (c == 48) = false := by simpa using h48
 have HD : Hid ((∀ j, j < m + 5 + 1 → w9.cell? ⟨b, j, none⟩ = some (.int .u8 ((Lib.dg u (m + 5 - j)).toNat : Int))) ∧ ∀ j, m + 5 + 1 ≤ j → j < 32 → w9.cell? ⟨b, j, none⟩ = some (.int .u8 0)) := ⟨hdone, hrest⟩
 clear hdone hrest hw9 hI HW h48 HZ HH hC hu hu64 HD10
 refine wp_loop_rounds 6 ?_
 rw [rounds_succ]
 go_wp2
 rw [rounds_succ]
 go_wp2
 rw [rounds_succ]
 go_wp2
 rw [rounds_succ]
 go_wp2
 rw [rounds_succ]
 go_wp2
 rw [rounds_succ]
 go_wp2
 go_ret2
 exact ⟨by first | (simp; done) | (simp; omega), HK.out, HD.out.1, HD.out.2⟩
set_option maxRecDepth 1000000 in
set_option maxHeartbeats 1000000 in
theorem setDigits_6 (b m u : Nat) (p : Int) (w : World) (hn2 : m + 6 + 1 ≤ 32) (hu : u < 10 ^ (m + 6 + 1)) (hu64 : u < 18446744073709551616) (hz : ∀ i, i < 6 → u / 10 ^ i % 10 = 0) (h10 : u / 10 ^ 6 % 10 ≠ 0) (hp1 : -1000 ≤ p) (hp2 : p ≤ 1000)
  (hZ : ∀ j, j < 32 → w.cell? ⟨b, j, none⟩ = some (.int .u8 0) ∧ w.frozen? ⟨b, j, none⟩ = false) :
  Calls Tryz.prog 187 #[.slice (some ⟨b, 0, none⟩) 32 32, .int .u64 (u : Nat), .int .i64 p, .int .i64 ((m : Int) + 6 + 1)] w fun e w' =>
   e = .returned (.tuple #[.int .i64 ((m : Int) + 6 + 1 + p), .int .i64 ((m : Int) + 1)]) ∧ Keep [b] w w' ∧ (∀ j, j < m + 6 + 1 → w'.cell? ⟨b, j, none⟩ = some (.int .u8 ((Lib.dg u (m + 6 - j)).toNat : Int))) ∧ (∀ j, m + 6 + 1 ≤ j → j < 32 → w'.cell? ⟨b, j, none⟩ = some (.int .u8 0)) := by
 have hH : Holds encB w b 0 (Array.replicate (m + 6 + 1) (0 : UInt8)) := fun j hj => by
  have hj' : j < (m + 6 + 1) := by simpa using hj
  rw [Nat.zero_add]
  obtain ⟨z1, z2⟩ := hZ j (by omega)
  refine ⟨?_, z2⟩
  rw [z1, getElem!_pos _ j (by simpa using hj)]
  simp
 have hC := Tryz.internal_strconv_formatBase10 b 0 32 u (Array.replicate (m + 6 + 1) (0 : UInt8)) w hH (by simpa using hu) hu64 (by simp; omega)
 rw [Array.size_replicate] at hC
 have HZ : Hid (∀ j, j < 32 → w.cell? ⟨b, j, none⟩ = some (.int .u8 0) ∧ w.frozen? ⟨b, j, none⟩ = false) := hZ
 have HH : Hid (Holds encB w b 0 (Array.replicate (m + 6 + 1) (0 : UInt8))) := hH
 have HD10 : Hid ((∀ i, i < 6 → u / 10 ^ i % 10 = 0) ∧ u / 10 ^ 6 % 10 ≠ 0) := ⟨hz, h10⟩
 clear hZ hH hz h10
 have hndi : (m : Int) + 6 + 1 ≤ 32 := by omega
 go_enter Tryz.func187, Tryz.ntmps187
 go_wp2_with (first | (go_at_call 113; refine hC.mono ?_; rintro e9 w9 ⟨rfl, n9, v9, dk, hw9, hI⟩; have HW : Hid (w9 = (putRow encB w b 0 dk).drewN n9 ∧ Lib.FmtInv (m + 6 + 1) u 0 v9 dk) := ⟨hw9, hI⟩; clear hw9 hI))
 obtain ⟨hw9, hI⟩ := HW.out
 have hdone : ∀ j, j < m + 6 + 1 → w9.cell? ⟨b, j, none⟩ = some (.int .u8 ((Lib.dg u (m + 6 - j)).toNat : Int)) := by
  intro j hj
  have hsz : dk.size = (Array.replicate (m + 6 + 1) (0 : UInt8)).size := by rw [hI.size]; simp
  have := cell?_putRow encB w b 0 (Array.replicate (m + 6 + 1) (0 : UInt8)) dk HH.out hsz j (by rw [hI.size]; exact hj)
  rw [Nat.zero_add] at this
  rw [hw9]
  show (putRow encB w b 0 dk).cell? ⟨b, j, none⟩ = _
  rw [this, hI.done j (Nat.zero_le _) hj]
  rfl
 have hrest : ∀ j, m + 6 + 1 ≤ j → j < 32 → w9.cell? ⟨b, j, none⟩ = some (.int .u8 0) := by
  intro j h1 h2
  rw [hw9]
  show (putRow encB w b 0 dk).cell? ⟨b, j, none⟩ = _
  rw [cell?_putRow_other encB w b 0 dk ⟨b, j, none⟩ (.inr (.inr (by rw [hI.size]; simpa using h1)))]
  exact (HZ.out j h2).1
 have HK : Hid (Keep [b] w w9) := by rw [hw9]; exact putRow_keep w b 0 dk n9
 have q0 : w9.cell? ⟨b, m + 6, none⟩ = some (.int .u8 48) := by
  rw [hdone (m + 6) (by omega), show m + 6 - (m + 6) = 0 by omega]
  have := HD10.out.1 0 (by decide)
  unfold Lib.dg
  rw [this]
  rfl
 have q1 : w9.cell? ⟨b, m + 5, none⟩ = some (.int .u8 48) := by
  rw [hdone (m + 5) (by omega), show m + 6 - (m + 5) = 1 by omega]
  have := HD10.out.1 1 (by decide)
  unfold Lib.dg
  rw [this]
  rfl
 have q2 : w9.cell? ⟨b, m + 4, none⟩ = some (.int .u8 48) := by
  rw [hdone (m + 4) (by omega), show m + 6 - (m + 4) = 2 by omega]
  have := HD10.out.1 2 (by decide)
  unfold Lib.dg
  rw [this]
  rfl
 have q3 : w9.cell? ⟨b, m + 3, none⟩ = some (.int .u8 48) := by
  rw [hdone (m + 3) (by omega), show m + 6 - (m + 3) = 3 by omega]
  have := HD10.out.1 3 (by decide)
  unfold Lib.dg
  rw [this]
  rfl
 have q4 : w9.cell? ⟨b, m + 2, none⟩ = some (.int .u8 48) := by
  rw [hdone (m + 2) (by omega), show m + 6 - (m + 2) = 4 by omega]
  have := HD10.out.1 4 (by decide)
  unfold Lib.dg
  rw [this]
  rfl
 have q5 : w9.cell? ⟨b, m + 1, none⟩ = some (.int .u8 48) := by
  rw [hdone (m + 1) (by omega), show m + 6 - (m + 1) = 5 by omega]
  have := HD10.out.1 5 (by decide)
  unfold Lib.dg
  rw [this]
  rfl
 have hlast := hdone m (by omega)
 rw [show m + 6 - m = 6 by omega] at hlast
 have h48 : ((Lib.dg u 6).toNat : Int) ≠ 48 := by
  have := HD10.out.2
  unfold Lib.dg
  rw [UInt8.toNat_ofNat']
  omega
 generalize ((Lib.dg u 6).toNat : Int) = c at hlast h48
 have t1 : (c == 48) = false := by simpa using h48
 have HD : Hid ((∀ j, j < m + 6 + 1 → w9.cell? ⟨b, j, none⟩ = some (.int .u8 ((Lib.dg u (m + 6 - j)).toNat : Int))) ∧ ∀ j, m + 6 + 1 ≤ j → j < 32 → w9.cell? ⟨b, j, none⟩ = some (.int .u8 0)) := ⟨hdone, hrest⟩
 clear hdone hrest hw9 hI HW h48 HZ HH hC hu hu64 HD10
 refine wp_loop_rounds 7 ?_
 rw [rounds_succ]
 go_wp2
 rw [rounds_succ]
 go_wp2
 rw [rounds_succ]
 go_wp2
 rw [rounds_succ]
 go_wp2
 rw [rounds_succ]
 go_wp2
 rw [rounds_succ]
 go_wp2
 rw [rounds_succ]
 go_wp2
 go_ret2
 exact ⟨by first | (simp; done) | (simp; omega), HK.out, HD.out.1, HD.out.2⟩
set_option maxRecDepth 1000000 in
set_option maxHeartbeats 1000000 in
theorem setDigits_7 (b m u : Nat) (p : Int) (w : World) (hn2 : m + 7 + 1 ≤ 32) (hu : u < 10 ^ (m + 7 + 1)) (hu64 : u < 18446744073709551616) (hz : ∀ i, i < 7 → u / 10 ^ i % 10 = 0) (h10 : u / 10 ^ 7 % 10 ≠ 0) (hp1 : -1000 ≤ p) (hp2 : p ≤ 1000)
  (hZ : ∀ j, j < 32 → w.cell? ⟨b, j, none⟩ = some (.int .u8 0) ∧ w.frozen? ⟨b, j, none⟩ = false) :
  Calls Tryz.prog 187 #[.slice (some ⟨b, 0, none⟩) 32 32, .int .u64 (u : Nat), .int .i64 p, .int .i64 ((m : Int) + 7 + 1)] w fun e w' =>
   e = .returned (.tuple #[.int .i64 ((m : Int) + 7 + 1 + p), .int .i64 ((m : Int) + 1)]) ∧ Keep [b] w w' ∧ (∀ j, j < m + 7 + 1 → w'.cell? ⟨b, j, none⟩ = some (.int .u8 ((Lib.dg u (m + 7 - j)).toNat : Int))) ∧ (∀ j, m + 7 + 1 ≤ j → j < 32 → w'.cell? ⟨b, j, none⟩ = some (.int .u8 0)) := by
 have hH : Holds encB w b 0 (Array.replicate (m + 7 + 1) (0 : UInt8)) := fun j hj => by
  have hj' : j < (m + 7 + 1) := by simpa using hj
  rw [Nat.zero_add]
  obtain ⟨z1, z2⟩ := hZ j (by omega)
  refine ⟨?_, z2⟩
  rw [z1, getElem!_pos _ j (by simpa using hj)]
  simp
 have hC := Tryz.internal_strconv_formatBase10 b 0 32 u (Array.replicate (m + 7 + 1) (0 : UInt8)) w hH (by simpa using hu) hu64 (by simp; omega)
 rw [Array.size_replicate] at hC
 have HZ : Hid (∀ j, j < 32 → w.cell? ⟨b, j, none⟩ = some (.int .u8 0) ∧ w.frozen? ⟨b, j, none⟩ = false) := hZ
 have HH : Hid (Holds encB w b 0 (Array.replicate (m + 7 + 1) (0 : UInt8))) := hH
 have HD10 : Hid ((∀ i, i < 7 → u / 10 ^ i % 10 = 0) ∧ u / 10 ^ 7 % 10 ≠ 0) := ⟨hz, h10⟩
 clear hZ hH hz h10
 have hndi : (m : Int) + 7 + 1 ≤ 32 := by omega
 go_enter Tryz.func187, Tryz.ntmps187
 go_wp2_with (first | (go_at_call 113; refine hC.mono ?_; rintro e9 w9 ⟨rfl, n9, v9, dk, hw9, hI⟩; have HW : Hid (w9 = (putRow encB w b 0 dk).drewN n9 ∧ Lib.FmtInv (m + 7 + 1) u 0 v9 dk) := ⟨hw9, hI⟩; clear hw9 hI))
 obtain ⟨hw9, hI⟩ := HW.out
 have hdone : ∀ j, j < m + 7 + 1 → w9.cell? ⟨b, j, none⟩ = some (.int .u8 ((Lib.dg u (m + 7 - j)).toNat : Int)) := by
  intro j hj
  have hsz : dk.size = (Array.replicate (m + 7 + 1) (0 : UInt8)).size := by rw [hI.size]; simp
  have := cell?_putRow encB w b 0 (Array.replicate (m + 7 + 1) (0 : UInt8)) dk HH.out hsz j (by rw [hI.size]; exact hj)
  rw [Nat.zero_add] at this
  rw [hw9]
  show (putRow encB w b 0 dk).cell? ⟨b, j, none⟩ = _
  rw [this, hI.done j (Nat.zero_le _) hj]
  rfl
 have hrest : ∀ j, m + 7 + 1 ≤ j → j < 32 → w9.cell? ⟨b, j, none⟩ = some (.int .u8 0) := by
  intro j h1 h2
  rw [hw9]
  show (putRow encB w b 0 dk).cell? ⟨b, j, none⟩ = _
  rw [cell?_putRow_other encB w b 0 dk ⟨b, j, none⟩ (.inr (.inr (by rw [hI.size]; simpa using h1)))]
  exact (HZ.out j h2).1
 have HK : Hid (Keep [b] w w9) := by rw [hw9]; exact putRow_keep w b 0 dk n9
 have q0 : w9.cell? ⟨b, m + 7, none⟩ = some (.int .u8 48) := by
  rw [hdone (m + 7) (by omega), show m + 7 - (m + 7) = 0 by omega]
  have := HD10.out.1 0 (by decide)
  unfold Lib.dg
  rw [this]
  rfl
 have q1 : w9.cell? ⟨b, m + 6, none⟩ = some (.int .u8 48) := by
  rw [hdone (m + 6) (by omega), show m + 7 - (m + 6) = 1 by omega]
  have := HD10.out.1 1 (by decide)
  unfold Lib.dg
  rw [this]
  rfl
 have q2 : w9.cell? ⟨b, m + 5, none⟩ = some (.int .u8 48) := by
  rw [hdone (m + 5) (by omega), show m + 7 - (m + 5) = 2 by omega]
  have := HD10.out.1 2 (by decide)
  unfold Lib.dg
  rw [this]
  rfl
 have q3 : w9.cell? ⟨b, m + 4, none⟩ = some (.int .u8 48) := by
  rw [hdone (m + 4) (by omega), show m + 7 - (m + 4) = 3 by omega]
  have := HD10.out.1 3 (by decide)
  unfold Lib.dg
  rw [this]
  rfl
 have q4 : w9.cell? ⟨b, m + 3, none⟩ = some (.int .u8 48) := by
  rw [hdone (m + 3) (by omega), show m + 7 - (m + 3) = 4 by omega]
  have := HD10.out.1 4 (by decide)
  unfold Lib.dg
  rw [this]
  rfl
 have q5 : w9.cell? ⟨b, m + 2, none⟩ = some (.int .u8 48) := by
  rw [hdone (m + 2) (by omega), show m + 7 - (m + 2) = 5 by omega]
  have := HD10.out.1 5 (by decide)
  unfold Lib.dg
  rw [this]
  rfl
 have q6 : w9.cell? ⟨b, m + 1, none⟩ = some (.int .u8 48) := by
  rw [hdone (m + 1) (by omega), show m + 7 - (m + 1) = 6 by omega]
  have := HD10.out.1 6 (by decide)
  unfold Lib.dg
  rw [this]
  rfl
 have hlast := hdone m (by omega)
 rw [show m + 7 - m = 7 by omega] at hlast
 have h48 : ((Lib.dg u 7).toNat : Int) ≠ 48 := by
  have := HD10.out.2
  unfold Lib.dg
  rw [UInt8.toNat_ofNat']
  omega
 generalize ((Lib.dg u 7).toNat : Int) = c at hlast h48
 have t1 : (c == 48) = false := by simpa using h48
 have HD : Hid ((∀ j, j < m + 7 + 1 → w9.cell? ⟨b, j, none⟩ = some (.int .u8 ((Lib.dg u (m + 7 - j)).toNat : Int))) ∧ ∀ j, m + 7 + 1 ≤ j → j < 32 → w9.cell? ⟨b, j, none⟩ = some (.int .u8 0)) := ⟨hdone, hrest⟩
 clear hdone hrest hw9 hI HW h48 HZ HH hC hu hu64 HD10
 refine wp_loop_rounds 8 ?_
 rw [rounds_succ]
 go_wp2
 rw [rounds_succ]
 go_wp2
 rw [rounds_succ]
 go_wp2
 rw [rounds_succ]
 go_wp2
 rw [rounds_succ]
 go_wp2
 rw [rounds_succ]
 go_wp2
 rw [rounds_succ]
 go_wp2
 rw [rounds_succ]
 go_wp2
 go_ret2
 exact ⟨by first | (simp; done) | (simp; omega), HK.out, HD.out.1, HD.out.2⟩
set_option maxRecDepth 1000000 in
set_option maxHeartbeats 1000000 in
theorem setDigits_8 (b m u : Nat) (p : Int) (w : World) (hn2 : m + 8 + 1 ≤ 32) (hu : u < 10 ^ (m + 8 + 1)) (hu64 : u < 18446744073709551616) (hz : ∀ i, i < 8 → u / 10 ^ i % 10 = 0) (h10 : u / 10 ^ 8 % 10 ≠ 0) (hp1 : -1000 ≤ p) (hp2 : p ≤ 1000)
  (hZ : ∀ j, j < 32 → w.cell? ⟨b, j, none⟩ = some (.int .u8 0) ∧ w.frozen? ⟨b, j, none⟩ = false) :
  Calls Tryz.prog 187 #[.slice (some ⟨b, 0, none⟩) 32 32, .int .u64 (u : Nat), .int .i64 p, .int .i64 ((m : Int) + 8 + 1)] w fun e w' =>
   e = .returned (.tuple #[.int .i64 ((m : Int) + 8 + 1 + p), .int .i64 ((m : Int) + 1)]) ∧ Keep [b] w w' ∧ (∀ j, j < m + 8 + 1 → w'.cell? ⟨b, j, none⟩ = some (.int .u8 ((Lib.dg u (m + 8 - j)).toNat : Int))) ∧ (∀ j, m + 8 + 1 ≤ j → j < 32 → w'.cell? ⟨b, j, none⟩ = some (.int .u8 0)) := by
 have hH : Holds encB w b 0 (Array.replicate (m + 8 + 1) (0 : UInt8)) := fun j hj => by
  have hj' : j < (m + 8 + 1) := by simpa using hj
  rw [Nat.zero_add]
  obtain ⟨z1, z2⟩ := hZ j (by omega)
  refine ⟨?_, z2⟩
  rw [z1, getElem!_pos _ j (by simpa using hj)]
  simp
 have hC := Tryz.internal_strconv_formatBase10 b 0 32 u (Array.replicate (m + 8 + 1) (0 : UInt8)) w hH (by simpa using hu) hu64 (by simp; omega)
 rw [Array.size_replicate] at hC
 have HZ : Hid (∀ j, j < 32 → w.cell? ⟨b, j, none⟩ = some (.int .u8 0) ∧ w.frozen? ⟨b, j, none⟩ = false) := hZ
 have HH : Hid (Holds encB w b 0 (Array.replicate (m + 8 + 1) (0 : UInt8))) := hH
 have HD10 : Hid ((∀ i, i < 8 → u / 10 ^ i % 10 = 0) ∧ u / 10 ^ 8 % 10 ≠ 0) := ⟨hz, h10⟩
 clear hZ hH hz h10
 have hndi : (m : Int) + 8 + 1 ≤ 32 := by omega
 go_enter Tryz.func187, Tryz.ntmps187
 go_wp2_with (first | (go_at_call 113; refine hC.mono ?_; rintro e9 w9 ⟨rfl, n9, v9, dk, hw9, hI⟩; have HW : Hid (w9 = (putRow encB w b 0 dk).drewN n9 ∧ Lib.FmtInv (m + 8 + 1) u 0 v9 dk) := ⟨hw9, hI⟩; clear hw9 hI))
 obtain ⟨hw9, hI⟩ := HW.out
 have hdone : ∀ j, j < m + 8 + 1 → w9.cell? ⟨b, j, none⟩ = some (.int .u8 ((Lib.dg u (m + 8 - j)).toNat : Int)) := by
  intro j hj
  have hsz : dk.size = (Array.replicate (m + 8 + 1) (0 : UInt8)).size := by rw [hI.size]; simp
  have := cell?_putRow encB w b 0 (Array.replicate (m + 8 + 1) (0 : UInt8)) dk HH.out hsz j (by rw [hI.size]; exact hj)
  rw [Nat.zero_add] at this
  rw [hw9]
  show (putRow encB w b 0 dk).cell? ⟨b, j, none⟩ = _
  rw [this, hI.done j (Nat.zero_le _) hj]
  rfl
 have hrest : ∀ j, m + 8 + 1 ≤ j → j < 32 → w9.cell? ⟨b, j, none⟩ = some (.int .u8 0) := by
  intro j h1 h2
  rw [hw9]
  show (putRow encB w b 0 dk).cell? ⟨b, j, none⟩ = _
  rw [cell?_putRow_other encB w b 0 dk ⟨b, j, none⟩ (.inr (.inr (by rw [hI.size]; simpa using h1)))]
  exact (HZ.out j h2).1
 have HK : Hid (Keep [b] w w9) := by rw [hw9]; exact putRow_keep w b 0 dk n9
 have q0 : w9.cell? ⟨b, m + 8, none⟩ = some (.int .u8 48) := by
  rw [hdone (m + 8) (by omega), show m + 8 - (m + 8) = 0 by omega]
  have := HD10.out.1 0 (by decide)
  unfold Lib.dg
  rw [this]
  rfl
 have q1 : w9.cell? ⟨b, m + 7, none⟩ = some (.int .u8 48) := by
  rw [hdone (m + 7) (by omega), show m + 8 - (m + 7) = 1 by omega]
  have := HD10.out.1 1 (by decide)
  unfold Lib.dg
  rw [this]
  rfl
 have q2 : w9.cell? ⟨b, m + 6, none⟩ = some (.int .u8 48) := by
  rw [hdone (m + 6) (by omega), show m + 8 - (m + 6) = 2 by omega]
  have := HD10.out.1 2 (by decide)
  unfold Lib.dg
  rw [this]
  rfl
 have q3 : w9.cell? ⟨b, m + 5, none⟩ = some (.int .u8 48) := by
  rw [hdone (m + 5) (by omega), show m + 8 - (m + 5) = 3 by omega]
  have := HD10.out.1 3 (by decide)
  unfold Lib.dg
  rw [this]
  rfl
 have q4 : w9.cell? ⟨b, m + 4, none⟩ = some (.int .u8 48) := by
  rw [hdone (m + 4) (by omega), show m + 8 - (m + 4) = 4 by omega]
  have := HD10.out.1 4 (by decide)
  unfold Lib.dg
  rw [this]
  rfl
 have q5 : w9.cell? ⟨b, m + 3, none⟩ = some (.int .u8 48) := by
  rw [hdone (m + 3) (by omega), show m + 8 - (m + 3) = 5 by omega]
  have := HD10.out.1 5 (by decide)
  unfold Lib.dg
  rw [this]
  rfl
 have q6 : w9.cell? ⟨b, m + 2, none⟩ = some (.int .u8 48) := by
  rw [hdone (m + 2) (by omega), show m + 8 - (m + 2) = 6 by omega]
  have := HD10.out.1 6 (by decide)
  unfold Lib.dg
  rw [this]
  rfl
 have q7 : w9.cell? ⟨b, m + 1, none⟩ = some (.int .u8 48) := by
  rw [hdone (m + 1) (by omega), show m + 8 - (m + 1) = 7 by omega]
  have := HD10.out.1 7 (by decide)
  unfold Lib.dg
  rw [this]
  rfl
 have hlast := hdone m (by omega)
 rw [show m + 8 - m = 8 by omega] at hlast
 have h48 : ((Lib.dg u 8).toNat : Int) ≠ 48 := by
  have := HD10.out.2
  unfold Lib.dg
  rw [UInt8.toNat_ofNat']
  omega
 generalize ((Lib.dg u 8).toNat : Int) = c at hlast h48
 have t1 : (c == 48) = false := by simpa using h48
 have HD : Hid ((∀ j, j < m + 8 + 1 → w9.cell? ⟨b, j, none⟩ = some (.int .u8 ((Lib.dg u (m + 8 - j)).toNat : Int))) ∧ ∀ j, m + 8 + 1 ≤ j → j < 32 → w9.cell? ⟨b, j, none⟩ = some (.int .u8 0)) := ⟨hdone, hrest⟩
 clear hdone hrest hw9 hI HW h48 HZ HH hC hu hu64 HD10
 refine wp_loop_rounds 9 ?_
 rw [rounds_succ]
 go_wp2
 rw [rounds_succ]
 go_wp2
 rw [rounds_succ]
 go_wp2
 rw [rounds_succ]
 go_wp2
 rw [rounds_succ]
 go_wp2
 rw [rounds_succ]
 go_wp2
 rw [rounds_succ]
 go_wp2
 rw [rounds_succ]
 go_wp2
 rw [rounds_succ]
 go_wp2
 go_ret2
 exact ⟨by first | (simp; done) | (simp; omega), HK.out, HD.out.1, HD.out.2⟩
set_option maxRecDepth 1000000 in
set_option maxHeartbeats 1000000 in
theorem setDigits_9 (b m u : Nat) (p : Int) (w : World) (hn2 : m + 9 + 1 ≤ 32) (hu : u < 10 ^ (m + 9 + 1)) (hu64 : u < 18446744073709551616) (hz : ∀ i, i < 9 → u / 10 ^ i % 10 = 0) (h10 : u / 10 ^ 9 % 10 ≠ 0) (hp1 : -1000 ≤ p) (hp2 : p ≤ 1000)
  (hZ : ∀ j, j < 32 → w.cell? ⟨b, j, none⟩ = some (.int .u8 0) ∧ w.frozen? ⟨b, j, none⟩ = false) :
  Calls Tryz.prog 187 #[.slice (some ⟨b, 0, none⟩) 32 32, .int .u64 (u : Nat), .int .i64 p, .int .i64 ((m : Int) + 9 + 1)] w fun e w' =>
   e = .returned (.tuple #[.int .i64 ((m : Int) + 9 + 1 + p), .int .i64 ((m : Int) + 1)]) ∧ Keep [b] w w' ∧ (∀ j, j < m + 9 + 1 → w'.cell? ⟨b, j, none⟩ = some (.int .u8 ((Lib.dg u (m + 9 - j)).toNat : Int))) ∧ (∀ j, m + 9 + 1 ≤ j → j < 32 → w'.cell? ⟨b, j, none⟩ = some (.int .u8 0)) := by
 have hH : Holds encB w b 0 (Array.replicate (m + 9 + 1) (0 : UInt8)) := fun j hj => by
  have hj' : j < (m + 9 + 1) := by simpa using hj
  rw [Nat.zero_add]
  obtain ⟨z1, z2⟩ := hZ j (by omega)
  refine ⟨?_, z2⟩
  rw [z1, getElem!_pos _ j (by simpa using hj)]
  simp
 have hC := Tryz.internal_strconv_formatBase10 b 0 32 u (Array.replicate (m + 9 + 1) (0 : UInt8)) w hH (by simpa using hu) hu64 (by simp; omega)
 rw [Array.size_replicate] at hC
 have HZ : Hid (∀ j, j < 32 → w.cell? ⟨b, j, none⟩ = some (.int .u8 0) ∧ w.frozen? ⟨b, j, none⟩ = false) := hZ
 have HH : Hid (Holds encB w b 0 (Array.replicate (m + 9 + 1) (0 : UInt8))) := hH
 have HD10 : Hid ((∀ i, i < 9 → u / 10 ^ i % 10 = 0) ∧ u / 10 ^ 9 % 10 ≠ 0) := ⟨hz, h10⟩
 clear hZ hH hz h10
 have hndi : (m : Int) + 9 + 1 ≤ 32 := by omega
 go_enter Tryz.func187, Tryz.ntmps187
 go_wp2_with (first | (go_at_call 113; refine hC.mono ?_; rintro e9 w9 ⟨rfl, n9, v9, dk, hw9, hI⟩; have HW : Hid (w9 = (putRow encB w b 0 dk).drewN n9 ∧ Lib.FmtInv (m + 9 + 1) u 0 v9 dk) := ⟨hw9, hI⟩; clear hw9 hI))
 obtain ⟨hw9, hI⟩ := HW.out
 have hdone : ∀ j, j < m + 9 + 1 → w9.cell? ⟨b, j, none⟩ = some (.int .u8 ((Lib.dg u (m + 9 - j)).toNat : Int)) := by
  intro j hj
  have hsz : dk.size = (Array.replicate (m + 9 + 1) (0 : UInt8)).size := by rw [hI.size]; simp
  have := cell?_putRow encB w b 0 (Array.replicate (m + 9 + 1) (0 : UInt8)) dk HH.out hsz j (by rw [hI.size]; exact hj)
  rw [Nat.zero_add] at this
  rw [hw9]
  show (putRow encB w b 0 dk).cell? ⟨b, j, none⟩ = _
  rw [this, hI.done j (Nat.zero_le _) hj]
  rfl
 have hrest : ∀ j, m + 9 + 1 ≤ j → j < 32 → w9.cell? ⟨b, j, none⟩ = some (.int .u8 0) := by
  intro j h1 h2
  rw [hw9]
  show (putRow encB w b 0 dk).cell? ⟨b, j, none⟩ = _
  rw [cell?_putRow_other encB w b 0 dk ⟨b, j, none⟩ (.inr (.inr (by rw [hI.size]; simpa using h1)))]
  exact (HZ.out j h2).1
 have HK : Hid (Keep [b] w w9) := by rw [hw9]; exact putRow_keep w b 0 dk n9
 have q0 : w9.cell? ⟨b, m + 9, none⟩ = some (.int .u8 48) := by
  rw [hdone (m + 9) (by omega), show m + 9 - (m + 9) = 0 by omega]
  have := HD10.out.1 0 (by decide)
  unfold Lib.dg
  rw [this]
  rfl
 have q1 : w9.cell? ⟨b, m + 8, none⟩ = some (.int .u8 48) := by
  rw [hdone (m + 8) (by omega), show m + 9 - (m + 8) = 1 by omega]
  have := HD10.out.1 1 (by decide)
  unfold Lib.dg
  rw [this]
  rfl
 have q2 : w9.cell? ⟨b, m + 7, none⟩ = some (.int .u8 48) := by
  rw [hdone (m + 7) (by omega), show m + 9 - (m + 7) = 2 by omega]
  have := HD10.out.1 2 (by decide)
  unfold Lib.dg
  rw [this]
  rfl
 have q3 : w9.cell? ⟨b, m + 6, none⟩ = some (.int .u8 48) := by
  rw [hdone (m + 6) (by omega), show m + 9 - (m + 6) = 3 by omega]
  have := HD10.out.1 3 (by decide)
  unfold Lib.dg
  rw [this]
  rfl
 have q4 : w9.cell? ⟨b, m + 5, none⟩ = some (.int .u8 48) := by
  rw [hdone (m + 5) (by omega), show m + 9 - (m + 5) = 4 by omega]
  have := HD10.out.1 4 (by decide)
  unfold Lib.dg
  rw [this]
  rfl
 have q5 : w9.cell? ⟨b, m + 4, none⟩ = some (.int .u8 48) := by
  rw [hdone (m + 4) (by omega), show m + 9 - (m + 4) = 5 by omega]
  have := HD10.out.1 5 (by decide)
  unfold Lib.dg
  rw [this]
  rfl
 have q6 : w9.cell? ⟨b, m + 3, none⟩ = some (.int .u8 48) := by
  rw [hdone (m + 3) (by omega), show m + 9 - (m + 3) = 6 by omega]
  have := HD10.out.1 6 (by decide)
  unfold Lib.dg
  rw [this]
  rfl
 have q7 : w9.cell? ⟨b, m + 2, none⟩ = some (.int .u8 48) := by
  rw [hdone (m + 2) (by omega), show m + 9 - (m + 2) = 7 by omega]
  have := HD10.out.1 7 (by decide)
  unfold Lib.dg
  rw [this]
  rfl
 have q8 : w9.cell? ⟨b, m + 1, none⟩ = some (.int .u8 48) := by
  rw [hdone (m + 1) (by omega), show m + 9 - (m + 1) = 8 by omega]
  have := HD10.out.1 8 (by decide)
  unfold Lib.dg
  rw [this]
  rfl
 have hlast := hdone m (by omega)
 rw [show m + 9 - m = 9 by omega] at hlast
 have h48 : ((Lib.dg u 9).toNat : Int) ≠ 48 := by
  have := HD10.out.2
  unfold Lib.dg
  rw [UInt8.toNat_ofNat']
  omega
 generalize ((Lib.dg u 9).toNat : Int) = c at hlast h48
 have t1 : (c == 48) = false := by simpa using h48
 have HD : Hid ((∀ j, j < m + 9 + 1 → w9.cell? ⟨b, j, none⟩ = some (.int .u8 ((Lib.dg u (m + 9 - j)).toNat : Int))) ∧ ∀ j, m + 9 + 1 ≤ j → j < 32 → w9.cell? ⟨b, j, none⟩ = some (.int .u8 0)) := ⟨hdone, hrest⟩
 clear hdone hrest hw9 hI HW h48 HZ HH hC hu hu64 HD10
 refine wp_loop_rounds 10 ?_
 rw [rounds_succ]
 go_wp2
 rw [rounds_succ]
 go_wp2
 rw [rounds_succ]
 go_wp2
 rw [rounds_succ]
 go_wp2
 rw [rounds_succ]
 go_wp2
 rw [rounds_succ]
 go_wp2
 rw [rounds_succ]
 go_wp2
 rw [rounds_succ]
 go_wp2
 rw [rounds_succ]
 go_wp2
 rw [rounds_succ]
 go_wp2
 go_ret2
 exact ⟨by first | (simp; done) | (simp; omega), HK.out, HD.out.1, HD.out.2⟩
end Go.Proofs.YtfpcpociejefaaaGreatDoor
