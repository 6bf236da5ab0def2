/- The library's setDigits, of a number whose last digit is no nought. -/
import Derived.Test.YtnjbdaonmgadaaaGreatDoorFmE
namespace Go.Proofs.YtnjbdaonmgadaaaGreatDoor
open Go.RowKit Go.PlainAid Go.Sort

abbrev encB (b : UInt8) : Value := Value.int .u8 (b.toNat : Int)

theorem putRow_keep (w : World) (b off : Nat) (d : Array UInt8) (n : Nat) : Keep [b] w ((putRow encB w b off d).drewN n) := by
  refine ⟨rfl, rfl, rfl, ?_, fun k hk hn => ?_⟩
  · show w.heap.size ≤ (putRow encB w b off d).heap.size
    rw [size_putRow]; exact Nat.le_refl _
  · show (putRow encB w b off d).heap[k]? = w.heap[k]?
    have hne : ¬ b = k := by intro e; exact hn (by simp [e])
    simp [putRow, mapBlock, Array.getElem?_modify, hne]

set_option maxRecDepth 1000000 in
set_option maxHeartbeats 1000000 in
theorem setDigits_any (b nd u : Nat) (p : Int) (w : World) (hn1 : 1 ≤ nd) (hn2 : nd ≤ 32) (hu : u < 10 ^ nd) (hu64 : u < 18446744073709551616) (h10 : u % 10 ≠ 0) (hp1 : -1000 ≤ p) (hp2 : p ≤ 1000)
    (hZ : ∀ j, j < 32 → w.cell? ⟨b, j, none⟩ = some (.int .u8 0) ∧ w.frozen? ⟨b, j, none⟩ = false) :
    Calls Tryz.prog 134 #[.slice (some ⟨b, 0, none⟩) 32 32, .int .u64 (u : Nat), .int .i64 p, .int .i64 (nd : Nat)] w fun e w' =>
      e = .returned (.tuple #[.int .i64 ((nd : Int) + p), .int .i64 (nd : Nat)]) ∧ Keep [b] w w' ∧ (∀ j, j < nd → w'.cell? ⟨b, j, none⟩ = some (.int .u8 ((Lib.dg u (nd - 1 - j)).toNat : Int))) ∧ (∀ j, nd ≤ j → j < 32 → w'.cell? ⟨b, j, none⟩ = some (.int .u8 0)) := by
  have hH : Holds encB w b 0 (Array.replicate nd (0 : UInt8)) := fun j hj => by
    have hj' : j < nd := by simpa using hj
    rw [Nat.zero_add]
    obtain ⟨z1, z2⟩ := hZ j (by omega)
    refine ⟨?_, z2⟩
    rw [z1, getElem!_pos _ j (by simpa using hj)]
    simp
  have hC := Tryz.internal_strconv_formatBase10 b 0 32 u (Array.replicate nd (0 : UInt8)) w hH (by simpa using hu) hu64 (by simp; omega)
  rw [Array.size_replicate] at hC
  have HZ : Hid (∀ j, j < 32 → w.cell? ⟨b, j, none⟩ = some (.int .u8 0) ∧ w.frozen? ⟨b, j, none⟩ = false) := hZ
  have HH : Hid (Holds encB w b 0 (Array.replicate nd (0 : UInt8))) := hH
  clear hZ hH
  have hndi : (nd : Int) ≤ 32 := by omega
  go_enter Tryz.func134, Tryz.ntmps134
  go_wp2_with (first | (go_at_call 40; refine hC.mono ?_; rintro e9 w9 ⟨rfl, n9, v9, dk, hw9, hI⟩; have HW : Hid (w9 = (putRow encB w b 0 dk).drewN n9 ∧ Lib.FmtInv nd u 0 v9 dk) := ⟨hw9, hI⟩; clear hw9 hI))
  obtain ⟨hw9, hI⟩ := HW.out
  obtain ⟨m, rfl⟩ : ∃ m, nd = m + 1 := ⟨nd - 1, by omega⟩
  have hdone : ∀ j, j < m + 1 → w9.cell? ⟨b, j, none⟩ = some (.int .u8 ((Lib.dg u (m + 1 - 1 - j)).toNat : Int)) := by
    intro j hj
    have hsz : dk.size = (Array.replicate (m + 1) (0 : UInt8)).size := by rw [hI.size]; simp
    have := cell?_putRow encB w b 0 (Array.replicate (m + 1) (0 : UInt8)) dk HH.out hsz j (by rw [hI.size]; exact hj)
    rw [Nat.zero_add] at this
    rw [hw9]
    show (putRow encB w b 0 dk).cell? ⟨b, j, none⟩ = _
    rw [this, hI.done j (Nat.zero_le _) hj]
  have hrest : ∀ j, m + 1 ≤ j → j < 32 → w9.cell? ⟨b, j, none⟩ = some (.int .u8 0) := by
    intro j h1 h2
    rw [hw9]
    show (putRow encB w b 0 dk).cell? ⟨b, j, none⟩ = _
    rw [cell?_putRow_other encB w b 0 dk ⟨b, j, none⟩ (.inr (.inr (by rw [hI.size]; simpa using h1)))]
    exact (HZ.out j h2).1
  have HK : Hid (Keep [b] w w9) := by rw [hw9]; exact putRow_keep w b 0 dk n9
  have hlast := hdone m (by omega)
  have h48 : ((Lib.dg u (m + 1 - 1 - m)).toNat : Int) ≠ 48 := by
    rw [show m + 1 - 1 - m = 0 by omega]
    unfold Lib.dg
    rw [Nat.pow_zero, Nat.div_one, UInt8.toNat_ofNat']
    omega
  generalize ((Lib.dg u (m + 1 - 1 - m)).toNat : Int) = c at hlast h48
  have t1 : (c == 48) = false := by simpa using h48
  have HD : Hid ((∀ j, j < m + 1 → w9.cell? ⟨b, j, none⟩ = some (.int .u8 ((Lib.dg u (m + 1 - 1 - j)).toNat : Int))) ∧ ∀ j, m + 1 ≤ j → j < 32 → w9.cell? ⟨b, j, none⟩ = some (.int .u8 0)) := ⟨hdone, hrest⟩
  clear hdone hrest hw9 hI HW h48 HZ HH hC hu hu64 h10
  refine wp_loop_rounds 1 ?_
  rw [rounds_succ]
  go_wp2
  go_ret2
  exact ⟨by simp, HK.out, HD.out.1, HD.out.2⟩
end Go.Proofs.YtnjbdaonmgadaaaGreatDoor

