/- What was lent is written over: nothing but its own block is another one. -/
import Derived.Test.YtcmembmaaebdeabLentW
namespace Go.Proofs.Ytcmembmaaebdeab
open Go.RowKit Go.PlainAid Go.Lib

theorem Row.set {w : World} {g cap : Nat} {l : List UInt8} (h : Row w (.slice (some ⟨g, 0, none⟩) l.length cap) l) (i : Nat) (y : UInt8) :
    Row (w.setCell ⟨g, i, none⟩ (.int .u8 (y.toNat : Int))) (.slice (some ⟨g, 0, none⟩) (l.set i y).length cap) (l.set i y) := by
  have h1 := (World.ownsRow.stored h i (.int .u8 (y.toNat : Int))).1
  have h2 : (bv l).set i (.int .u8 (y.toNat : Int)) = bv (l.set i y) := by simp [bv, List.map_set]
  rw [h2] at h1
  rw [List.length_set]
  show World.ownsRow _ _ _ _ _ (l.set i y).length _
  rw [List.length_set]
  exact h1

set_option maxRecDepth 1000000 in
set_option maxHeartbeats 6400000 in
theorem over_any (v : Value) (l : List UInt8) (w : World) (hL : Lent w v l) (hln : l.length ≤ 140737488355328) :
    Calls Try.prog 19 #[v] w fun e w' => e = .returned (.tuple #[]) ∧ Keep v.ownBlock.toList w w' := by
  obtain ⟨g, cp, rfl, hrow0⟩ := hL.ex
  have hlm : (l ++ marks 1 24).length = l.length + 24 := by simp [marks_len]
  have hcp : l.length + 24 ≤ cp ∧ cp ≤ 9223372036854775807 := by
    obtain ⟨ao', cap', he, h1, h2, _⟩ := hrow0.bs.ex
    simp [marks_len] at he h1
    obtain ⟨_, rfl⟩ := he
    simp only [maxLen] at h2
    omega
  have hc1 : (0 : Int) ≤ (l.length : Int) + 24 := by omega
  have hc2 : (l.length : Int) + 24 ≤ (cp : Int) := by omega
  have HR : Hid (∃ m : List UInt8, m.length = l.length + 24 ∧ Row w (.slice (some ⟨g, 0, none⟩) m.length cp) m) := ⟨_, hlm, by rw [hlm]; exact hrow0⟩
  clear hrow0 hL hlm
  go_enter Try.func19, Try.ntmps19
  go_wp2
  go_loopw [3] (fun iv wr => ∃ i : Nat, iv = .int .i64 (i : Int) ∧ i ≤ l.length + 24 ∧ (∃ m : List UInt8, m.length = l.length + 24 ∧ Row wr (.slice (some ⟨g, 0, none⟩) m.length cp) m) ∧ Keep [g] w wr) (fun iv _ => l.length + 24 - (intOf iv).toNat)
  case atStart => exact ⟨0, rfl, Nat.zero_le _, HR.out, Keep.refl _ _⟩
  case round =>
    obtain ⟨i, rfl, hi, ⟨m, hm, hrow⟩, hk⟩ := hrel
    clear HR
    by_cases hil : i < l.length + 24
    · have hili : (i : Int) < (l.length : Int) + 24 := by omega
      have hM := markByte_any 2 i (by omega) (by omega) wr
      have hci := World.ownsRow.cellAt hrow i (by omega)
      rw [bv_get m i (by omega)] at hci
      have hfr : wr.frozen? ⟨g, i, none⟩ = false := World.ownsRow.frozenAt hrow i
      have HS : Hid (Row (wr.setCell ⟨g, i, none⟩ (.int .u8 ((mkB 2 i).toNat : Int))) (.slice (some ⟨g, 0, none⟩) (m.set i (mkB 2 i)).length cp) (m.set i (mkB 2 i)) ∧ (m.set i (mkB 2 i)).length = l.length + 24) := ⟨hrow.set i _, by simp [hm]⟩
      have HK : Hid (Keep [g] w (wr.setCell ⟨g, i, none⟩ (.int .u8 ((mkB 2 i).toNat : Int)))) := hk.setCell (.inl (by simp)) _
      generalize m.set i (mkB 2 i) = m2 at HS
      generalize mkB 2 i = x at hM HS HK
      clear hrow hk
      go_wp2_with (first
        | (go_at_call 36; refine hM.mono ?_; rintro e9 w9 ⟨rfl, hw9⟩; obtain rfl := hw9.symm))
      go_roundw
      case rel => exact ⟨i + 1, by go_num, by omega, ⟨m2, HS.out.2, HS.out.1⟩, HK.out⟩
      case measure => simp [intOf]; omega
    · have hili : ¬ ((i : Int) < (l.length : Int) + 24) := by omega
      have HK : Hid (Keep [g] w wr) := hk
      clear hrow hk
      go_wp2
      go_end0
      exact ⟨rfl, HK.out⟩

end Go.Proofs.Ytcmembmaaebdeab

