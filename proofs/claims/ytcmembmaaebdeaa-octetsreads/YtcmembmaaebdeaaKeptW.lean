/- What was lent is as it was: KeptBytes says so. -/
import Derived.Test.YtcmembmaaebdeaaLentW
namespace Go.Proofs.Ytcmembmaaebdeaa
open Go.RowKit Go.PlainAid Go.Lib

set_option maxRecDepth 1000000 in
set_option maxHeartbeats 6400000 in
theorem kept_any (v u : Value) (l : List UInt8) (w : World) (hL : Lent w v l) (hu : Bs w u l) (hln : l.length ≤ 140737488355328) :
    Calls Try.prog 13 #[v, u] w fun e w' => e = .returned (.bool true) ∧ ∃ n, w' = w.drewN n := by
  obtain ⟨g, cp, rfl, hrow⟩ := hL.ex
  obtain ⟨ao, cu, hue, hlc, hcm, _, hex⟩ := hu.ex
  subst hue
  have hcp : l.length + 24 ≤ cp ∧ cp ≤ 9223372036854775807 := by
    obtain ⟨ao', cap', he, h1, h2, _⟩ := hrow.bs.ex
    simp [marks_len] at he h1
    obtain ⟨_, rfl⟩ := he
    simp only [maxLen] at h2
    omega
  have hlm : (l ++ marks 1 24).length = l.length + 24 := by simp [marks_len]
  have hcell : ∀ i, i < l.length + 24 → w.cell? ⟨g, i, none⟩ = some (.int .u8 (((l ++ marks 1 24).getD i 0).toNat : Int)) := by
    intro i hi
    have h1 : w.ownsRow 0 TB 1 (.slice (some ⟨g, 0, none⟩) (l.length + 24) cp) (l.length + 24) (bv (l ++ marks 1 24)) := by
      have := hrow
      unfold Row at this
      rw [hlm] at this
      exact this
    have := World.ownsRow.cellAt h1 i (by omega)
    rw [this, bv_get _ i (by rw [hlm]; exact hi), List.getD_eq_getElem?_getD, List.getElem?_eq_getElem (by rw [hlm]; exact hi)]
    rfl
  have g1 : ∀ i, i < l.length → (l ++ marks 1 24).getD i 0 = l.getD i 0 := by
    intro i hi
    rw [List.getD_eq_getElem?_getD, List.getD_eq_getElem?_getD, List.getElem?_append_left hi]
  have g2 : ∀ i, l.length ≤ i → i < l.length + 24 → (l ++ marks 1 24).getD i 0 = mkB 1 (i - l.length) := by
    intro i h1 h2
    have h3 : i - l.length < 24 := by omega
    rw [List.getD_eq_getElem?_getD, List.getElem?_append_right h1]
    simp [marks, h3]
  have hc1 : (0 : Int) ≤ (l.length : Int) + 24 := by omega
  have hc2 : (l.length : Int) + 24 ≤ (cp : Int) := by omega
  have HH : Hid ((∀ i, i < l.length + 24 → w.cell? ⟨g, i, none⟩ = some (.int .u8 (((l ++ marks 1 24).getD i 0).toNat : Int))) ∧ (∀ i, i < l.length → (l ++ marks 1 24).getD i 0 = l.getD i 0) ∧ (∀ i, l.length ≤ i → i < l.length + 24 → (l ++ marks 1 24).getD i 0 = mkB 1 (i - l.length))) := ⟨hcell, g1, g2⟩
  have HE : Hid (l ≠ [] → ∃ b o, ao = some ⟨b, o, none⟩ ∧ ∀ j, j < l.length → w.cell? ⟨b, o + j, none⟩ = some (.int .u8 ((l.getD j 0).toNat : Int))) := hex
  clear hcell g1 g2 hex hrow hu hL hlm
  go_enter Try.func13, Try.ntmps13
  go_wp2
  go_loopw [6] (fun iv wr => ∃ i n : Nat, iv = .int .i64 (i : Int) ∧ i ≤ l.length + 24 ∧ wr = w.drewN n) (fun iv _ => l.length + 24 - (intOf iv).toNat)
  case atStart => exact ⟨0, 0, rfl, Nat.zero_le _, rfl⟩
  case round =>
    obtain ⟨i, nn, rfl, hi, rfl⟩ := hrel
    by_cases hil : i < l.length + 24
    · have hci := HH.out.1 i hil
      have hili : (i : Int) < (l.length : Int) + 24 := by omega
      by_cases hin : i < l.length
      · obtain ⟨b, o, rfl, h3⟩ := HE.out (by intro hz; rw [hz] at hin; simp at hin)
        have hcu := h3 i hin
        rw [HH.out.2.1 i hin] at hci
        have hini : (i : Int) < (l.length : Int) := by omega
        have hge : decide (l.length ≤ i) = false := by simp; omega
        generalize (l.getD i 0).toNat = c at hci hcu
        clear h3
        go_wp2
        go_quiet (fail)
        go_wp2
        go_roundw
        case rel => exact ⟨i + 1, _, by go_num, by omega, rfl⟩
        case measure => simp [intOf]; omega
      · obtain ⟨j, rfl⟩ : ∃ j, i = l.length + j := ⟨i - l.length, by omega⟩
        have hj : j < 24 := by omega
        rw [HH.out.2.2 _ (by omega) hil, Nat.add_sub_cancel_left] at hci
        have hM : ∀ n, Calls Try.prog 43 #[.int .i64 1, .int .i64 (j : Int)] (w.drewN n) fun e w' => e = .returned (.int .u8 ((mkB 1 j).toNat : Int)) ∧ w' = w.drewN n := fun n => markByte_any 1 j (by omega) (by omega) (w.drewN n)
        generalize (mkB 1 j).toNat = c at hci hM
        have hsub : ((l.length + j : Nat) : Int) - (l.length : Int) = (j : Int) := by omega
        have hsub2 : (l.length : Int) + (j : Int) - (l.length : Int) = (j : Int) := by omega
        have g1 : decide (l.length + j < l.length) = false := by simp
        have g2 : decide (l.length ≤ l.length + j) = true := by simp
        have g5 : decide ((l.length : Int) + (j : Int) < (l.length : Int)) = false := by simp; omega
        have g4 : (l.length : Int) ≤ (l.length : Int) + (j : Int) := by omega
        have hjn : (0 : Int) ≤ (l.length : Int) + (j : Int) := by omega
        clear HH HE
        go_wp2
        go_quiet (first | (go_at_call 43; refine (hM _).mono ?_; rintro e9 w9 ⟨rfl, rfl⟩; exact ⟨rfl, _, rfl⟩))
        go_wp2
        go_roundw
        case rel => exact ⟨l.length + j + 1, _, by go_num, by omega, rfl⟩
        case measure => simp [intOf]; omega
    · have hili : ¬ ((i : Int) < (l.length : Int) + 24) := by omega
      go_wp2
      go_ret
      exact ⟨rfl, nn, rfl⟩

end Go.Proofs.Ytcmembmaaebdeaa
