/- The document's machine: take. -/
import Derived.Test.YtmglbcldjhdhkabTkRc
namespace Go.Proofs.Ytmglbcldjhdhkab
open Go.RowKit Go.PlainAid

set_option maxRecDepth 1000000 in
set_option maxHeartbeats 4000000 in
theorem rtake_any (b : Nat) (s n : Int) (c : UInt8) (w : World) (h : Mb w b ⟨s, n⟩) (hs : 0 ≤ s ∧ s ≤ 15) (hn : 0 ≤ n ∧ n ≤ 40) :
    Calls Try.prog 34 #[.pointer (some ⟨b, 0, none⟩), .int .u8 (c.toNat : Int)] w fun e w' => e = .returned (.bool (takeM ⟨s, n⟩ c).isSome) ∧ Mk (takeM ⟨s, n⟩ c) b w w' := by
  obtain ⟨c0, c1, f0, f1⟩ := h.cells
  have hB : Hid (Calls Try.prog 42 #[.pointer (some ⟨b, 0, none⟩), .int .u8 (c.toNat : Int)] w fun e w' => e = .returned (.bool (begM c).isSome) ∧ Mk (begM c) b w w') := rbegin_any b ⟨s, n⟩ c w h
  have hW : Hid (∀ w, Calls Try.prog 43 #[.int .u8 (c.toNat : Int)] w fun e w' => e = .returned (.bool (inNameB (c.toNat : Int))) ∧ w' = w) := rwithin_any _
  have hT : Hid (s = 10 ∨ s = 11 ∨ s = 12 ∨ s = 13 → Calls Try.prog 44 #[.pointer (some ⟨b, 0, none⟩), .int .u8 (c.toNat : Int)] w fun e w' => e = .returned (.bool (txtM ⟨s, n⟩ c).isSome) ∧ Mk (txtM ⟨s, n⟩ c) b w w') := rtext_any b s n c w h
  have hG : Hid (s = 4 ∨ s = 5 ∨ s = 6 ∨ s = 7 ∨ s = 8 ∨ s = 9 → Calls Try.prog 45 #[.pointer (some ⟨b, 0, none⟩), .int .u8 (c.toNat : Int)] w fun e w' => e = .returned (.bool (digM ⟨s, n⟩ c).isSome) ∧ Mk (digM ⟨s, n⟩ c) b w w') := rdigits_any b s n c w h
  have e47 := eqc c 47
  have e10 := eqc c 10
  have e61 := eqc c 61
  change ((c.toNat : Int) == 47) = _ at e47
  change ((c.toNat : Int) == 10) = _ at e10
  change ((c.toNat : Int) == 61) = _ at e61
  have fin : Hid (∀ s', Mb (w.setCell ⟨b, 0, none⟩ (.int .i64 s')) b ⟨s', n⟩) := fun s' => h.set0 s'
  simp only at c0 c1
  have hcase : s = 0 ∨ s = 1 ∨ s = 2 ∨ s = 3 ∨ s = 14 ∨ s = 15 ∨ (s = 10 ∨ s = 11 ∨ s = 12 ∨ s = 13) ∨ (s = 4 ∨ s = 5 ∨ s = 6 ∨ s = 7 ∨ s = 8 ∨ s = 9) := by omega
  rcases hcase with rfl | rfl | rfl | rfl | rfl | rfl | hs1 | hs1
  · have hv : takeM ⟨0, n⟩ c = begM c := rfl
    rw [hv]
    go_enter Try.func34, Try.ntmps34
    go_wp2_with (go_at_call 42; refine (hB.out).mono ?_; rintro e w3 ⟨rfl, k3⟩)
    go_ret
    exact ⟨rfl, k3⟩
  · by_cases a47 : c = 47
    · have hv : takeM ⟨1, n⟩ c = some ⟨2, n⟩ := by rw [a47]; rfl
      rw [hv]
      rw [decide_eq_true a47] at e47
      clear a47 hv
      go_enter Try.func34, Try.ntmps34
      go_wp2
      go_ret
      exact ⟨rfl, Mk.some (fin.out 2) (k0 _ _ _ _)⟩
    · have hv : takeM ⟨1, n⟩ c = begM c := by unfold takeM; simp [a47]
      rw [hv]
      rw [decide_eq_false a47] at e47
      go_enter Try.func34, Try.ntmps34
      go_wp2_with (go_at_call 42; refine (hB.out).mono ?_; rintro e w3 ⟨rfl, k3⟩)
      go_ret
      exact ⟨rfl, k3⟩
  · by_cases a10 : c = 10
    · have hv : takeM ⟨2, n⟩ c = some ⟨0, n⟩ := by rw [a10]; rfl
      rw [hv]
      rw [decide_eq_true a10] at e10
      clear a10 hv
      go_enter Try.func34, Try.ntmps34
      go_wp2
      go_ret
      exact ⟨rfl, Mk.some (fin.out 0) (k0 _ _ _ _)⟩
    · have hv : takeM ⟨2, n⟩ c = some ⟨2, n⟩ := by unfold takeM; simp [a10]
      rw [hv]
      rw [decide_eq_false a10] at e10
      have hsame : Hid (Mk (some ⟨2, n⟩) b w w) := Mk.some h (Keep.refl _ _)
      go_enter Try.func34, Try.ntmps34
      go_wp2
      go_ret
      exact ⟨rfl, hsame.out⟩
  · cases hnm : inNameB (c.toNat : Int)
    · have hv : takeM ⟨3, n⟩ c = begM c := by unfold takeM; simp [nm, hnm]
      rw [hv]
      rw [hnm] at hW
      go_enter Try.func34, Try.ntmps34
      go_wp2_with (first | (go_at_call 43; refine (hW.out _).mono ?_; rintro e w' ⟨rfl, rfl⟩) | (go_at_call 42; refine (hB.out).mono ?_; rintro e w3 ⟨rfl, k3⟩))
      go_ret
      exact ⟨rfl, k3⟩
    · rw [hnm] at hW
      have h1 := h.set1 (n + 1)
      obtain ⟨d0, d1, g0, g1⟩ := h1.cells
      have H1 : Hid (Mb (w.setCell ⟨b, 1, none⟩ (.int .i64 (n + 1))) b ⟨3, n + 1⟩) := h1
      simp only at d0 d1
      clear h1
      by_cases h32 : n + 1 ≤ 32
      · have hv : takeM ⟨3, n⟩ c = some ⟨3, n + 1⟩ := by unfold takeM; simp [nm, hnm, h32]
        rw [hv]
        clear hv
        go_enter Try.func34, Try.ntmps34
        go_wp2_with (go_at_call 43; refine (hW.out _).mono ?_; rintro e w' ⟨rfl, rfl⟩)
        go_ret
        exact ⟨rfl, Mk.some H1.out (k0 _ _ _ _)⟩
      · have hv : takeM ⟨3, n⟩ c = none := by unfold takeM; simp [nm, hnm, h32]
        rw [hv]
        have h32d : decide (n + 1 ≤ 32) = false := by simp; omega
        clear hv
        go_enter Try.func34, Try.ntmps34
        go_wp2_with (go_at_call 43; refine (hW.out _).mono ?_; rintro e w' ⟨rfl, rfl⟩)
        go_ret
        exact ⟨rfl, Mk.none H1.out (k0 _ _ _ _)⟩
  · by_cases a61 : c = 61
    · have hv : takeM ⟨14, n⟩ c = some ⟨0, n⟩ := by rw [a61]; rfl
      rw [hv]
      rw [decide_eq_true a61] at e61
      clear a61 hv
      go_enter Try.func34, Try.ntmps34
      go_wp2
      go_ret
      exact ⟨rfl, Mk.some (fin.out 0) (k0 _ _ _ _)⟩
    · have hv : takeM ⟨14, n⟩ c = begM c := by unfold takeM; simp [a61]
      rw [hv]
      rw [decide_eq_false a61] at e61
      go_enter Try.func34, Try.ntmps34
      go_wp2_with (go_at_call 42; refine (hB.out).mono ?_; rintro e w3 ⟨rfl, k3⟩)
      go_ret
      exact ⟨rfl, k3⟩
  · by_cases a61 : c = 61
    · have hv : takeM ⟨15, n⟩ c = some ⟨0, n⟩ := by rw [a61]; rfl
      rw [hv]
      rw [decide_eq_true a61] at e61
      clear a61 hv
      go_enter Try.func34, Try.ntmps34
      go_wp2
      go_ret
      exact ⟨rfl, Mk.some (fin.out 0) (k0 _ _ _ _)⟩
    · have hv : takeM ⟨15, n⟩ c = none := by unfold takeM; simp [a61]
      rw [hv]
      rw [decide_eq_false a61] at e61
      go_enter Try.func34, Try.ntmps34
      go_wp2
      go_ret
      exact ⟨rfl, Mk.none (fin.out 0) (k0 _ _ _ _)⟩
  · have hv : takeM ⟨s, n⟩ c = txtM ⟨s, n⟩ c := by
      unfold takeM
      rw [if_neg (by simp; omega), if_neg (by simp; omega), if_neg (by simp; omega), if_neg (by simp; omega), if_neg (by simp; omega), if_neg (by simp; omega), if_pos hs1]
    rw [hv]
    have hT2 : Hid (Calls Try.prog 44 #[.pointer (some ⟨b, 0, none⟩), .int .u8 (c.toNat : Int)] w fun e w' => e = .returned (.bool (txtM ⟨s, n⟩ c).isSome) ∧ Mk (txtM ⟨s, n⟩ c) b w w') := hT.out hs1
    clear hv hT hG
    rcases hs1 with rfl | rfl | rfl | rfl
    all_goals
      go_enter Try.func34, Try.ntmps34
      go_wp2_with (go_at_call 44; refine (hT2.out).mono ?_; rintro e w3 ⟨rfl, k3⟩)
      go_ret
      exact ⟨rfl, k3⟩
  · have hv : takeM ⟨s, n⟩ c = digM ⟨s, n⟩ c := by
      unfold takeM
      rw [if_neg (by simp; omega), if_neg (by simp; omega), if_neg (by simp; omega), if_neg (by simp; omega), if_neg (by simp; omega), if_neg (by simp; omega), if_neg (by simp; omega)]
    rw [hv]
    have hT2 : Hid (Calls Try.prog 45 #[.pointer (some ⟨b, 0, none⟩), .int .u8 (c.toNat : Int)] w fun e w' => e = .returned (.bool (digM ⟨s, n⟩ c).isSome) ∧ Mk (digM ⟨s, n⟩ c) b w w') := hG.out hs1
    clear hv hT hG
    rcases hs1 with rfl | rfl | rfl | rfl | rfl | rfl
    all_goals
      go_enter Try.func34, Try.ntmps34
      go_wp2_with (go_at_call 45; refine (hT2.out).mono ?_; rintro e w3 ⟨rfl, k3⟩)
      go_ret
      exact ⟨rfl, k3⟩
end Go.Proofs.Ytmglbcldjhdhkab

