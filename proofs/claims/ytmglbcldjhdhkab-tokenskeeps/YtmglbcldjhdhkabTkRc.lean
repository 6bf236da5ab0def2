/- The document's machine: text, digits, take. -/
import Derived.Test.YtmglbcldjhdhkabTkRb
namespace Go.Proofs.Ytmglbcldjhdhkab
open Go.RowKit Go.PlainAid

theorem eqc (c k : UInt8) : ((c.toNat : Int) == (k.toNat : Int)) = decide (c = k) := by
  by_cases e : c = k
  · subst e; simp
  · have : ¬ ((c.toNat : Int) = (k.toNat : Int)) := fun e2 => e (by apply UInt8.toNat_inj.1; omega)
    simp [e, this]
theorem Mk.none {b : Nat} {w w' : World} {m : Mc} (h : Mb w' b m) (k : Keep [b] w w') : Mk none b w w' := ⟨⟨m, h, fun x hx => by cases hx⟩, k⟩
theorem Mk.some {b : Nat} {w w' : World} {m : Mc} (h : Mb w' b m) (k : Keep [b] w w') : Mk (some m) b w w' := ⟨⟨m, h, fun x hx => by simpa using hx⟩, k⟩

set_option maxRecDepth 1000000 in
set_option maxHeartbeats 4000000 in
theorem rtext_any (b : Nat) (s n : Int) (c : UInt8) (w : World) (h : Mb w b ⟨s, n⟩) (hs : s = 10 ∨ s = 11 ∨ s = 12 ∨ s = 13) :
    Calls Try.prog 44 #[.pointer (some ⟨b, 0, none⟩), .int .u8 (c.toNat : Int)] w fun e w' => e = .returned (.bool (txtM ⟨s, n⟩ c).isSome) ∧ Mk (txtM ⟨s, n⟩ c) b w w' := by
  obtain ⟨c0, c1, f0, f1⟩ := h.cells
  have hH : Hid (∀ w, Calls Try.prog 56 #[.int .u8 (c.toNat : Int)] w fun e w' => e = .returned (.int .i64 (hexI (c.toNat : Int))) ∧ w' = w) := rhex_any c
  have e34 := eqc c 34
  have e92 := eqc c 92
  have e110 := eqc c 110
  have e120 := eqc c 120
  change ((c.toNat : Int) == 34) = _ at e34
  change ((c.toNat : Int) == 92) = _ at e92
  change ((c.toNat : Int) == 110) = _ at e110
  change ((c.toNat : Int) == 120) = _ at e120
  unfold txtM
  simp only at c0 c1
  rcases hs with rfl | rfl | rfl | rfl
  · simp only [if_true]
    by_cases h32 : c.toNat < 32
    · have h32i : ¬ (32 ≤ (c.toNat : Int)) := by omega
      have a34 : ((c.toNat : Int) == 34) = false := by simp; omega
      have a92 : ((c.toNat : Int) == 92) = false := by simp; omega
      rw [if_pos h32]
      clear e34 e92 e110 e120
      go_enter Try.func44, Try.ntmps44
      go_wp2
      go_ret
      exact ⟨rfl, Mk.none h (Keep.refl _ _)⟩
    · have h32i : 32 ≤ (c.toNat : Int) := by omega
      rw [if_neg h32]
      by_cases a34 : c = 34
      · rw [decide_eq_true a34] at e34
        have a92 : ((c.toNat : Int) == 92) = false := by rw [a34]; rfl
        rw [if_pos a34]
        have h1 := h.set0 0
        clear a34 e92 e110 e120
        go_enter Try.func44, Try.ntmps44
        go_wp2
        go_ret
        exact ⟨rfl, Mk.some h1 (k0 _ _ _ _)⟩
      · rw [decide_eq_false a34] at e34
        rw [if_neg a34]
        by_cases a92 : c = 92
        · rw [decide_eq_true a92] at e92
          rw [if_pos a92]
          have h1 := h.set0 11
          clear a34 a92 e110 e120
          go_enter Try.func44, Try.ntmps44
          go_wp2
          go_ret
          exact ⟨rfl, Mk.some h1 (k0 _ _ _ _)⟩
        · rw [decide_eq_false a92] at e92
          rw [if_neg a92]
          clear a34 a92 e110 e120
          go_enter Try.func44, Try.ntmps44
          go_wp2
          go_ret
          exact ⟨rfl, Mk.some h (Keep.refl _ _)⟩
  · rw [if_neg (by simp), if_pos rfl]
    have h1 := h.set0 10
    obtain ⟨d0, d1, g0, g1⟩ := h1.cells
    have h2 := h1.set0 12
    have kk : Hid (Keep [b] w ((w.setCell ⟨b, 0, none⟩ (.int .i64 10)).setCell ⟨b, 0, none⟩ (.int .i64 12))) := (k0 w b 0 _).trans' (k0 _ b 0 _)
    by_cases a120 : c = 120
    · rw [decide_eq_true a120] at e120
      have a34 : ((c.toNat : Int) == 34) = false := by rw [a120]; rfl
      have a92 : ((c.toNat : Int) == 92) = false := by rw [a120]; rfl
      have a110 : ((c.toNat : Int) == 110) = false := by rw [a120]; rfl
      rw [if_pos (.inr (.inr (.inr a120))), if_pos a120]
      clear a120 e34 e92 e110
      go_enter Try.func44, Try.ntmps44
      go_wp2
      go_ret
      exact ⟨rfl, Mk.some h2 kk.out⟩
    · rw [decide_eq_false a120] at e120
      by_cases a34 : c = 34
      · rw [decide_eq_true a34] at e34
        rw [if_pos (.inl a34), if_neg a120]
        clear a34 a120
        go_enter Try.func44, Try.ntmps44
        go_wp2
        go_ret
        exact ⟨rfl, Mk.some h1 (k0 _ _ _ _)⟩
      · rw [decide_eq_false a34] at e34
        by_cases a92 : c = 92
        · rw [decide_eq_true a92] at e92
          rw [if_pos (.inr (.inl a92)), if_neg a120]
          clear a34 a120 a92
          go_enter Try.func44, Try.ntmps44
          go_wp2
          go_ret
          exact ⟨rfl, Mk.some h1 (k0 _ _ _ _)⟩
        · rw [decide_eq_false a92] at e92
          by_cases a110 : c = 110
          · rw [decide_eq_true a110] at e110
            rw [if_pos (.inr (.inr (.inl a110))), if_neg a120]
            clear a34 a120 a92 a110
            go_enter Try.func44, Try.ntmps44
            go_wp2
            go_ret
            exact ⟨rfl, Mk.some h1 (k0 _ _ _ _)⟩
          · rw [decide_eq_false a110] at e110
            rw [if_neg (by simp [a34, a92, a110, a120])]
            clear a34 a120 a92 a110
            go_enter Try.func44, Try.ntmps44
            go_wp2
            go_ret
            exact ⟨rfl, Mk.none h1 (k0 _ _ _ _)⟩
  · rw [if_neg (by simp), if_neg (by simp)]
    have h1 := h.set0 13
    clear e34 e92 e110 e120
    by_cases hx : hexI (c.toNat : Int) < 0
    · have hx2 : decide (0 ≤ hexI (c.toNat : Int)) = false := by simp; omega
      rw [if_pos hx]
      go_enter Try.func44, Try.ntmps44
      go_wp2_with (go_at_call 56; refine (hH.out _).mono ?_; rintro e w' ⟨rfl, rfl⟩)
      go_ret
      exact ⟨rfl, Mk.none h1 (k0 _ _ _ _)⟩
    · have hx2 : 0 ≤ hexI (c.toNat : Int) := by omega
      rw [if_neg hx, if_pos rfl]
      go_enter Try.func44, Try.ntmps44
      go_wp2_with (go_at_call 56; refine (hH.out _).mono ?_; rintro e w' ⟨rfl, rfl⟩)
      go_ret
      exact ⟨rfl, Mk.some h1 (k0 _ _ _ _)⟩
  · rw [if_neg (by simp), if_neg (by simp)]
    have h1 := h.set0 10
    clear e34 e92 e110 e120
    by_cases hx : hexI (c.toNat : Int) < 0
    · have hx2 : decide (0 ≤ hexI (c.toNat : Int)) = false := by simp; omega
      rw [if_pos hx]
      go_enter Try.func44, Try.ntmps44
      go_wp2_with (go_at_call 56; refine (hH.out _).mono ?_; rintro e w' ⟨rfl, rfl⟩)
      go_ret
      exact ⟨rfl, Mk.none h1 (k0 _ _ _ _)⟩
    · have hx2 : 0 ≤ hexI (c.toNat : Int) := by omega
      rw [if_neg hx, if_neg (by simp)]
      go_enter Try.func44, Try.ntmps44
      go_wp2_with (go_at_call 56; refine (hH.out _).mono ?_; rintro e w' ⟨rfl, rfl⟩)
      go_ret
      exact ⟨rfl, Mk.some h1 (k0 _ _ _ _)⟩

set_option maxRecDepth 1000000 in
set_option maxHeartbeats 4000000 in
theorem rdigits_any (b : Nat) (s n : Int) (c : UInt8) (w : World) (h : Mb w b ⟨s, n⟩) (hs : s = 4 ∨ s = 5 ∨ s = 6 ∨ s = 7 ∨ s = 8 ∨ s = 9) :
    Calls Try.prog 45 #[.pointer (some ⟨b, 0, none⟩), .int .u8 (c.toNat : Int)] w fun e w' => e = .returned (.bool (digM ⟨s, n⟩ c).isSome) ∧ Mk (digM ⟨s, n⟩ c) b w w' := by
  obtain ⟨c0, c1, f0, f1⟩ := h.cells
  have hS : Hid (∀ w, Calls Try.prog 52 #[.int .u8 (c.toNat : Int)] w fun e w' => e = .returned (.bool (smallB (c.toNat : Int))) ∧ w' = w) := rsmall_any _
  have hD : Hid (∀ w, Calls Try.prog 53 #[.int .u8 (c.toNat : Int)] w fun e w' => e = .returned (.bool (digitB (c.toNat : Int))) ∧ w' = w) := rdigit_any _
  have hB : Hid (Calls Try.prog 42 #[.pointer (some ⟨b, 0, none⟩), .int .u8 (c.toNat : Int)] w fun e w' => e = .returned (.bool (begM c).isSome) ∧ Mk (begM c) b w w') := rbegin_any b ⟨s, n⟩ c w h
  have e46 := eqc c 46
  have e101 := eqc c 101
  have e45 := eqc c 45
  change ((c.toNat : Int) == 46) = _ at e46
  change ((c.toNat : Int) == 101) = _ at e101
  change ((c.toNat : Int) == 45) = _ at e45
  have fin : Hid (∀ s', Mk (some ⟨s', n⟩) b w (w.setCell ⟨b, 0, none⟩ (.int .i64 s'))) := fun s' => Mk.some (h.set0 s') (k0 _ _ _ _)
  have same : Hid (Mk (some ⟨s, n⟩) b w w) := Mk.some h (Keep.refl _ _)
  have nothing : Hid (Mk none b w w) := Mk.none h (Keep.refl _ _)
  simp only at c0 c1 ⊢
  cases hd : digitB (c.toNat : Int)
  rotate_left
  · rw [hd] at hD
    have hv : digM ⟨s, n⟩ c = some ⟨if s = 5 then 6 else if s = 7 ∨ s = 8 then 9 else s, n⟩ := by
      unfold digM
      rw [if_pos hd]
      simp only
      repeat' split
      all_goals simp_all
    rw [hv]
    clear hv
    rcases hs with rfl | rfl | rfl | rfl | rfl | rfl
    all_goals
      go_enter Try.func45, Try.ntmps45
      go_wp2_with (go_at_call 53; refine (hD.out _).mono ?_; rintro e w' ⟨rfl, rfl⟩)
      go_ret
      first
        | exact ⟨rfl, fin.out _⟩
        | exact ⟨rfl, same.out⟩
  rw [hd] at hD
  rcases hs with rfl | rfl | rfl | rfl | rfl | rfl
  · by_cases a46 : c = 46
    · have hv : digM ⟨4, n⟩ c = some ⟨5, n⟩ := by rw [a46]; simp [digM, digitB]
      rw [hv]
      rw [decide_eq_true a46] at e46
      clear a46 hv
      go_enter Try.func45, Try.ntmps45
      go_wp2_with (first | (go_at_call 53; refine (hD.out _).mono ?_; rintro e w' ⟨rfl, rfl⟩) | (go_at_call 52; refine (hS.out _).mono ?_; rintro e w' ⟨rfl, rfl⟩))
      go_ret
      exact ⟨rfl, fin.out 5⟩
    · rw [decide_eq_false a46] at e46
      cases hsm : smallB (c.toNat : Int)
      · rw [hsm] at hS
        have hv : digM ⟨4, n⟩ c = begM c := by unfold digM; simp [hd, hsm, a46]
        rw [hv]
        cases hbg : (begM c).isSome
        all_goals
          rw [hbg] at hB
          go_enter Try.func45, Try.ntmps45
          go_wp2_with (first | (go_at_call 53; refine (hD.out _).mono ?_; rintro e w' ⟨rfl, rfl⟩) | (go_at_call 52; refine (hS.out _).mono ?_; rintro e w' ⟨rfl, rfl⟩) | (go_at_call 42; refine (hB.out).mono ?_; rintro e w3 ⟨rfl, k3⟩))
          go_ret
          exact ⟨rfl, k3⟩
      · rw [hsm] at hS
        have hv : digM ⟨4, n⟩ c = none := by unfold digM; simp [hd, hsm, a46]
        rw [hv]
        go_enter Try.func45, Try.ntmps45
        go_wp2_with (first | (go_at_call 53; refine (hD.out _).mono ?_; rintro e w' ⟨rfl, rfl⟩) | (go_at_call 52; refine (hS.out _).mono ?_; rintro e w' ⟨rfl, rfl⟩))
        go_ret
        exact ⟨rfl, nothing.out⟩
  · have hv : digM ⟨5, n⟩ c = none := by unfold digM; simp [hd]
    rw [hv]
    go_enter Try.func45, Try.ntmps45
    go_wp2_with (first | (go_at_call 53; refine (hD.out _).mono ?_; rintro e w' ⟨rfl, rfl⟩) | (go_at_call 52; refine (hS.out _).mono ?_; rintro e w' ⟨rfl, rfl⟩))
    go_ret
    exact ⟨rfl, nothing.out⟩
  · by_cases a101 : c = 101
    · have hv : digM ⟨6, n⟩ c = some ⟨7, n⟩ := by rw [a101]; simp [digM, digitB]
      rw [hv]
      rw [decide_eq_true a101] at e101
      clear a101 hv
      go_enter Try.func45, Try.ntmps45
      go_wp2_with (first | (go_at_call 53; refine (hD.out _).mono ?_; rintro e w' ⟨rfl, rfl⟩) | (go_at_call 52; refine (hS.out _).mono ?_; rintro e w' ⟨rfl, rfl⟩))
      go_ret
      exact ⟨rfl, fin.out 7⟩
    · rw [decide_eq_false a101] at e101
      cases hsm : smallB (c.toNat : Int)
      · rw [hsm] at hS
        have hv : digM ⟨6, n⟩ c = begM c := by unfold digM; simp [hd, hsm, a101]
        rw [hv]
        cases hbg : (begM c).isSome
        all_goals
          rw [hbg] at hB
          go_enter Try.func45, Try.ntmps45
          go_wp2_with (first | (go_at_call 53; refine (hD.out _).mono ?_; rintro e w' ⟨rfl, rfl⟩) | (go_at_call 52; refine (hS.out _).mono ?_; rintro e w' ⟨rfl, rfl⟩) | (go_at_call 42; refine (hB.out).mono ?_; rintro e w3 ⟨rfl, k3⟩))
          go_ret
          exact ⟨rfl, k3⟩
      · rw [hsm] at hS
        have hv : digM ⟨6, n⟩ c = none := by unfold digM; simp [hd, hsm, a101]
        rw [hv]
        go_enter Try.func45, Try.ntmps45
        go_wp2_with (first | (go_at_call 53; refine (hD.out _).mono ?_; rintro e w' ⟨rfl, rfl⟩) | (go_at_call 52; refine (hS.out _).mono ?_; rintro e w' ⟨rfl, rfl⟩))
        go_ret
        exact ⟨rfl, nothing.out⟩
  · by_cases a45 : c = 45
    · have hv : digM ⟨7, n⟩ c = some ⟨8, n⟩ := by rw [a45]; simp [digM, digitB]
      rw [hv]
      rw [decide_eq_true a45] at e45
      clear a45 hv
      go_enter Try.func45, Try.ntmps45
      go_wp2_with (first | (go_at_call 53; refine (hD.out _).mono ?_; rintro e w' ⟨rfl, rfl⟩) | (go_at_call 52; refine (hS.out _).mono ?_; rintro e w' ⟨rfl, rfl⟩))
      go_ret
      exact ⟨rfl, fin.out 8⟩
    · rw [decide_eq_false a45] at e45
      have hv : digM ⟨7, n⟩ c = none := by unfold digM; simp [hd, a45]
      rw [hv]
      go_enter Try.func45, Try.ntmps45
      go_wp2_with (first | (go_at_call 53; refine (hD.out _).mono ?_; rintro e w' ⟨rfl, rfl⟩) | (go_at_call 52; refine (hS.out _).mono ?_; rintro e w' ⟨rfl, rfl⟩))
      go_ret
      exact ⟨rfl, nothing.out⟩
  · have hv : digM ⟨8, n⟩ c = none := by unfold digM; simp [hd]
    rw [hv]
    go_enter Try.func45, Try.ntmps45
    go_wp2_with (first | (go_at_call 53; refine (hD.out _).mono ?_; rintro e w' ⟨rfl, rfl⟩) | (go_at_call 52; refine (hS.out _).mono ?_; rintro e w' ⟨rfl, rfl⟩))
    go_ret
    exact ⟨rfl, nothing.out⟩
  · cases hsm : smallB (c.toNat : Int)
    · rw [hsm] at hS
      have hv : digM ⟨9, n⟩ c = begM c := by unfold digM; simp [hd, hsm]
      rw [hv]
      cases hbg : (begM c).isSome
      all_goals
        rw [hbg] at hB
        go_enter Try.func45, Try.ntmps45
        go_wp2_with (first | (go_at_call 53; refine (hD.out _).mono ?_; rintro e w' ⟨rfl, rfl⟩) | (go_at_call 52; refine (hS.out _).mono ?_; rintro e w' ⟨rfl, rfl⟩) | (go_at_call 42; refine (hB.out).mono ?_; rintro e w3 ⟨rfl, k3⟩))
        go_ret
        exact ⟨rfl, k3⟩
    · rw [hsm] at hS
      have hv : digM ⟨9, n⟩ c = none := by unfold digM; simp [hd, hsm]
      rw [hv]
      go_enter Try.func45, Try.ntmps45
      go_wp2_with (first | (go_at_call 53; refine (hD.out _).mono ?_; rintro e w' ⟨rfl, rfl⟩) | (go_at_call 52; refine (hS.out _).mono ?_; rintro e w' ⟨rfl, rfl⟩))
      go_ret
      exact ⟨rfl, nothing.out⟩
end Go.Proofs.Ytmglbcldjhdhkab

