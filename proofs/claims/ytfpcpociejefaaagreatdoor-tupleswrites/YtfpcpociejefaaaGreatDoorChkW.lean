/- May a value be: Check, for every value. -/
import Derived.Test.YtfpcpociejefaaaGreatDoorValW
namespace Go.Proofs.YtfpcpociejefaaaGreatDoor
open Go.RowKit Go.PlainAid Go.Lib
theorem box_cells {w w1 : World} {v0 v1 v2 v3 v4 v5 : Value} {t : TypeId} {o : Obj} (k : Keep [] ((w.alloc (.cells #[v0, v1, v2, v3, v4, v5] t)).alloc o) w1) :
  w1.cell? ⟨w.heap.size, 0, none⟩ = some v0 ∧ w1.cell? ⟨w.heap.size, 1, none⟩ = some v1 ∧ w1.cell? ⟨w.heap.size, 2, none⟩ = some v2 ∧ w1.cell? ⟨w.heap.size, 3, none⟩ = some v3 ∧ w1.cell? ⟨w.heap.size, 4, none⟩ = some v4 ∧ w1.cell? ⟨w.heap.size, 5, none⟩ = some v5 := by
 refine ⟨k.cell' ?_ (by simp), k.cell' ?_ (by simp), k.cell' ?_ (by simp), k.cell' ?_ (by simp), k.cell' ?_ (by simp), k.cell' ?_ (by simp)⟩ <;> simp [go_sem]
theorem store_f32 (a : Addr) (x : Nat) (w : World) : (store a (.float .f32 x)).run Tryz.prog w = Go.stored Tryz.prog w a (.float .f32 x) .plain := run_store Tryz.prog w a _ .plain rfl
set_option maxRecDepth 100000 in
set_option maxHeartbeats 6400000 in
theorem check_any (p : VD) (hp : p.Ok) (u : Value) (w : World) (hu : Ts w u p.texts) :
  Calls Tryz.prog 41 #[p.val u] w fun e w' => e = .returned (.int .i64 (if p.mayB then 0 else 40)) ∧ Keep [] w w' := by
 obtain ⟨ao, cap, rfl, hl1, hl2, _, _⟩ := hu.ex
 obtain ⟨kd, b, n, x, t, ts⟩ := p
 have hsf := store_f32
 simp only [Go.stored] at hsf
 simp only [VD.val] at *
 by_cases h1 : kd = 1
 ·subst h1
  have hE : ∀ w1, Keep [] w w1 → Calls Tryz.prog 65 #[VD.val ⟨1, false, n, x, t, ts⟩ (.slice ao ts.length cap)] w1 fun e w' => e = .returned (.bool (VD.emptyB ⟨1, false, n, x, t, ts⟩)) ∧ Keep [] w1 w' := fun w1 k1 => by
   refine (empty_any ⟨1, false, n, x, t, ts⟩ ⟨by simp, by simp, hp.int0, hp.int1, hp.real1, hp.text1⟩ (.slice ao ts.length cap) w1 (hu.keep k1 (Off.nil _))).mono ?_
   rintro e w2 ⟨rfl, k2⟩
   exact ⟨rfl, k2⟩
  have hS : ∀ w1, Keep [] w w1 → Calls Tryz.prog 66 #[VD.val ⟨1, b, n, x, t, ts⟩ (.slice ao ts.length cap)] w1 fun e w' => e = .returned (.bool (VD.shortB ⟨1, b, n, x, t, ts⟩)) ∧ Keep [] w1 w' := fun w1 k1 => by
   refine (short_any ⟨1, b, n, x, t, ts⟩ hp _ w1 (hu.keep k1 (Off.nil _))).mono ?_
   rintro e w2 ⟨rfl, k2⟩
   exact ⟨rfl, k2⟩
  have hM : VD.mayB ⟨1, b, n, x, t, ts⟩ = (VD.emptyB ⟨1, false, n, x, t, ts⟩ && VD.shortB ⟨1, b, n, x, t, ts⟩) := by simp [VD.mayB, VD.clear]
  rw [hM]
  clear hM hu
  cases hq1 : VD.emptyB ⟨1, false, n, x, t, ts⟩ <;> rw [hq1] at hE
  ·clear hS
   go_enter Tryz.func41, Tryz.ntmps41
   go_wp2_with fail
   refine (hE _ ((Keep.alloc1 w _).alloc _)).mono ?_
   rintro e1 w1 ⟨rfl, k1⟩
   have HK : Hid (Keep [] w w1) := (((Keep.alloc1 w _).alloc _)).trans' k1
   clear k1 hE
   go_wp2
   go_ret
   exact ⟨rfl, HK.out⟩
  ·cases hq2 : VD.shortB ⟨1, b, n, x, t, ts⟩ <;> rw [hq2] at hS
   all_goals
    go_enter Tryz.func41, Tryz.ntmps41
    go_wp2_with fail
    refine (hE _ ((Keep.alloc1 w _).alloc _)).mono ?_
    rintro e1 w1 ⟨rfl, k1⟩
    obtain ⟨c0, c1, c2, c3, c4, c5⟩ := box_cells k1
    have HK : Hid (Keep [] w w1) := (((Keep.alloc1 w _).alloc _)).trans' k1
    clear k1 hE
    go_wp2_with fail
    refine (hS _ HK.out).mono ?_
    rintro e2 w2 ⟨rfl, k2⟩
    have HK2 : Hid (Keep [] w w2) := HK.out.trans' k2
    clear k2 hS
    go_wp2
    go_ret
    exact ⟨rfl, HK2.out⟩
 by_cases h2 : kd = 2
 ·subst h2
  have hE : ∀ w1, Keep [] w w1 → Calls Tryz.prog 65 #[VD.val ⟨2, b, 0, x, t, ts⟩ (.slice ao ts.length cap)] w1 fun e w' => e = .returned (.bool (VD.emptyB ⟨2, b, 0, x, t, ts⟩)) ∧ Keep [] w1 w' := fun w1 k1 => by
   refine (empty_any ⟨2, b, 0, x, t, ts⟩ ⟨by simp, by simp, by simp, by simp, hp.real1, hp.text1⟩ (.slice ao ts.length cap) w1 (hu.keep k1 (Off.nil _))).mono ?_
   rintro e w2 ⟨rfl, k2⟩
   exact ⟨rfl, k2⟩
  have hS : ∀ w1, Keep [] w w1 → Calls Tryz.prog 66 #[VD.val ⟨2, b, n, x, t, ts⟩ (.slice ao ts.length cap)] w1 fun e w' => e = .returned (.bool (VD.shortB ⟨2, b, n, x, t, ts⟩)) ∧ Keep [] w1 w' := fun w1 k1 => by
   refine (short_any ⟨2, b, n, x, t, ts⟩ hp _ w1 (hu.keep k1 (Off.nil _))).mono ?_
   rintro e w2 ⟨rfl, k2⟩
   exact ⟨rfl, k2⟩
  have hM : VD.mayB ⟨2, b, n, x, t, ts⟩ = (VD.emptyB ⟨2, b, 0, x, t, ts⟩ && VD.shortB ⟨2, b, n, x, t, ts⟩) := by simp [VD.mayB, VD.clear]
  rw [hM]
  clear hM hu
  cases hq1 : VD.emptyB ⟨2, b, 0, x, t, ts⟩ <;> rw [hq1] at hE
  ·clear hS
   go_enter Tryz.func41, Tryz.ntmps41
   go_wp2_with fail
   refine (hE _ ((Keep.alloc1 w _).alloc _)).mono ?_
   rintro e1 w1 ⟨rfl, k1⟩
   have HK : Hid (Keep [] w w1) := (((Keep.alloc1 w _).alloc _)).trans' k1
   clear k1 hE
   go_wp2
   go_ret
   exact ⟨rfl, HK.out⟩
  ·cases hq2 : VD.shortB ⟨2, b, n, x, t, ts⟩ <;> rw [hq2] at hS
   all_goals
    go_enter Tryz.func41, Tryz.ntmps41
    go_wp2_with fail
    refine (hE _ ((Keep.alloc1 w _).alloc _)).mono ?_
    rintro e1 w1 ⟨rfl, k1⟩
    obtain ⟨c0, c1, c2, c3, c4, c5⟩ := box_cells k1
    have HK : Hid (Keep [] w w1) := (((Keep.alloc1 w _).alloc _)).trans' k1
    clear k1 hE
    go_wp2_with fail
    refine (hS _ HK.out).mono ?_
    rintro e2 w2 ⟨rfl, k2⟩
    have HK2 : Hid (Keep [] w w2) := HK.out.trans' k2
    clear k2 hS
    go_wp2
    go_ret
    exact ⟨rfl, HK2.out⟩
 by_cases h3 : kd = 3
 ·subst h3
  have hE : ∀ w1, Keep [] w w1 → Calls Tryz.prog 65 #[VD.val ⟨3, b, n, 0, t, ts⟩ (.slice ao ts.length cap)] w1 fun e w' => e = .returned (.bool (VD.emptyB ⟨3, b, n, 0, t, ts⟩)) ∧ Keep [] w1 w' := fun w1 k1 => by
   refine (empty_any ⟨3, b, n, 0, t, ts⟩ ⟨by simp, by simp, hp.int0, hp.int1, by simp, hp.text1⟩ (.slice ao ts.length cap) w1 (hu.keep k1 (Off.nil _))).mono ?_
   rintro e w2 ⟨rfl, k2⟩
   exact ⟨rfl, k2⟩
  have hS : ∀ w1, Keep [] w w1 → Calls Tryz.prog 66 #[VD.val ⟨3, b, n, x, t, ts⟩ (.slice ao ts.length cap)] w1 fun e w' => e = .returned (.bool (VD.shortB ⟨3, b, n, x, t, ts⟩)) ∧ Keep [] w1 w' := fun w1 k1 => by
   refine (short_any ⟨3, b, n, x, t, ts⟩ hp _ w1 (hu.keep k1 (Off.nil _))).mono ?_
   rintro e w2 ⟨rfl, k2⟩
   exact ⟨rfl, k2⟩
  have hM : VD.mayB ⟨3, b, n, x, t, ts⟩ = (VD.emptyB ⟨3, b, n, 0, t, ts⟩ && VD.shortB ⟨3, b, n, x, t, ts⟩) := by simp [VD.mayB, VD.clear]
  rw [hM]
  clear hM hu
  cases hq1 : VD.emptyB ⟨3, b, n, 0, t, ts⟩ <;> rw [hq1] at hE
  ·clear hS
   go_enter Tryz.func41, Tryz.ntmps41
   go_wp2_with fail
   refine (hE _ ((Keep.alloc1 w _).alloc _)).mono ?_
   rintro e1 w1 ⟨rfl, k1⟩
   have HK : Hid (Keep [] w w1) := (((Keep.alloc1 w _).alloc _)).trans' k1
   clear k1 hE
   go_wp2
   go_ret
   exact ⟨rfl, HK.out⟩
  ·cases hq2 : VD.shortB ⟨3, b, n, x, t, ts⟩ <;> rw [hq2] at hS
   all_goals
    go_enter Tryz.func41, Tryz.ntmps41
    go_wp2_with fail
    refine (hE _ ((Keep.alloc1 w _).alloc _)).mono ?_
    rintro e1 w1 ⟨rfl, k1⟩
    obtain ⟨c0, c1, c2, c3, c4, c5⟩ := box_cells k1
    have HK : Hid (Keep [] w w1) := (((Keep.alloc1 w _).alloc _)).trans' k1
    clear k1 hE
    go_wp2_with fail
    refine (hS _ HK.out).mono ?_
    rintro e2 w2 ⟨rfl, k2⟩
    have HK2 : Hid (Keep [] w w2) := HK.out.trans' k2
    clear k2 hS
    go_wp2
    go_ret
    exact ⟨rfl, HK2.out⟩
 by_cases h4 : kd = 4
 ·subst h4
  have hE : ∀ w1, Keep [] w w1 → Calls Tryz.prog 65 #[VD.val ⟨4, b, n, x, ⟨#[]⟩, ts⟩ (.slice ao ts.length cap)] w1 fun e w' => e = .returned (.bool (VD.emptyB ⟨4, b, n, x, ⟨#[]⟩, ts⟩)) ∧ Keep [] w1 w' := fun w1 k1 => by
   refine (empty_any ⟨4, b, n, x, ⟨#[]⟩, ts⟩ ⟨by simp, by simp, hp.int0, hp.int1, hp.real1, Nat.zero_le _⟩ (.slice ao ts.length cap) w1 (hu.keep k1 (Off.nil _))).mono ?_
   rintro e w2 ⟨rfl, k2⟩
   exact ⟨rfl, k2⟩
  have hS : ∀ w1, Keep [] w w1 → Calls Tryz.prog 66 #[VD.val ⟨4, b, n, x, t, ts⟩ (.slice ao ts.length cap)] w1 fun e w' => e = .returned (.bool (VD.shortB ⟨4, b, n, x, t, ts⟩)) ∧ Keep [] w1 w' := fun w1 k1 => by
   refine (short_any ⟨4, b, n, x, t, ts⟩ hp _ w1 (hu.keep k1 (Off.nil _))).mono ?_
   rintro e w2 ⟨rfl, k2⟩
   exact ⟨rfl, k2⟩
  have hM : VD.mayB ⟨4, b, n, x, t, ts⟩ = (VD.emptyB ⟨4, b, n, x, ⟨#[]⟩, ts⟩ && VD.shortB ⟨4, b, n, x, t, ts⟩) := by simp [VD.mayB, VD.clear]
  rw [hM]
  clear hM hu
  cases hq1 : VD.emptyB ⟨4, b, n, x, ⟨#[]⟩, ts⟩ <;> rw [hq1] at hE
  ·clear hS
   go_enter Tryz.func41, Tryz.ntmps41
   go_wp2_with fail
   refine (hE _ ((Keep.alloc1 w _).alloc _)).mono ?_
   rintro e1 w1 ⟨rfl, k1⟩
   have HK : Hid (Keep [] w w1) := (((Keep.alloc1 w _).alloc _)).trans' k1
   clear k1 hE
   go_wp2
   go_ret
   exact ⟨rfl, HK.out⟩
  ·cases hq2 : VD.shortB ⟨4, b, n, x, t, ts⟩ <;> rw [hq2] at hS
   all_goals
    go_enter Tryz.func41, Tryz.ntmps41
    go_wp2_with fail
    refine (hE _ ((Keep.alloc1 w _).alloc _)).mono ?_
    rintro e1 w1 ⟨rfl, k1⟩
    obtain ⟨c0, c1, c2, c3, c4, c5⟩ := box_cells k1
    have HK : Hid (Keep [] w w1) := (((Keep.alloc1 w _).alloc _)).trans' k1
    clear k1 hE
    go_wp2_with fail
    refine (hS _ HK.out).mono ?_
    rintro e2 w2 ⟨rfl, k2⟩
    have HK2 : Hid (Keep [] w w2) := HK.out.trans' k2
    clear k2 hS
    go_wp2
    go_ret
    exact ⟨rfl, HK2.out⟩
 by_cases h5 : kd = 5
 ·subst h5
  have hE : ∀ w1, Keep [] w w1 → Calls Tryz.prog 65 #[VD.val ⟨5, b, n, x, t, []⟩ (.slice none 0 0)] w1 fun e w' => e = .returned (.bool (VD.emptyB ⟨5, b, n, x, t, []⟩)) ∧ Keep [] w1 w' := fun w1 k1 => by
   refine (empty_any ⟨5, b, n, x, t, []⟩ ⟨by simp, by simp, hp.int0, hp.int1, hp.real1, hp.text1⟩ (.slice none 0 0) w1 (Ts.nil _)).mono ?_
   rintro e w2 ⟨rfl, k2⟩
   exact ⟨rfl, k2⟩
  have hS : ∀ w1, Keep [] w w1 → Calls Tryz.prog 66 #[VD.val ⟨5, b, n, x, t, ts⟩ (.slice ao ts.length cap)] w1 fun e w' => e = .returned (.bool (VD.shortB ⟨5, b, n, x, t, ts⟩)) ∧ Keep [] w1 w' := fun w1 k1 => by
   refine (short_any ⟨5, b, n, x, t, ts⟩ hp _ w1 (hu.keep k1 (Off.nil _))).mono ?_
   rintro e w2 ⟨rfl, k2⟩
   exact ⟨rfl, k2⟩
  have hM : VD.mayB ⟨5, b, n, x, t, ts⟩ = (VD.emptyB ⟨5, b, n, x, t, []⟩ && VD.shortB ⟨5, b, n, x, t, ts⟩) := by simp [VD.mayB, VD.clear]
  rw [hM]
  clear hM hu
  cases hq1 : VD.emptyB ⟨5, b, n, x, t, []⟩ <;> rw [hq1] at hE
  ·clear hS
   go_enter Tryz.func41, Tryz.ntmps41
   go_wp2_with fail
   refine (hE _ ((Keep.alloc1 w _).alloc _)).mono ?_
   rintro e1 w1 ⟨rfl, k1⟩
   have HK : Hid (Keep [] w w1) := (((Keep.alloc1 w _).alloc _)).trans' k1
   clear k1 hE
   go_wp2
   go_ret
   exact ⟨rfl, HK.out⟩
  ·cases hq2 : VD.shortB ⟨5, b, n, x, t, ts⟩ <;> rw [hq2] at hS
   all_goals
    go_enter Tryz.func41, Tryz.ntmps41
    go_wp2_with fail
    refine (hE _ ((Keep.alloc1 w _).alloc _)).mono ?_
    rintro e1 w1 ⟨rfl, k1⟩
    obtain ⟨c0, c1, c2, c3, c4, c5⟩ := box_cells k1
    have HK : Hid (Keep [] w w1) := (((Keep.alloc1 w _).alloc _)).trans' k1
    clear k1 hE
    go_wp2_with fail
    refine (hS _ HK.out).mono ?_
    rintro e2 w2 ⟨rfl, k2⟩
    have HK2 : Hid (Keep [] w w2) := HK.out.trans' k2
    clear k2 hS
    go_wp2
    go_ret
    exact ⟨rfl, HK2.out⟩
 ·have hM : VD.mayB ⟨kd, b, n, x, t, ts⟩ = false := by
   have : ¬ (1 ≤ kd ∧ kd ≤ 5) := by omega
   simp [VD.mayB, this]
  rw [hM]
  have g1 : (kd == 1) = false := by simpa using h1
  have g2 : (kd == 2) = false := by simpa using h2
  have g3 : (kd == 3) = false := by simpa using h3
  have g4 : (kd == 4) = false := by simpa using h4
  have g5 : (kd == 5) = false := by simpa using h5
  clear hu hM h1 h2 h3 h4 h5
  go_enter Tryz.func41, Tryz.ntmps41
  go_wp2
  go_ret
  exact ⟨rfl, ((Keep.alloc1 w _).alloc _)⟩
end Go.Proofs.YtfpcpociejefaaaGreatDoor
