/- awake: what the law asks once of Parse, Decode and Same. -/
import Derived.Test.YtncbanpimfhhbaaGreatDoorPaG
import Derived.Test.YtncbanpimfhhbaaGreatDoorDcG
import Derived.Test.YtncbanpimfhhbaaGreatDoorSameV
namespace Go.Proofs.YtncbanpimfhhbaaGreatDoor
open Go.RowKit Go.PlainAid

theorem readV_q : readV [5, 2, 1, 97, 0] = VL [⟨#[97]⟩, ⟨#[]⟩] := by kernel_rfl
theorem isB_q : isB (readV [5, 2, 1, 97, 0]) [5, 2, 1, 97, 0] = true := by kernel_rfl
theorem same_q (u v : Value) (w : World) (hu : Ts w u [⟨#[97]⟩, ⟨#[]⟩]) (hv : Ts w v [⟨#[97]⟩, ⟨#[]⟩]) : Calls Tryz.prog 8 #[(VL [⟨#[97]⟩, ⟨#[]⟩]).val u, (VL [⟨#[97]⟩, ⟨#[]⟩]).val v] w fun e w' => e = .returned (.bool true) ∧ Keep [] w w' := by
  have h := same_any _ _ VL_ok VL_ok u v w hu hv
  have e : sameV (VL [⟨#[97]⟩, ⟨#[]⟩]) (VL [⟨#[97]⟩, ⟨#[]⟩]) = true := by kernel_rfl
  rw [e] at h
  exact h
theorem decode_q (v : Value) (w : World) (hv : Bs w v [5, 2, 1, 97, 0]) : Calls Tryz.prog 15 #[v] w fun e w' => ∃ u, e = .returned (.tuple #[(VL [⟨#[97]⟩, ⟨#[]⟩]).val u, .int .i64 0]) ∧ Ts w' u [⟨#[97]⟩, ⟨#[]⟩] ∧ Keep [] w w' := by
  refine (decode_any v _ w hv (by decide)).mono ?_
  rintro e w' ⟨(⟨_, u, h1, h2⟩ | ⟨h, _⟩), k⟩
  · rw [readV_q] at h1 h2
    exact ⟨u, h1, h2, k⟩
  · rw [isB_q] at h
    cases h
theorem ts_two {w w' : World} (k : Keep [] (w.alloc (.cells #[.string ⟨#[97]⟩, .string ⟨#[]⟩] 9)) w') : Ts w' (.slice (some ⟨w.heap.size, 0, none⟩) 2 2) [⟨#[97]⟩, ⟨#[]⟩] := by
  refine Ts.keep (w := w.alloc (.cells #[.string ⟨#[97]⟩, .string ⟨#[]⟩] 9)) ⟨_, 2, rfl, by decide, by omega, by intro s hs; simp at hs; rcases hs with rfl | rfl <;> decide, fun _ => ⟨w.heap.size, 0, rfl, fun j hj => ?_⟩⟩ k (Off.nil _)
  have : j = 0 ∨ j = 1 := by simp at hj; omega
  rcases this with rfl | rfl <;> simp [go_sem]
theorem bs_five {w : World} {p : Nat} (hp : p = w.heap.size) : Bs (w.alloc (.cells #[.int .u8 5, .int .u8 2, .int .u8 1, .int .u8 97, .int .u8 0] 5)) (.slice (some ⟨p, 0, none⟩) 5 5) [5, 2, 1, 97, 0] := by
  subst hp
  refine ⟨_, 5, rfl, by decide, by simp [maxLen], (by intro h; cases h), fun _ => ⟨w.heap.size, 0, rfl, fun j hj => ?_⟩⟩
  have : j = 0 ∨ j = 1 ∨ j = 2 ∨ j = 3 ∨ j = 4 := by simp at hj; omega
  rcases this with rfl | rfl | rfl | rfl | rfl <;> simp [go_sem]

set_option maxRecDepth 1000000 in
theorem awake_yes (w : World) : Calls Tryz.prog 5 #[] w fun e w' => e = .returned (.bool true) ∧ Keep [] w w' := by
  have hsf := store_f32
  simp only [Go.stored] at hsf
  go_enter Tryz.func5, Tryz.ntmps5
  go_wp2_with fail
  refine (parse_q _).mono ?_
  rintro e9 w9 ⟨u, rfl, hu, ho, k1⟩
  have HK9 : Hid (Keep [] w w9) := (Keep.alloc1 w _).trans' ((Keep.alloc1 _ _).trans' k1)
  have HA9 : Hid (P6 w9 (w.heap.size + 1) (.int .i64 5) (.bool false) (.int .i64 0) (.float .f32 0) (.string ⟨#[]⟩) (.slice (some ⟨w.heap.size, 0, none⟩) 2 2)) := by
    have := P6.first k1
    show P6 _ _ _ _ _ _ _ _
    simpa using this
  have HT9 : Hid (Ts w9 (.slice (some ⟨w.heap.size, 0, none⟩) 2 2) [⟨#[97]⟩, ⟨#[]⟩]) := ts_two ((Keep.alloc1 _ _).trans' k1)
  have HU9 : Hid _ := hu
  obtain ⟨au, cu, hsl, _⟩ := hu.ex
  subst hsl
  clear k1 hu ho
  go_wp2_with fail
  refine (decode_q _ _ (bs_five (by simp))).mono ?_
  rintro e9 w8 ⟨u2, rfl, hu2, k1⟩
  have k0 : Keep [] (w9.alloc _) w8 := (Keep.alloc1 (w9.alloc _) _).trans' k1
  have HK8 : Hid (Keep [] w w8) := HK9.out.trans' ((Keep.alloc1 w9 _).trans' k0)
  have HA8 : Hid _ := HA9.out.keep ((Keep.alloc1 w9 _).trans' k0) (by simp)
  have HT8 : Hid _ := HT9.out.keep ((Keep.alloc1 w9 _).trans' k0) (Off.nil _)
  have HU8 : Hid _ := HU9.out.keep ((Keep.alloc1 w9 _).trans' k0) (Off.nil _)
  have HX8 : Hid _ := P6.first k0
  have HV8 : Hid _ := hu2
  obtain ⟨av, cv, hsl, _⟩ := hu2.ex
  subst hsl
  have hne0 : Hid (w9.heap.size < w8.heap.size) := by have := k0.size; simp at this; show _ < _; omega
  have hne3 : Hid (w.heap.size + 1 < w9.heap.size) := HA9.out.lt
  clear k0 k1 hu2 HK9 HA9 HT9 HU9
  have HA7 : Hid (P6 (w8.alloc (.cells #[.int .i64 5, .bool false, .int .i64 0, .float .f32 0, .string ⟨#[]⟩, .slice av 2 cv] 31)) _ _ _ _ _ _ _) := HA8.out.keep (Keep.alloc1 w8 _) (by simp)
  have HX7 : Hid (P6 (w8.alloc (.cells #[.int .i64 5, .bool false, .int .i64 0, .float .f32 0, .string ⟨#[]⟩, .slice av 2 cv] 31)) _ _ _ _ _ _ _) := HX8.out.keep (Keep.alloc1 w8 _) (by simp)
  obtain ⟨a0, a1, a2, a3, a4, a5, az⟩ := HA7.out
  obtain ⟨x0, x1, x2, x3, x4, x5, xz⟩ := HX7.out
  have HY7 : Hid (P6 (w8.alloc (.cells #[.int .i64 5, .bool false, .int .i64 0, .float .f32 0, .string ⟨#[]⟩, .slice av 2 cv] 31)) w8.heap.size _ _ _ _ _ _) := P6.first (Keep.refl [] _)
  go_wp2_with fail
  refine (same_q _ _ _ (HU8.out.keep (Keep.alloc1 w8 _) (Off.nil _)) (HT8.out.keep (Keep.alloc1 w8 _) (Off.nil _))).mono ?_
  rintro e9 w7 ⟨rfl, k1⟩
  have HK7 : Hid (Keep [] w w7) := (HK8.out.alloc _).trans' k1
  have HA6 : Hid _ := HA7.out.keep k1 (by simp)
  have HY6 : Hid _ := HY7.out.keep k1 (by simp)
  have HT7 : Hid _ := (HT8.out.keep (Keep.alloc1 w8 _) (Off.nil _)).keep k1 (Off.nil _)
  have HV7 : Hid _ := (HV8.out.keep (Keep.alloc1 w8 _) (Off.nil _)).keep k1 (Off.nil _)
  clear a0 a1 a2 a3 a4 a5 az x0 x1 x2 x3 x4 x5 xz k1 HA7 HX7 HY7 HK8 HT8 HV8 HU8 HA8 HX8
  obtain ⟨a0, a1, a2, a3, a4, a5, az⟩ := HA6.out
  obtain ⟨x0, x1, x2, x3, x4, x5, xz⟩ := HY6.out
  go_wp2_with fail
  refine (same_q _ _ _ HV7.out HT7.out).mono ?_
  rintro e9 w6 ⟨rfl, k1⟩
  have HK6 : Hid (Keep [] w w6) := HK7.out.trans' k1
  clear k1
  go_wp2
  go_ret
  exact ⟨rfl, HK6.out⟩
end Go.Proofs.YtncbanpimfhhbaaGreatDoor
