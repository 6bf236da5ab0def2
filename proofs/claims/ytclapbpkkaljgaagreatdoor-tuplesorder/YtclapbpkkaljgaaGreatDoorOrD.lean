/- awake: the tuple's text and its bytes are read as it. -/
import Derived.Test.YtclapbpkkaljgaaGreatDoorOrC
import Derived.Test.YtclapbpkkaljgaaGreatDoorOrA
namespace Go.Proofs.YtclapbpkkaljgaaGreatDoor
open Go.RowKit Go.PlainAid

theorem P8.box {w : World} {b : Nat} {v0 v1 v2 v3 v4 v5 v6 v7 : Value} (h : P8 w b v0 v1 v2 v3 v4 v5 v6 v7) : (∀ X, (w.alloc X).cell? ⟨b, 0, none⟩ = some v0) ∧ (∀ X, (w.alloc X).cell? ⟨b, 1, none⟩ = some v1) ∧ (∀ X, (w.alloc X).cell? ⟨b, 2, none⟩ = some v2) ∧ (∀ X, (w.alloc X).cell? ⟨b, 3, none⟩ = some v3) ∧ (∀ X, (w.alloc X).cell? ⟨b, 4, none⟩ = some v4) ∧ (∀ X, (w.alloc X).cell? ⟨b, 5, none⟩ = some v5) ∧ (∀ X, (w.alloc X).cell? ⟨b, 6, none⟩ = some v6) ∧ (∀ X, (w.alloc X).cell? ⟨b, 7, none⟩ = some v7) :=
  ⟨fun X => (h.keep (Keep.alloc1 w X) (by simp)).c0, fun X => (h.keep (Keep.alloc1 w X) (by simp)).c1, fun X => (h.keep (Keep.alloc1 w X) (by simp)).c2, fun X => (h.keep (Keep.alloc1 w X) (by simp)).c3, fun X => (h.keep (Keep.alloc1 w X) (by simp)).c4, fun X => (h.keep (Keep.alloc1 w X) (by simp)).c5, fun X => (h.keep (Keep.alloc1 w X) (by simp)).c6, fun X => (h.keep (Keep.alloc1 w X) (by simp)).c7⟩
abbrev K0 : K7 := ⟨b1 100, b1 49, b1 114, b1 117, b1 97, ⟨#[]⟩, ⟨#[]⟩⟩
theorem nil_as {w : World} : As w (.slice none 0 0) [] := ⟨by simp, none, 0, rfl, by simp, by omega, fun h => absurd rfl h⟩
theorem same_T0 (w : World) : Calls Tryz.prog 7 #[T0, T0] w fun e w' => e = .returned (.bool true) ∧ Keep [] w w' := by
  have h := tSame_any K0 K0 (.slice none 0 0) (.slice none 0 0) [] [] w nil_as nil_as
  have e : samT K0 K0 [] [] = true := by simp [samT, tkeyB, sameAL]
  rw [e] at h
  exact h
abbrev cells13 : Array Value := #[.int .u8 1, .int .u8 100, .int .u8 1, .int .u8 49, .int .u8 1, .int .u8 114, .int .u8 1, .int .u8 117, .int .u8 1, .int .u8 97, .int .u8 0, .int .u8 0, .int .u8 0]
theorem bs_13 (w : World) : Bs (w.alloc (.cells cells13 5 (0, 0))) (.slice (some ⟨w.heap.size, 0, none⟩) 13 13) [1, 100, 1, 49, 1, 114, 1, 117, 1, 97, 0, 0, 0] := by
  have hr : Row (w.alloc (.cells cells13 5 (0, 0))) (.slice (some ⟨w.heap.size, 0, none⟩) 13 13) [1, 100, 1, 49, 1, 114, 1, 117, 1, 97, 0, 0, 0] :=
    World.ownsRow_lit w cells13 13 (Nat.zero_le _) (by unfold maxLen; omega) rfl
  exact hr.bs

theorem decode_at (w : World) : Calls Tryz.prog 17 #[.slice (some ⟨w.heap.size + 1, 0, none⟩) 13 13] ((w.alloc (.cells #[.string (b1 100), .string (b1 49), .string (b1 114), .string (b1 117), .string (b1 97), .string ⟨#[]⟩, .string ⟨#[]⟩, .slice none 0 0] 28)).alloc (.cells cells13 5 (0, 0))) fun e w' => e = .returned (.tuple #[T0, .int .i64 0]) ∧ Keep [] ((w.alloc (.cells #[.string (b1 100), .string (b1 49), .string (b1 114), .string (b1 117), .string (b1 97), .string ⟨#[]⟩, .string ⟨#[]⟩, .slice none 0 0] 28)).alloc (.cells cells13 5 (0, 0))) w' := by
  have h := bs_13 (w.alloc (.cells #[.string (b1 100), .string (b1 49), .string (b1 114), .string (b1 117), .string (b1 97), .string ⟨#[]⟩, .string ⟨#[]⟩, .slice none 0 0] 28))
  rw [show (w.alloc (.cells #[.string (b1 100), .string (b1 49), .string (b1 114), .string (b1 117), .string (b1 97), .string ⟨#[]⟩, .string ⟨#[]⟩, .slice none 0 0] 28)).heap.size = w.heap.size + 1 by simp] at h
  exact decode_B0 _ _ h

set_option maxRecDepth 1000000 in
set_option maxHeartbeats 800000 in
theorem awake_any (w : World) (h : MaxL w) : Calls Tryz.prog 9 #[] w fun e w' => e = .returned (.bool true) ∧ Keep [] w w' := by
  have hP := fun w1 (k : Keep [] w w1) => parse_S0 w1 (h.keep k)
  have hD := decode_at
  have hS := same_T0
  clear h
  go_enter Tryz.func9, Tryz.ntmps9
  go_wp2_with fail
  refine (hP _ (Keep.alloc1 w _)).mono ?_
  rintro e9 w1 ⟨rfl, k1⟩
  have HK1 : Hid (Keep [] w w1) := (Keep.alloc1 w _).trans' k1
  have HR1 : Hid _ := P8.first k1
  clear k1 hP
  go_wp2_with fail
  refine (hD _).mono ?_
  rintro e9 w2 ⟨rfl, k2⟩
  have HK2 : Hid (Keep [] w w2) := ((HK1.out.alloc _).alloc _).trans' k2
  have HR2 : Hid _ := ((HR1.out.keep (Keep.alloc1 _ _) (by simp)).keep (Keep.alloc1 _ _) (by simp)).keep k2 (by simp)
  have HQ2 : Hid (P8 w2 w1.heap.size (.string (b1 100)) (.string (b1 49)) (.string (b1 114)) (.string (b1 117)) (.string (b1 97)) (.string ⟨#[]⟩) (.string ⟨#[]⟩) (.slice none 0 0)) := ((P8.first (Keep.refl [] (w1.alloc (.cells #[.string (b1 100), .string (b1 49), .string (b1 114), .string (b1 117), .string (b1 97), .string ⟨#[]⟩, .string ⟨#[]⟩, .slice none 0 0] 28)))).keep (Keep.alloc1 _ _) (by simp)).keep k2 (by simp)
  clear k2 hD HK1 HR1
  obtain ⟨c0, c1, c2, c3, c4, c5, c6, c7⟩ := HR2.out.box
  obtain ⟨d0, d1, d2, d3, d4, d5, d6, d7⟩ := HQ2.out.box
  go_wp2_with fail
  refine (hS _).mono ?_
  rintro e9 w3 ⟨rfl, k3⟩
  have HK3 : Hid (Keep [] w w3) := (HK2.out.alloc _).trans' k3
  have HR3 : Hid _ := (HR2.out.keep (Keep.alloc1 _ _) (by simp)).keep k3 (by simp)
  have HQ3 : Hid _ := P8.first k3
  clear k3 HK2 HR2 HQ2 c0 c1 c2 c3 c4 c5 c6 c7 d0 d1 d2 d3 d4 d5 d6 d7
  obtain ⟨c0, c1, c2, c3, c4, c5, c6, c7, cz⟩ := HR3.out
  obtain ⟨d0, d1, d2, d3, d4, d5, d6, d7, dz⟩ := HQ3.out
  go_wp2_with fail
  refine (hS _).mono ?_
  rintro e9 w4 ⟨rfl, k4⟩
  have HK4 : Hid (Keep [] w w4) := HK3.out.trans' k4
  clear k4 HK3 HR3 HQ3 c0 c1 c2 c3 c4 c5 c6 c7 cz d0 d1 d2 d3 d4 d5 d6 d7 dz
  go_wp2
  go_ret
  exact ⟨rfl, HK4.out⟩
end Go.Proofs.YtclapbpkkaljgaaGreatDoor
