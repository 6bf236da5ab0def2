/- Conditions: the kind of a part that is made of others. -/
import Derived.Test.YtplbclokoffgkaaGreatDoorCdV
namespace Go.Proofs.YtplbclokoffgkaaGreatDoor
open Go.RowKit Go.PlainAid

set_option maxRecDepth 1000000 in
set_option maxHeartbeats 3200000 in
theorem partKind_op (nm : ByteArray) (vp vx : Value) (k a b R : Int) (m : Nat) (w : World) (hk3 : 3 ≤ k) (hm : madeN k = (m : Int)) (hm2 : m ≤ 2) (hR : ∀ w1, Calls Tryz.prog 40 #[.int .i64 k, .agg #[.int .i64 a, .int .i64 b]] w1 fun e w' => e = .returned (.int .i64 R) ∧ Keep [] w1 w') :
    Calls Tryz.prog 20 #[.agg #[.string nm, vp, vx], .agg #[.int .i64 k, .string ⟨#[]⟩, .int .i64 0, .bool false, .int .i64 0, .float .f32 0, .string ⟨#[]⟩, .slice none 0 0], .agg #[.int .i64 a, .int .i64 b]] w fun e w' => e = .returned (.tuple #[.int .i64 (if hasZ m a b = true then 0 else R), .int .i64 (if hasZ m a b = true then 0 else errK R 70)]) ∧ Keep [] w w' := by
  have HK : Hid (Keep [] w (((w.alloc (.cells #[.string nm, vp, vx] 25)).alloc (.cells (Pt.mk k ⟨#[]⟩ 0 0).cells 36)).alloc (.cells #[.int .i64 a, .int .i64 b] 69))) := ((Keep.alloc1 _ _).alloc _).alloc _
  have hM := fun w1 => made_any k w1
  rw [hm] at hM
  have hmi : (m : Int) ≤ 2 := by omega
  have hC := contains_two a b (w.heap.size + 2) m (((w.alloc (.cells #[.string nm, vp, vx] 25)).alloc (.cells (Pt.mk k ⟨#[]⟩ 0 0).cells 36)).alloc (.cells #[.int .i64 a, .int .i64 b] 69)) hm2 (by go_simp) (by go_simp)
  have b1 : (k == 1) = false := by simp; omega
  have b2 : (k == 2) = false := by simp; omega
  have hm0 : (0 : Int) ≤ (m : Int) := by omega
  clear hk3 hm
  cases hz : hasZ m a b
  · rw [hz] at hC
    simp only [Bool.false_eq_true, if_false]
    clear hz
    by_cases hr : R = 0
    · subst hr
      have e : errK 0 70 = 70 := rfl
      rw [e]
      go_enter Tryz.func20, Tryz.ntmps20
      go_wp2_with fail
      refine (hM _).mono ?_
      rintro e9 w9 ⟨rfl, hw9⟩
      obtain rfl := hw9.symm
      clear hw9
      go_wp2_with fail
      refine hC.mono ?_
      rintro e9 w9 ⟨rfl, hw9⟩
      obtain rfl := hw9.symm
      clear hw9
      go_wp2_with fail
      refine (hR _).mono ?_
      rintro e9 w9 ⟨rfl, k9⟩
      have HK9 : Hid (Keep [] w w9) := HK.out.trans' k9
      clear k9
      go_wp2
      refine bodyPost_ret (v := .tuple #[.int .i64 0, .int .i64 70]) (by simp [results, Tryz.results20, go_sem]) rfl ⟨rfl, HK9.out⟩
    · have hrb : (R == 0) = false := by simpa using hr
      have e : errK R 70 = 0 := if_neg hr
      rw [e]
      clear hr e
      go_enter Tryz.func20, Tryz.ntmps20
      go_wp2_with fail
      refine (hM _).mono ?_
      rintro e9 w9 ⟨rfl, hw9⟩
      obtain rfl := hw9.symm
      clear hw9
      go_wp2_with fail
      refine hC.mono ?_
      rintro e9 w9 ⟨rfl, hw9⟩
      obtain rfl := hw9.symm
      clear hw9
      go_wp2_with fail
      refine (hR _).mono ?_
      rintro e9 w9 ⟨rfl, k9⟩
      have HK9 : Hid (Keep [] w w9) := HK.out.trans' k9
      clear k9
      go_wp2
      refine bodyPost_ret (v := .tuple #[.int .i64 R, .int .i64 0]) (by simp [results, Tryz.results20, go_sem]) rfl ⟨rfl, HK9.out⟩
  · rw [hz] at hC
    simp only [if_true]
    clear hz
    · skip
      go_enter Tryz.func20, Tryz.ntmps20
      go_wp2_with fail
      refine (hM _).mono ?_
      rintro e9 w9 ⟨rfl, hw9⟩
      obtain rfl := hw9.symm
      clear hw9
      go_wp2_with fail
      refine hC.mono ?_
      rintro e9 w9 ⟨rfl, hw9⟩
      obtain rfl := hw9.symm
      clear hw9
      go_wp2
      refine bodyPost_ret (v := .tuple #[.int .i64 0, .int .i64 0]) (by simp [results, Tryz.results20, go_sem]) rfl ⟨rfl, HK.out⟩
end Go.Proofs.YtplbclokoffgkaaGreatDoor
