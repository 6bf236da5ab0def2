/- The program's nearest: the real of digits and a power. -/
import Derived.Test.YtnjbdaonmgadaaaGreatDoorPgJ
namespace Go.Proofs.YtnjbdaonmgadaaaGreatDoor
open Go.RowKit Go.PlainAid

set_option maxRecDepth 1000000 in
set_option maxHeartbeats 2000000 in
theorem nearest_raw (E C0 C1 A1 A2 A3 A4 KT : ByteArray) (k : Int) (R r64 : Nat) (w : World) (hk0 : 0 ≤ k) (hk : k ≤ 18) (hE0 : 0 < E.size) (hE1 : E.size ≤ 19) (hne : E.toList.isEmpty = false)
    (s0 : E.extract 0 1 = C0) (s1 : E.extract 1 E.size = C1) (z0 : C0.size = 1) (z1 : C1.size ≤ 18) (zk : KT.size ≤ 2) (a1 : C0 ++ ⟨#[46]⟩ = A1) (a2 : A1 ++ C1 = A2) (a3 : A2 ++ ⟨#[101]⟩ = A3) (a4 : A3 ++ KT = A4) (q1 : A1.size = 2) (q2 : A2.size ≤ 20) (q3 : A3.size ≤ 21)
    (hF : ∀ w, Calls Tryz.prog 8 #[.int .i64 k, .int .i64 10] w fun e w' => e = .returned (.string KT) ∧ w' = w)
    (hP : ∀ w', Below w.heap.size w w' → Calls Tryz.prog 37 #[.string A4, .int .i64 32] w' fun e w'' => e = .returned (.tuple #[.float .f64 r64, .nilIface]) ∧ Below w'.heap.size w' w'')
    (hC : ∀ w, (convert 59 23 (.float .f64 r64)).run Tryz.prog w = .ok (.float .f32 R) w) :
    Calls Tryz.prog 21 #[.agg #[.string E, .int .i64 k]] w fun e w' => e = .returned (.tuple #[.float .f32 R, .bool true]) ∧ Below w.heap.size w w' := by
  have hW0 : Below w.heap.size w (w.alloc (.cells #[.string E, .int .i64 k] 45)) := (Below.refl w.heap.size w).alloc (Nat.le_refl _) _
  have HP : Hid (∀ w', Below w.heap.size w w' → Calls Tryz.prog 37 #[.string A4, .int .i64 32] w' fun e w'' => e = .returned (.tuple #[.float .f64 r64, .nilIface]) ∧ Below w'.heap.size w' w'') := hP
  clear hP
  have HW : Hid (∀ w', ((∀ b o, b < (w.alloc (.cells #[.string E, .int .i64 k] 45)).heap.size → w'.cell? ⟨b, o, none⟩ = (w.alloc (.cells #[.string E, .int .i64 k] 45)).cell? ⟨b, o, none⟩) ∧ Below (w.alloc (.cells #[.string E, .int .i64 k] 45)).heap.size (w.alloc (.cells #[.string E, .int .i64 k] 45)) w') → Below w.heap.size w w') := fun w' h => hW0.trans (h.2.mono (by simp))
  clear hW0
  have i1 : (1 : Int) ≤ (E.size : Int) := by omega
  have n2 : ¬ 9223372036854775807 < 2 + C1.size := by omega
  have n3 : ¬ 9223372036854775807 < A2.size + 1 := by omega
  have n4 : ¬ 9223372036854775807 < A3.size + KT.size := by omega
  have p46 : (⟨#[46]⟩ : ByteArray).size = 1 := rfl
  have p101 : (⟨#[101]⟩ : ByteArray).size = 1 := rfl
  go_enter Tryz.func21, Tryz.ntmps21
  go_wp2
  go_region_held3 (fun w' => (∀ b o, b < (w.alloc (.cells #[.string E, .int .i64 k] 45)).heap.size → w'.cell? ⟨b, o, none⟩ = (w.alloc (.cells #[.string E, .int .i64 k] 45)).cell? ⟨b, o, none⟩) ∧ Below (w.alloc (.cells #[.string E, .int .i64 k] 45)).heap.size (w.alloc (.cells #[.string E, .int .i64 k] 45)) w')
    (first | exact keep_start | exact keep_next (by assumption) (by assumption))
    (first | (go_at_call 8; refine (hF _).mono ?_; rintro e w1 ⟨rfl, hw1⟩; obtain rfl := hw1.symm) | (go_at_call 37; refine (HP.out _ (HW.out _ (by assumption))).mono ?_; rintro e w1 ⟨rfl, hb⟩))
  all_goals rename_i hH
  all_goals go_wp2
  all_goals go_quiet (fail)
  all_goals go_wp2
  all_goals go_ret2
  all_goals exact ⟨rfl, below_drewN (HW.out _ hH) _⟩
end Go.Proofs.YtnjbdaonmgadaaaGreatDoor
