/- The program's Text at the one number that is asked for. -/
import Derived.Test.YtnjbdaonmgadaaaGreatDoorTxA
import Derived.Lib.AtoiErrMem
namespace Go.Proofs.YtnjbdaonmgadaaaGreatDoor
open Go.RowKit Go.PlainAid

abbrev sG : ByteArray := ⟨#[49, 46, 54, 55, 55, 55, 50, 49, 54]⟩
abbrev sH : ByteArray := ⟨#[49, 54, 55, 55, 55, 50, 49, 54]⟩

set_option maxRecDepth 1000000 in
theorem cutF (w : World) : Calls Tryz.prog 32 #[.string sF, .string ⟨#[101]⟩] w fun e w' => e = .returned (.tuple #[.string sG, .string ⟨#[43, 48, 55]⟩, .bool true]) ∧ ∃ n, w' = w.drewN n := by
  have h := cut_at sF 101 9 (by decide) (by decide) (by decide) w
  have e1 : sF.extract 0 9 = sG := by decide
  have e2 : sF.extract (9 + 1) sF.size = ⟨#[43, 48, 55]⟩ := by decide
  rw [e1, e2] at h
  exact h
theorem atoi_p (w : World) : Calls Tryz.prog 65 #[.string ⟨#[43, 48, 55]⟩] w fun e w' => e = .returned (.tuple #[.int .i64 7, .nilIface]) ∧ Below w.heap.size w w' := by
  refine (Tryz.strconv_Atoi ⟨#[43, 48, 55]⟩ 7 (by decide) (by decide) w).mono ?_
  rintro e w' ⟨rfl, t, rfl⟩
  exact ⟨rfl, Lib.bytesWorld_below w 5 t⟩
theorem replace_p (w : World) (hm : ∃ m, w.cell? ⟨2, 0, none⟩ = some (.int .i64 m)) : Calls Tryz.prog 66 #[.string sG, .string ⟨#[46]⟩, .string ⟨#[]⟩, .int .i64 1] w fun e w' => e = .returned (.string sH) ∧ Below w.heap.size w w' := by
  obtain ⟨m, hm⟩ := hm
  refine (Tryz.strings_Replace_some sG ⟨#[46]⟩ ⟨#[]⟩ 1 m w (by decide) hm (by decide) (by decide) (by decide) (by decide) (by decide)).mono ?_
  rintro e w' ⟨rfl, hb⟩
  have e1 : (⟨(Lib.replaceK (⟨#[46]⟩ : ByteArray).data.toList (⟨#[]⟩ : ByteArray).data.toList (Lib.replaceNum sG.data.toList (⟨#[46]⟩ : ByteArray).data.toList 1) sG.data.toList).toArray⟩ : ByteArray) = sH := by decide
  exact ⟨by rw [e1], hb⟩

set_option maxRecDepth 1000000 in
theorem shortest_p (w : World) (hT : Tabx w) : Calls Tryz.prog 44 #[.float .f32 1266679808] w fun e w' => e = .returned (.tuple #[.string sH, .int .i64 7]) ∧ Below w.heap.size w w' := by
  have hC := conv_p
  have hF := ff_p w hT
  go_enter Tryz.func44, Tryz.ntmps44
  go_wp2_with (first
    | (go_at_call 64; refine hF.mono ?_; rintro e9 w1 ⟨rfl, hb1⟩; have HB1 : Hid (Below w.heap.size w w1) := hb1; clear hb1)
    | (go_at_call 32; refine (cutF _).mono ?_; rintro e9 w2 ⟨rfl, n2, hw2⟩; have HB2 : Hid (Below w.heap.size w w2) := (by rw [hw2]; exact below_drewN HB1.out n2); clear hw2)
    | (go_at_call 65; refine (atoi_p _).mono ?_; rintro e9 w3 ⟨rfl, hb3⟩; have HB3 : Hid (Below w.heap.size w w3) := HB2.out.trans (hb3.mono HB2.out.size); clear hb3)
    | (go_at_call 66; refine (replace_p _ (hT.below HB3.out).most).mono ?_; rintro e9 w4 ⟨rfl, hb4⟩; have HB4 : Hid (Below w.heap.size w w4) := HB3.out.trans (hb4.mono HB3.out.size); clear hb4))
  go_ret2
  exact ⟨rfl, HB4.out⟩
theorem plain_p (w : World) : Calls Tryz.prog 47 #[.string sH, .int .i64 7] w fun e w' => e = .returned (.string ⟨#[49, 54, 55, 55, 55, 50, 49, 54, 46, 48]⟩) ∧ w' = w := by
  have hR := Tryz.strings_Repeat_zero ⟨#[48]⟩
  go_enter Tryz.func47, Tryz.ntmps47
  go_wp2_with (first | (go_at_call 68; refine (hR _).mono ?_; rintro e9 w9 ⟨rfl, hw9⟩; obtain rfl := hw9.symm))
  go_ret
  exact ⟨rfl, rfl⟩
theorem textAbove_p (w : World) (hT : Tabx w) : Calls Tryz.prog 28 #[.float .f32 1266679808] w fun e w' => e = .returned (.string ⟨#[49, 54, 55, 55, 55, 50, 49, 54, 46, 48]⟩) ∧ Below w.heap.size w w' := by
  have hS := shortest_p w hT
  have hI := infinite_any false
  simp only [Bool.false_eq_true, if_false] at hI
  have k1 : (FloatKind.f32.format.order 1266679808 0 == some Ordering.eq) = false := by decide
  have k2 : (FloatKind.f32.format.order 1266679808 2139095040 == some Ordering.eq) = false := by decide
  go_enter Tryz.func28, Tryz.ntmps28
  go_wp2_with (first
    | (go_at_call 19; refine (hI _).mono ?_; rintro e9 w9 ⟨rfl, hw9⟩; obtain rfl := hw9.symm)
    | (go_at_call 44; refine hS.mono ?_; rintro e9 w1 ⟨rfl, hb1⟩)
    | (go_at_call 47; refine (plain_p _).mono ?_; rintro e9 w9 ⟨rfl, hw9⟩; obtain rfl := hw9.symm))
  go_ret
  exact ⟨rfl, hb1⟩
theorem text_p (w : World) (hT : Tabx w) : Calls Tryz.prog 13 #[.float .f32 1266679808] w fun e w' => e = .returned (.string ⟨#[49, 54, 55, 55, 55, 50, 49, 54, 46, 48]⟩) ∧ Below w.heap.size w w' := by
  have hN : ∀ w, Calls Tryz.prog 15 #[.float .f32 1266679808] w fun e w' => e = .returned (.bool false) ∧ w' = w := fun w => isNan_any 1266679808 w
  have hB : ∀ w, Calls Tryz.prog 16 #[.float .f32 1266679808] w fun e w' => e = .returned (.bool false) ∧ w' = w := fun w => below0_any 1266679808 (by decide) w
  have hA := textAbove_p w hT
  go_enter Tryz.func13, Tryz.ntmps13
  go_wp2_with (first
    | (go_at_call 15; refine (hN _).mono ?_; rintro e9 w9 ⟨rfl, hw9⟩; obtain rfl := hw9.symm)
    | (go_at_call 16; refine (hB _).mono ?_; rintro e9 w9 ⟨rfl, hw9⟩; obtain rfl := hw9.symm)
    | (go_at_call 28; refine hA.mono ?_; rintro e9 w1 ⟨rfl, hb1⟩))
  go_ret
  exact ⟨rfl, hb1⟩
end Go.Proofs.YtnjbdaonmgadaaaGreatDoor

