/- The program's Parse at the two texts that are asked for. -/
import Derived.Test.YtnjbdaonmgadaaaGreatDoorPsA
namespace Go.Proofs.YtnjbdaonmgadaaaGreatDoor
open Go.RowKit Go.PlainAid

theorem cutPrefix_no (s : ByteArray) (h : Lib.hasPrefix s.data.toList [45] = false) (w : World) : Calls Tryz.prog 17 #[.string s, .string ⟨#[45]⟩] w fun e w' => e = .returned (.tuple #[.string s, .bool false]) ∧ w' = w := by
  have := Tryz.strings_CutPrefix s ⟨#[45]⟩ w
  have e1 : Lib.hasPrefix s.data.toList (⟨#[45]⟩ : ByteArray).data.toList = false := h
  have e2 : (⟨(Lib.trimPrefix s.data.toList (⟨#[45]⟩ : ByteArray).data.toList).toArray⟩ : ByteArray) = s := by
    unfold Lib.trimPrefix
    rw [e1]
    rfl
  rw [e1, e2] at this
  exact this

abbrev sA : ByteArray := ⟨#[49, 54, 55, 55, 55, 50, 49, 55, 46, 48]⟩
abbrev sB : ByteArray := ⟨#[49, 54, 55, 55, 55, 50, 49, 55]⟩

set_option maxRecDepth 1000000 in
theorem cutA (w : World) : Calls Tryz.prog 32 #[.string sA, .string ⟨#[46]⟩] w fun e w' => e = .returned (.tuple #[.string sB, .string ⟨#[48]⟩, .bool true]) ∧ ∃ n, w' = w.drewN n := by
  have h := cut_at sA 46 8 (by decide) (by decide) (by decide) w
  have e1 : sA.extract 0 8 = sB := by decide
  have e2 : sA.extract (8 + 1) sA.size = ⟨#[48]⟩ := by decide
  rw [e1, e2] at h
  exact h
theorem digits_B (w : World) : Calls Tryz.prog 33 #[.string sB] w fun e w' => e = .returned (.bool true) ∧ w' = w :=
  allDigits_yes sB (by decide) (by decide) (by decide) w
theorem digits_0 (w : World) : Calls Tryz.prog 33 #[.string ⟨#[48]⟩] w fun e w' => e = .returned (.bool true) ∧ w' = w :=
  allDigits_yes ⟨#[48]⟩ (by decide) (by decide) (by decide) w
theorem trimL_p (w : World) : Calls Tryz.prog 35 #[.string ⟨#[49, 54, 55, 55, 55, 50, 49, 55, 48]⟩, .string ⟨#[48]⟩] w fun e w' => e = .returned (.string ⟨#[49, 54, 55, 55, 55, 50, 49, 55, 48]⟩) ∧ w' = w :=
  Tryz.strings_TrimLeft_one ⟨#[49, 54, 55, 55, 55, 50, 49, 55, 48]⟩ 48 (by decide) w
theorem trimR_p (w : World) : Calls Tryz.prog 36 #[.string ⟨#[49, 54, 55, 55, 55, 50, 49, 55, 48]⟩, .string ⟨#[48]⟩] w fun e w' => e = .returned (.string sB) ∧ w' = w :=
  Tryz.strings_TrimRight_one ⟨#[49, 54, 55, 55, 55, 50, 49, 55, 48]⟩ 48 (by decide) w (by decide)

set_option maxRecDepth 1000000 in
set_option maxHeartbeats 1000000 in
theorem cut_p (w : World) : Calls Tryz.prog 20 #[.string sA] w fun e w' => e = .returned (.tuple #[.agg #[.string sB, .int .i64 7], .bool true]) ∧ Below w.heap.size w w' := by
  have h1 := cut_none sA 101 (by decide)
  have h2 := cutA
  have h3 := cutPrefix_no ⟨#[]⟩ (by decide)
  go_enter Tryz.func20, Tryz.ntmps20
  go_wp2_with (first
    | (go_at_call_of 32 (Value.string ⟨#[101]⟩); refine (h1 _).mono ?_; rintro e9 w9 ⟨rfl, hw9⟩; obtain rfl := hw9.symm)
    | (go_at_call_of 32 (Value.string ⟨#[46]⟩); refine (h2 _).mono ?_; rintro e9 w9 ⟨rfl, n9, rfl⟩)
    | (go_at_call 17; refine (h3 _).mono ?_; rintro e9 w9 ⟨rfl, hw9⟩; obtain rfl := hw9.symm)
    | (go_at_call_of 33 (Value.string sB); refine (digits_B _).mono ?_; rintro e9 w9 ⟨rfl, hw9⟩; obtain rfl := hw9.symm)
    | (go_at_call 33; refine (digits_0 _).mono ?_; rintro e9 w9 ⟨rfl, hw9⟩; obtain rfl := hw9.symm)
    | (go_at_call 34; refine (atMostFar_none _).mono ?_; rintro e9 w9 ⟨rfl, hw9⟩; obtain rfl := hw9.symm)
    | (go_at_call 35; refine (trimL_p _).mono ?_; rintro e9 w9 ⟨rfl, hw9⟩; obtain rfl := hw9.symm)
    | (go_at_call 36; refine (trimR_p _).mono ?_; rintro e9 w9 ⟨rfl, hw9⟩; obtain rfl := hw9.symm))
  refine bodyPost_ret (v := .tuple #[.agg #[.string sB, .int .i64 7], .bool true]) (by simp [results, Tryz.results20, go_sem]) rfl ⟨rfl, by go_grown; exact below_drewN (by go_grown) _⟩

set_option maxRecDepth 1000000 in
theorem cut_q (w : World) : Calls Tryz.prog 20 #[.string ⟨#[49]⟩] w fun e w' => e = .returned (.tuple #[.agg #[.string ⟨#[]⟩, .int .i64 0], .bool false]) ∧ Below w.heap.size w w' := by
  have h1 := cut_none ⟨#[49]⟩ 101 (by decide)
  have h2 := cut_none ⟨#[49]⟩ 46 (by decide)
  have h3 := cutPrefix_no ⟨#[]⟩ (by decide)
  go_enter Tryz.func20, Tryz.ntmps20
  go_wp2_with (first
    | (go_at_call_of 32 (Value.string ⟨#[101]⟩); refine (h1 _).mono ?_; rintro e9 w9 ⟨rfl, hw9⟩; obtain rfl := hw9.symm)
    | (go_at_call_of 32 (Value.string ⟨#[46]⟩); refine (h2 _).mono ?_; rintro e9 w9 ⟨rfl, hw9⟩; obtain rfl := hw9.symm)
    | (go_at_call 17; refine (h3 _).mono ?_; rintro e9 w9 ⟨rfl, hw9⟩; obtain rfl := hw9.symm))
  refine bodyPost_ret (v := .tuple #[.agg #[.string ⟨#[]⟩, .int .i64 0], .bool false]) (by simp [results, Tryz.results20, go_sem]) rfl ⟨rfl, by go_grown⟩
end Go.Proofs.YtnjbdaonmgadaaaGreatDoor

