/- The walk of IdentSpells. -/
import Derived.Test.YtkkbnbcjkjbepabSpellW
namespace Go.Proofs.Ytkkbnbcjkjbepab
open Go.RowKit Go.PlainAid

theorem mem_low : ∀ n : Nat, n < 256 → memB [97, 98, 99, 100, 101, 102, 103, 104, 105, 106, 107, 108, 109, 110, 111, 112, 113, 114, 115, 116, 117, 118, 119, 120, 121, 122] (n : Int) = smallB (n : Int) := by decide +kernel
theorem mem_name : ∀ n : Nat, n < 256 → memB [97, 98, 99, 100, 101, 102, 103, 104, 105, 106, 107, 108, 109, 110, 111, 112, 113, 114, 115, 116, 117, 118, 119, 120, 121, 122, 48, 49, 50, 51, 52, 53, 54, 55, 56, 57, 95] (n : Int) = inNameB (n : Int) := by decide +kernel
theorem mem_id : ∀ n : Nat, n < 256 → memB [97, 98, 99, 100, 101, 102, 103, 104, 105, 106, 107, 108, 109, 110, 111, 112, 113, 114, 115, 116, 117, 118, 119, 120, 121, 122, 65, 66, 67, 68, 69, 70, 71, 72, 73, 74, 75, 76, 77, 78, 79, 80, 81, 82, 83, 84, 85, 86, 87, 88, 89, 90, 48, 49, 50, 51, 52, 53, 54, 55, 56, 57, 45, 95, 46, 61, 43, 47, 124, 126] (n : Int) = inIdB (n : Int) := by decide +kernel

theorem all_congr (p q : Int → Bool) (l : List UInt8) (h : ∀ n : Nat, n < 256 → p (n : Int) = q (n : Int)) : l.all (fun c => p (c.toNat : Int)) = l.all (fun c => q (c.toNat : Int)) := by
  have e : (fun c : UInt8 => p (c.toNat : Int)) = (fun c : UInt8 => q (c.toNat : Int)) := funext fun c => h c.toNat c.toNat_lt
  rw [e]
theorem low_list : (⟨#[97, 98, 99, 100, 101, 102, 103, 104, 105, 106, 107, 108, 109, 110, 111, 112, 113, 114, 115, 116, 117, 118, 119, 120, 121, 122]⟩ : ByteArray).toList = [97, 98, 99, 100, 101, 102, 103, 104, 105, 106, 107, 108, 109, 110, 111, 112, 113, 114, 115, 116, 117, 118, 119, 120, 121, 122] := ByteArray.toList_mk _
theorem name_list : ((⟨#[97, 98, 99, 100, 101, 102, 103, 104, 105, 106, 107, 108, 109, 110, 111, 112, 113, 114, 115, 116, 117, 118, 119, 120, 121, 122]⟩ : ByteArray) ++ (⟨#[48, 49, 50, 51, 52, 53, 54, 55, 56, 57, 95]⟩ : ByteArray)).toList = [97, 98, 99, 100, 101, 102, 103, 104, 105, 106, 107, 108, 109, 110, 111, 112, 113, 114, 115, 116, 117, 118, 119, 120, 121, 122, 48, 49, 50, 51, 52, 53, 54, 55, 56, 57, 95] := by
  rw [toList_app, low_list, show (⟨#[48, 49, 50, 51, 52, 53, 54, 55, 56, 57, 95]⟩ : ByteArray).toList = [48, 49, 50, 51, 52, 53, 54, 55, 56, 57, 95] from ByteArray.toList_mk _]; rfl
theorem id_list : ((⟨#[97, 98, 99, 100, 101, 102, 103, 104, 105, 106, 107, 108, 109, 110, 111, 112, 113, 114, 115, 116, 117, 118, 119, 120, 121, 122]⟩ : ByteArray) ++ (⟨#[65, 66, 67, 68, 69, 70, 71, 72, 73, 74, 75, 76, 77, 78, 79, 80, 81, 82, 83, 84, 85, 86, 87, 88, 89, 90, 48, 49, 50, 51, 52, 53, 54, 55, 56, 57, 45, 95, 46, 61, 43, 47, 124, 126]⟩ : ByteArray)).toList = [97, 98, 99, 100, 101, 102, 103, 104, 105, 106, 107, 108, 109, 110, 111, 112, 113, 114, 115, 116, 117, 118, 119, 120, 121, 122, 65, 66, 67, 68, 69, 70, 71, 72, 73, 74, 75, 76, 77, 78, 79, 80, 81, 82, 83, 84, 85, 86, 87, 88, 89, 90, 48, 49, 50, 51, 52, 53, 54, 55, 56, 57, 45, 95, 46, 61, 43, 47, 124, 126] := by
  rw [toList_app, low_list, show (⟨#[65, 66, 67, 68, 69, 70, 71, 72, 73, 74, 75, 76, 77, 78, 79, 80, 81, 82, 83, 84, 85, 86, 87, 88, 89, 90, 48, 49, 50, 51, 52, 53, 54, 55, 56, 57, 45, 95, 46, 61, 43, 47, 124, 126]⟩ : ByteArray).toList = [65, 66, 67, 68, 69, 70, 71, 72, 73, 74, 75, 76, 77, 78, 79, 80, 81, 82, 83, 84, 85, 86, 87, 88, 89, 90, 48, 49, 50, 51, 52, 53, 54, 55, 56, 57, 45, 95, 46, 61, 43, 47, 124, 126] from ByteArray.toList_mk _]; rfl
theorem sp_first (s : ByteArray) (h : 0 < s.size) : spellB (s.extract 0 1) 1 (⟨#[97, 98, 99, 100, 101, 102, 103, 104, 105, 106, 107, 108, 109, 110, 111, 112, 113, 114, 115, 116, 117, 118, 119, 120, 121, 122]⟩ : ByteArray) = smallB (hd s.toList) := by
  unfold spellB
  rw [ext_take, ba_toList, low_list, all_congr _ _ _ mem_low]
  rw [show (ba (s.toList.take 1)).size = (s.toList.take 1).length from by rw [← toList_len, ba_toList]]
  rw [← toList_len] at h
  cases hs : s.toList with
  | nil => rw [hs] at h; simp at h
  | cons c l => simp [hd]
theorem sp_name (s : ByteArray) (h : 0 < s.size) : spellB s 32 ((⟨#[97, 98, 99, 100, 101, 102, 103, 104, 105, 106, 107, 108, 109, 110, 111, 112, 113, 114, 115, 116, 117, 118, 119, 120, 121, 122]⟩ : ByteArray) ++ (⟨#[48, 49, 50, 51, 52, 53, 54, 55, 56, 57, 95]⟩ : ByteArray)) = (decide (s.size ≤ 32) && s.toList.all (fun c => inNameB (c.toNat : Int))) := by
  unfold spellB
  rw [name_list, all_congr _ _ _ mem_name, show decide (1 ≤ s.size) = true from by simp; omega, Bool.true_and]
  congr 1
  simp; omega
theorem sp_id (s : ByteArray) : spellB s 64 ((⟨#[97, 98, 99, 100, 101, 102, 103, 104, 105, 106, 107, 108, 109, 110, 111, 112, 113, 114, 115, 116, 117, 118, 119, 120, 121, 122]⟩ : ByteArray) ++ (⟨#[65, 66, 67, 68, 69, 70, 71, 72, 73, 74, 75, 76, 77, 78, 79, 80, 81, 82, 83, 84, 85, 86, 87, 88, 89, 90, 48, 49, 50, 51, 52, 53, 54, 55, 56, 57, 45, 95, 46, 61, 43, 47, 124, 126]⟩ : ByteArray)) = idL s.toList := by
  unfold spellB idL
  rw [id_list, all_congr _ _ _ mem_id, toList_len]
  congr 2
  simp; omega
theorem sp_all (s : ByteArray) (h : 0 < s.size) : nameL s.toList = (spellB (s.extract 0 1) 1 (⟨#[97, 98, 99, 100, 101, 102, 103, 104, 105, 106, 107, 108, 109, 110, 111, 112, 113, 114, 115, 116, 117, 118, 119, 120, 121, 122]⟩ : ByteArray) && spellB s 32 ((⟨#[97, 98, 99, 100, 101, 102, 103, 104, 105, 106, 107, 108, 109, 110, 111, 112, 113, 114, 115, 116, 117, 118, 119, 120, 121, 122]⟩ : ByteArray) ++ (⟨#[48, 49, 50, 51, 52, 53, 54, 55, 56, 57, 95]⟩ : ByteArray)) && !resL s.toList) := by
  rw [sp_first s h, sp_name s h]
  unfold nameL
  rw [toList_len, show decide (1 ≤ s.size) = true from by simp; omega]
  cases smallB (hd s.toList) <;> cases decide (s.size ≤ 32) <;> cases resL s.toList <;> simp

set_option maxHeartbeats 1000000 in
theorem spells_none (s : ByteArray) (w : World) (h0 : s.size = 0) :
    Calls Try.prog 5 #[.string s] w fun e w' => e = .returned (.bool true) ∧ Below w.heap.size w w' := by
  have z0 : ¬ (0 : Int) < (s.size : Int) := by omega
  have hn : nameL s.toList = false := by unfold nameL; rw [toList_len, h0]; rfl
  have hi : idL s.toList = false := by unfold idL; rw [toList_len, h0]; rfl
  have hp := sp_id s
  rw [hi] at hp
  go_enter Try.func5, Try.ntmps5
  go_wp2_with (first | (go_at_call 19; refine (spelled_any _ _ _ _ ?_ ?_).mono ?_; (focus omega); (focus (simp [ByteArray.size]; done)); rintro e w' ⟨rfl, n, rfl⟩) | (go_at_call 21; refine (name_any _ _).mono ?_; rintro e w2 ⟨rfl, hw⟩; obtain rfl := hw.symm) | (go_at_call 22; refine (id_any _ _).mono ?_; rintro e w2 ⟨rfl, hw⟩; obtain rfl := hw.symm) | (go_at_call 20; refine (res20_any _ _).mono ?_; rintro e w2 ⟨rfl, hw⟩; obtain rfl := hw.symm))
  go_ret
  exact ⟨rfl, below_drewN (Below.refl _ _) _⟩

set_option maxHeartbeats 1000000 in
theorem spells_some (s : ByteArray) (w : World) (h0 : 0 < s.size) :
    Calls Try.prog 5 #[.string s] w fun e w' => e = .returned (.bool true) ∧ Below w.heap.size w w' := by
  have z0 : (0 : Int) < (s.size : Int) := by omega
  have hn := sp_all s h0
  have hp := sp_id s
  cases h1 : spellB (s.extract 0 1) 1 (⟨#[97, 98, 99, 100, 101, 102, 103, 104, 105, 106, 107, 108, 109, 110, 111, 112, 113, 114, 115, 116, 117, 118, 119, 120, 121, 122]⟩ : ByteArray)
  · rw [h1, Bool.false_and, Bool.false_and] at hn
    cases hi : idL s.toList
    all_goals
      rw [hi] at hp
      go_enter Try.func5, Try.ntmps5
      go_wp2_with (first | (go_at_call 19; refine (spelled_any _ _ _ _ ?_ ?_).mono ?_; (focus omega); (focus (simp [ByteArray.size]; done)); rintro e w' ⟨rfl, n, rfl⟩) | (go_at_call 21; refine (name_any _ _).mono ?_; rintro e w2 ⟨rfl, hw⟩; obtain rfl := hw.symm) | (go_at_call 22; refine (id_any _ _).mono ?_; rintro e w2 ⟨rfl, hw⟩; obtain rfl := hw.symm) | (go_at_call 20; refine (res20_any _ _).mono ?_; rintro e w2 ⟨rfl, hw⟩; obtain rfl := hw.symm))
      go_ret
      exact ⟨rfl, below_drewN (Below.refl _ _) _⟩
  cases h2 : spellB s 32 ((⟨#[97, 98, 99, 100, 101, 102, 103, 104, 105, 106, 107, 108, 109, 110, 111, 112, 113, 114, 115, 116, 117, 118, 119, 120, 121, 122]⟩ : ByteArray) ++ (⟨#[48, 49, 50, 51, 52, 53, 54, 55, 56, 57, 95]⟩ : ByteArray))
  · rw [h1, h2, Bool.and_false, Bool.false_and] at hn
    cases hi : idL s.toList
    all_goals
      rw [hi] at hp
      go_enter Try.func5, Try.ntmps5
      go_wp2_with (first | (go_at_call 19; refine (spelled_any _ _ _ _ ?_ ?_).mono ?_; (focus omega); (focus (simp [ByteArray.size]; done)); rintro e w' ⟨rfl, n, rfl⟩) | (go_at_call 21; refine (name_any _ _).mono ?_; rintro e w2 ⟨rfl, hw⟩; obtain rfl := hw.symm) | (go_at_call 22; refine (id_any _ _).mono ?_; rintro e w2 ⟨rfl, hw⟩; obtain rfl := hw.symm) | (go_at_call 20; refine (res20_any _ _).mono ?_; rintro e w2 ⟨rfl, hw⟩; obtain rfl := hw.symm))
      go_ret
      exact ⟨rfl, below_drewN (Below.refl _ _) _⟩
  cases h3 : resL s.toList
  all_goals
    rw [h1, h2, h3] at hn
    simp only [Bool.true_and, Bool.not_true, Bool.not_false] at hn
    cases hi : idL s.toList
    all_goals
      rw [hi] at hp
      go_enter Try.func5, Try.ntmps5
      go_wp2_with (first | (go_at_call 19; refine (spelled_any _ _ _ _ ?_ ?_).mono ?_; (focus omega); (focus (simp [ByteArray.size]; done)); rintro e w' ⟨rfl, n, rfl⟩) | (go_at_call 21; refine (name_any _ _).mono ?_; rintro e w2 ⟨rfl, hw⟩; obtain rfl := hw.symm) | (go_at_call 22; refine (id_any _ _).mono ?_; rintro e w2 ⟨rfl, hw⟩; obtain rfl := hw.symm) | (go_at_call 20; refine (res20_any _ _).mono ?_; rintro e w2 ⟨rfl, hw⟩; obtain rfl := hw.symm))
      go_ret
      exact ⟨rfl, below_drewN (Below.refl _ _) _⟩
end Go.Proofs.Ytkkbnbcjkjbepab
