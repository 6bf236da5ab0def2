/- The walk of IdentNumbers. -/
import Derived.Test.YtkkbnbcjkjbepaaIdW
namespace Go.Proofs.Ytkkbnbcjkjbepaa
open Go.RowKit Go.PlainAid

theorem toList_app (a b : ByteArray) : (a ++ b).toList = a.toList ++ b.toList := by simp [ByteArray.toList_eq]
def idRep (k : Nat) : List UInt8 := (List.replicate k [126, 65]).flatten
theorem idRep_succ (k : Nat) : idRep (k + 1) = idRep k ++ [126, 65] := by
  unfold idRep
  rw [List.replicate_succ', List.flatten_append]; simp
theorem idRep_len (k : Nat) : (idRep k).length = 2 * k := by
  unfold idRep; simp; omega
theorem lit97 : (⟨#[97]⟩ : ByteArray).toList = [97] := ByteArray.toList_mk _
theorem lit12665 : (⟨#[126, 65]⟩ : ByteArray).toList = [126, 65] := ByteArray.toList_mk _
theorem lit49 : (⟨#[49]⟩ : ByteArray).toList = [49] := ByteArray.toList_mk _
theorem size_of {a : ByteArray} {l : List UInt8} (h : a.toList = l) : a.size = l.length := by rw [← toList_len, h]
theorem end_name : nameL (List.replicate 32 97) = true ∧ nameL (List.replicate 32 97 ++ [97]) = false ∧ idL (idRep 32) = true ∧ idL (idRep 32 ++ [49]) = false := by decide +kernel

set_option maxHeartbeats 400000 in
theorem numbers_any (w : World) : Calls Try.prog 3 #[] w fun e w' => e = .returned (.bool true) ∧ w' = w := by
  go_enter Try.func3, Try.ntmps3
  go_wp2
  go_loop [1, 2, 3] (fun n d i => ∃ (k : Nat) (a b : ByteArray), k ≤ 32 ∧ n = .string a ∧ d = .string b ∧ i = .int .i64 k ∧ a.size ≤ 32 ∧ b.size ≤ 64 ∧ Hid (a.toList = List.replicate k 97 ∧ b.toList = idRep k)) (fun _ _ i => 32 - (intOf i).toNat)
  case atStart => exact ⟨0, ⟨#[]⟩, ⟨#[]⟩, by omega, rfl, rfl, rfl, by decide, by decide, ByteArray.toList_mk _, ByteArray.toList_mk _⟩
  case round =>
    obtain ⟨k, a, b, hk, rfl, rfl, rfl, sa, sb, H⟩ := hrel
    by_cases hlt : k < 32
    · go_wp2
      go_round
      case rel =>
        have e1 : (a ++ ⟨#[97]⟩).toList = List.replicate (k + 1) 97 := by rw [toList_app, H.out.1, lit97, List.replicate_succ']
        have e2 : (b ++ ⟨#[126, 65]⟩).toList = idRep (k + 1) := by rw [toList_app, H.out.2, lit12665, idRep_succ]
        refine ⟨k + 1, a ++ ⟨#[97]⟩, b ++ ⟨#[126, 65]⟩, by omega, rfl, rfl, by go_num, ?_, ?_, e1, e2⟩
        · rw [size_of e1, List.length_replicate]; omega
        · rw [size_of e2, idRep_len]; omega
      case measure => simp [intOf]; omega
    · have hk' : k = 32 := by omega
      have e := H.out
      rw [hk'] at e
      have n1 : nameL a.toList = true := by rw [e.1]; exact end_name.1
      have n2 : nameL (a ++ ⟨#[97]⟩).toList = false := by rw [toList_app, e.1, lit97]; exact end_name.2.1
      have n3 : idL b.toList = true := by rw [e.2]; exact end_name.2.2.1
      have n4 : idL (b ++ ⟨#[49]⟩).toList = false := by rw [toList_app, e.2, lit49]; exact end_name.2.2.2
      clear e H hk'
      go_wp2_with (first | (go_at_call 4; refine (name_any _ _).mono ?_; rintro e w9 ⟨rfl, hw⟩; obtain rfl := hw.symm) | (go_at_call 5; refine (id_any _ _).mono ?_; rintro e w9 ⟨rfl, hw⟩; obtain rfl := hw.symm))
      go_ret
      exact ⟨rfl, rfl⟩
end Go.Proofs.Ytkkbnbcjkjbepaa
