/- What Object and Subject of package ident answer, for every text. -/
import Derived.Test.YtclapbpkkaljgaaGreatDoorKindW
namespace Go.Proofs.YtclapbpkkaljgaaGreatDoor.Idt
open Go.RowKit Go.PlainAid

def objE (l : List UInt8) : Int := if cutF 58 l = false then 12 else if nameL (cutA 58 l) = false then 10 else if idL (cutB 58 l) = false then 11 else 0
def objT (l : List UInt8) : List UInt8 := if objE l = 0 then cutA 58 l else []
def objI (l : List UInt8) : List UInt8 := if objE l = 0 then cutB 58 l else []

theorem cutA_le (m : Int) (l : List UInt8) : (cutA m l).length ≤ l.length := List.Sublist.length_le (List.takeWhile_sublist _)
theorem cutB_le (m : Int) (l : List UInt8) : (cutB m l).length ≤ l.length := by
  unfold cutB
  have h1 : (l.dropWhile (notM m)).length ≤ l.length := List.Sublist.length_le (List.dropWhile_sublist _)
  rw [List.length_tail]; omega
theorem ba_size (l : List UInt8) : (ba l).size = l.length := by rw [← toList_len, ba_toList]

theorem ret_obj {a a' b b' : ByteArray} {x x' : Int} (ha : a = a') (hb : b = b') (hx : x = x') : Ending.returned (.tuple #[.agg #[.string a, .string b], .int .i64 x]) = .returned (.tuple #[.agg #[.string a', .string b'], .int .i64 x']) := by rw [ha, hb, hx]
theorem below_obj {w : World} {X : Obj} {n o1 o2 : Nat} {u v : Value} : Below w.heap.size w ((((w.alloc X).drewN n).setCell ⟨w.heap.size, o1, none⟩ u).setCell ⟨w.heap.size, o2, none⟩ v) :=
  ((below_drewN ((Below.refl _ _).alloc (Nat.le_refl _) _) n).setCell (Nat.le_refl _) _).setCell (Nat.le_refl _) _

set_option maxHeartbeats 400000 in
theorem object_any (s : ByteArray) (w : World) (hs : s.size ≤ maxLen) :
    Calls Tryz.prog 33 #[.string s] w fun e w' => e = .returned (.tuple #[.agg #[.string (ba (objT s.toList)), .string (ba (objI s.toList))], .int .i64 (objE s.toList)]) ∧ Below w.heap.size w w' := by
  have hba := ba_toList
  cases h1 : cutF 58 s.toList
  · go_enter Tryz.func33, Tryz.ntmps33
    go_wp2_with (first | (go_at_call 52; refine (cut_any _ _ _ hs).mono ?_; rintro e w' ⟨rfl, n, rfl⟩) | (go_at_call 35; refine (name_any _ _).mono ?_; rintro e w' ⟨rfl, rfl⟩) | (go_at_call 37; refine (id_any _ _).mono ?_; rintro e w' ⟨rfl, rfl⟩))
    refine bodyPost_ret (v := .tuple #[.agg #[.string ⟨#[]⟩, .string ⟨#[]⟩], .int .i64 12]) (by simp [results, Tryz.results33, go_sem]) rfl ⟨ret_obj ?_ ?_ ?_, below_obj⟩
    all_goals first | (simp [objT, objI, objE, h1]; done) | (simp [objT, objI, objE, h1]; rfl)

  cases h2 : nameL (cutA 58 s.toList)
  · go_enter Tryz.func33, Tryz.ntmps33
    go_wp2_with (first | (go_at_call 52; refine (cut_any _ _ _ hs).mono ?_; rintro e w' ⟨rfl, n, rfl⟩) | (go_at_call 35; refine (name_any _ _).mono ?_; rintro e w' ⟨rfl, rfl⟩) | (go_at_call 37; refine (id_any _ _).mono ?_; rintro e w' ⟨rfl, rfl⟩))
    refine bodyPost_ret (v := .tuple #[.agg #[.string ⟨#[]⟩, .string ⟨#[]⟩], .int .i64 10]) (by simp [results, Tryz.results33, go_sem]) rfl ⟨ret_obj ?_ ?_ ?_, below_obj⟩
    all_goals first | (simp [objT, objI, objE, h1, h2]; done) | (simp [objT, objI, objE, h1, h2]; rfl)

  cases h3 : idL (cutB 58 s.toList)
  · go_enter Tryz.func33, Tryz.ntmps33
    go_wp2_with (first | (go_at_call 52; refine (cut_any _ _ _ hs).mono ?_; rintro e w' ⟨rfl, n, rfl⟩) | (go_at_call 35; refine (name_any _ _).mono ?_; rintro e w' ⟨rfl, rfl⟩) | (go_at_call 37; refine (id_any _ _).mono ?_; rintro e w' ⟨rfl, rfl⟩))
    refine bodyPost_ret (v := .tuple #[.agg #[.string ⟨#[]⟩, .string ⟨#[]⟩], .int .i64 11]) (by simp [results, Tryz.results33, go_sem]) rfl ⟨ret_obj ?_ ?_ ?_, below_obj⟩
    all_goals first | (simp [objT, objI, objE, h1, h2, h3]; done) | (simp [objT, objI, objE, h1, h2, h3]; rfl)

  go_enter Tryz.func33, Tryz.ntmps33
  go_wp2_with (first | (go_at_call 52; refine (cut_any _ _ _ hs).mono ?_; rintro e w' ⟨rfl, n, rfl⟩) | (go_at_call 35; refine (name_any _ _).mono ?_; rintro e w' ⟨rfl, rfl⟩) | (go_at_call 37; refine (id_any _ _).mono ?_; rintro e w' ⟨rfl, rfl⟩))
  refine bodyPost_ret (v := .tuple #[.agg #[.string (ba (cutA 58 s.toList)), .string (ba (cutB 58 s.toList))], .int .i64 0]) (by simp [results, Tryz.results33, go_sem]) rfl ⟨ret_obj ?_ ?_ ?_, below_obj⟩
  all_goals first | (simp [objT, objI, objE, h1, h2, h3]; done) | (simp [objT, objI, objE, h1, h2, h3]; rfl)
end Go.Proofs.YtclapbpkkaljgaaGreatDoor.Idt

