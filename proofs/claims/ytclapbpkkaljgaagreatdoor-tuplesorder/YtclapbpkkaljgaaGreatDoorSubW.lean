/- What Subject of package ident answers, for every text. -/
import Derived.Test.YtclapbpkkaljgaaGreatDoorReadW
namespace Go.Proofs.YtclapbpkkaljgaaGreatDoor.Idt
open Go.RowKit Go.PlainAid

def subE (l : List UInt8) : Int :=
  if cutF 58 l = false then 13 else if nameL (cutA 58 l) = false then 10 else if (cutB 58 l == [42]) = true then 0
  else if idL (cutA 35 (cutB 58 l)) = false then 11 else if cutF 35 (cutB 58 l) = true ∧ nameL (cutB 35 (cutB 58 l)) = false then 10 else 0
def subT (l : List UInt8) : List UInt8 := if subE l = 0 then cutA 58 l else []
def subI (l : List UInt8) : List UInt8 := if subE l = 0 then (if (cutB 58 l == [42]) = true then [42] else cutA 35 (cutB 58 l)) else []
def subR (l : List UInt8) : List UInt8 := if subE l = 0 then (if (cutB 58 l == [42]) = true then [] else cutB 35 (cutB 58 l)) else []

theorem ret_sub {a a' b b' c c' : ByteArray} {x x' : Int} (ha : a = a') (hb : b = b') (hc : c = c') (hx : x = x') : Ending.returned (.tuple #[.agg #[.string a, .string b, .string c], .int .i64 x]) = .returned (.tuple #[.agg #[.string a', .string b', .string c'], .int .i64 x']) := by rw [ha, hb, hc, hx]
theorem below_sub1 {w : World} {X : Obj} {n o1 o2 o3 : Nat} {u v x : Value} : Below w.heap.size w (((((w.alloc X).drewN n).setCell ⟨w.heap.size, o1, none⟩ u).setCell ⟨w.heap.size, o2, none⟩ v).setCell ⟨w.heap.size, o3, none⟩ x) :=
  (((below_drewN ((Below.refl _ _).alloc (Nat.le_refl _) _) n).setCell (Nat.le_refl _) _).setCell (Nat.le_refl _) _).setCell (Nat.le_refl _) _

set_option maxHeartbeats 1000000 in
theorem subject_any (s : ByteArray) (w : World) (hs : s.size ≤ maxLen) :
    Calls Tryz.prog 34 #[.string s] w fun e w' => e = .returned (.tuple #[.agg #[.string (ba (subT s.toList)), .string (ba (subI s.toList)), .string (ba (subR s.toList))], .int .i64 (subE s.toList)]) ∧ Below w.heap.size w w' := by
  have hba := ba_toList
  have hs2 : (ba (cutB 58 s.toList)).size ≤ maxLen := by
    rw [ba_size]; have := cutB_le 58 s.toList; rw [toList_len] at this; omega
  cases h1 : cutF 58 s.toList
  · go_enter Tryz.func34, Tryz.ntmps34
    go_wp2_with (first | (go_at_call 52; refine (cut_any _ _ _ (by first | exact hs | exact hs2)).mono ?_; rintro e w' ⟨rfl, n, rfl⟩) | (go_at_call 35; refine (name_any _ _).mono ?_; rintro e w' ⟨rfl, rfl⟩) | (go_at_call 37; refine (id_any _ _).mono ?_; rintro e w' ⟨rfl, rfl⟩))
    refine bodyPost_ret (v := .tuple #[.agg #[.string ⟨#[]⟩, .string ⟨#[]⟩, .string ⟨#[]⟩], .int .i64 13]) (by simp [results, Tryz.results34, go_sem]) rfl ⟨ret_sub ?_ ?_ ?_ ?_, below_sub1⟩
    all_goals first | (simp [subT, subI, subR, subE, h1]; done) | (simp [subT, subI, subR, subE, h1]; rfl)

  cases h2 : nameL (cutA 58 s.toList)
  · go_enter Tryz.func34, Tryz.ntmps34
    go_wp2_with (first | (go_at_call 52; refine (cut_any _ _ _ (by first | exact hs | exact hs2)).mono ?_; rintro e w' ⟨rfl, n, rfl⟩) | (go_at_call 35; refine (name_any _ _).mono ?_; rintro e w' ⟨rfl, rfl⟩) | (go_at_call 37; refine (id_any _ _).mono ?_; rintro e w' ⟨rfl, rfl⟩))
    refine bodyPost_ret (v := .tuple #[.agg #[.string ⟨#[]⟩, .string ⟨#[]⟩, .string ⟨#[]⟩], .int .i64 10]) (by simp [results, Tryz.results34, go_sem]) rfl ⟨ret_sub ?_ ?_ ?_ ?_, below_sub1⟩
    all_goals first | (simp [subT, subI, subR, subE, h1, h2]; done) | (simp [subT, subI, subR, subE, h1, h2]; rfl)

  cases h3 : (cutB 58 s.toList == [42])
  case true =>
    go_enter Tryz.func34, Tryz.ntmps34
    go_wp2_with (first | (go_at_call 52; refine (cut_any _ _ _ (by first | exact hs | exact hs2)).mono ?_; rintro e w' ⟨rfl, n, rfl⟩) | (go_at_call 35; refine (name_any _ _).mono ?_; rintro e w' ⟨rfl, rfl⟩) | (go_at_call 37; refine (id_any _ _).mono ?_; rintro e w' ⟨rfl, rfl⟩))
    refine bodyPost_ret (v := .tuple #[.agg #[.string (ba (cutA 58 s.toList)), .string ⟨#[42]⟩, .string ⟨#[]⟩], .int .i64 0]) (by simp [results, Tryz.results34, go_sem]) rfl ⟨ret_sub ?_ ?_ ?_ ?_, below_sub1⟩
    all_goals first | (simp [subT, subI, subR, subE, h1, h2, h3]; done) | (simp [subI, subR, subE, h1, h2, h3]; rfl)

  cases h4 : idL (cutA 35 (cutB 58 s.toList))
  · go_enter Tryz.func34, Tryz.ntmps34
    go_wp2_with (first | (go_at_call 52; refine (cut_any _ _ _ (by first | exact hs | exact hs2)).mono ?_; rintro e w' ⟨rfl, n, rfl⟩) | (go_at_call 35; refine (name_any _ _).mono ?_; rintro e w' ⟨rfl, rfl⟩) | (go_at_call 37; refine (id_any _ _).mono ?_; rintro e w' ⟨rfl, rfl⟩))
    refine bodyPost_ret (v := .tuple #[.agg #[.string ⟨#[]⟩, .string ⟨#[]⟩, .string ⟨#[]⟩], .int .i64 11]) (by simp [results, Tryz.results34, go_sem]) rfl ⟨ret_sub ?_ ?_ ?_ ?_, below_sub1⟩
    all_goals first | (simp [subT, subI, subR, subE, h1, h2, h3, h4]; done) | (simp [subT, subI, subR, subE, h1, h2, h3, h4]; rfl)

  cases h5 : cutF 35 (cutB 58 s.toList)
  · go_enter Tryz.func34, Tryz.ntmps34
    go_wp2_with (first | (go_at_call 52; refine (cut_any _ _ _ (by first | exact hs | exact hs2)).mono ?_; rintro e w' ⟨rfl, n, rfl⟩) | (go_at_call 35; refine (name_any _ _).mono ?_; rintro e w' ⟨rfl, rfl⟩) | (go_at_call 37; refine (id_any _ _).mono ?_; rintro e w' ⟨rfl, rfl⟩))
    refine bodyPost_ret (v := .tuple #[.agg #[.string (ba (cutA 58 s.toList)), .string (ba (cutA 35 (cutB 58 s.toList))), .string (ba (cutB 35 (cutB 58 s.toList)))], .int .i64 0]) (by simp [results, Tryz.results34, go_sem]) rfl ⟨ret_sub ?_ ?_ ?_ ?_, below_sub1⟩
    all_goals first | (simp [subT, subI, subR, subE, h1, h2, h3, h4, h5]; done) | (simp [subT, subI, subR, subE, h1, h2, h3, h4, h5]; rfl)

  cases h6 : nameL (cutB 35 (cutB 58 s.toList))
  · go_enter Tryz.func34, Tryz.ntmps34
    go_wp2_with (first | (go_at_call 52; refine (cut_any _ _ _ (by first | exact hs | exact hs2)).mono ?_; rintro e w' ⟨rfl, n, rfl⟩) | (go_at_call 35; refine (name_any _ _).mono ?_; rintro e w' ⟨rfl, rfl⟩) | (go_at_call 37; refine (id_any _ _).mono ?_; rintro e w' ⟨rfl, rfl⟩))
    refine bodyPost_ret (v := .tuple #[.agg #[.string ⟨#[]⟩, .string ⟨#[]⟩, .string ⟨#[]⟩], .int .i64 10]) (by simp [results, Tryz.results34, go_sem]) rfl ⟨ret_sub ?_ ?_ ?_ ?_, below_sub1⟩
    all_goals first | (simp [subT, subI, subR, subE, h1, h2, h3, h4, h5, h6]; done) | (simp [subT, subI, subR, subE, h1, h2, h3, h4, h5, h6]; rfl)

  go_enter Tryz.func34, Tryz.ntmps34
  go_wp2_with (first | (go_at_call 52; refine (cut_any _ _ _ (by first | exact hs | exact hs2)).mono ?_; rintro e w' ⟨rfl, n, rfl⟩) | (go_at_call 35; refine (name_any _ _).mono ?_; rintro e w' ⟨rfl, rfl⟩) | (go_at_call 37; refine (id_any _ _).mono ?_; rintro e w' ⟨rfl, rfl⟩))
  refine bodyPost_ret (v := .tuple #[.agg #[.string (ba (cutA 58 s.toList)), .string (ba (cutA 35 (cutB 58 s.toList))), .string (ba (cutB 35 (cutB 58 s.toList)))], .int .i64 0]) (by simp [results, Tryz.results34, go_sem]) rfl ⟨ret_sub ?_ ?_ ?_ ?_, below_sub1⟩
  all_goals first | (simp [subT, subI, subR, subE, h1, h2, h3, h4, h5, h6]; done) | (simp [subT, subI, subR, subE, h1, h2, h3, h4, h5, h6]; rfl)
end Go.Proofs.YtclapbpkkaljgaaGreatDoor.Idt

