/- The piece with which a text begins. -/
import Derived.Test.YtmglbcldjhdhkabTkH
namespace Go.Proofs.Ytmglbcldjhdhkab
open Go.RowKit Go.PlainAid

theorem class_vals (c : Int) : classI c = 0 ∨ classI c = 1 ∨ classI c = 2 ∨ classI c = 3 ∨ classI c = 4 ∨ classI c = 5 ∨ classI c = 6 ∨ classI c = 7 ∨ classI c = 8 := by
  unfold classI
  repeat' split
  all_goals simp
theorem class_quote {c : Int} (h : classI c = 5) : c = 34 := by
  unfold classI at h
  repeat' split at h
  all_goals first | assumption | (exfalso; omega)

theorem w32 {x : Int} (h0 : 0 ≤ x) (h1 : x ≤ 255) : wrap32 x = x := by rw [← i32_is]; exact IntWalk.i32_in x ⟨by omega, by omega⟩
theorem w32_bt (s : ByteArray) (k : Nat) : wrap32 (bt s k) = bt s k := w32 (bt_nonneg s k) (bt_le s k)

set_option maxRecDepth 1000000 in
set_option maxHeartbeats 2000000 in
theorem piece_any (s : ByteArray) (w : World) (hs : s.size ≤ 140737488355327) :
    Calls Try.prog 17 #[.string s] w fun e w' => e = .returned (.agg #[.int .i64 (pieceL s.toList).kind, .string (ba (pieceL s.toList).text), .int .i64 ((pieceL s.toList).size : Int)]) ∧ Keep [] w w' := by
  have hb := get_bt s
  by_cases h0 : s.size = 0
  · have hl : s.toList = [] := List.eq_nil_of_length_eq_zero (by rw [toList_len, h0])
    have hP : Hid (pieceL s.toList = ⟨0, [], 0⟩) := by show _ = _; rw [hl]; rfl
    go_enter Try.func17, Try.ntmps17
    go_wp2_with (go_at_call 29; refine (refused_any _ _).mono ?_; rintro e w1 ⟨rfl, k1⟩; obtain ⟨c0, c1, c2, f0, f1, f2⟩ := box3 (new_kept k1 (by simp)))
    refine bodyPost_ret (v := .agg #[.int .i64 0, .string (ba []), .int .i64 0]) (by simp [results, Try.results17, go_sem, c0, c1, c2]) rfl ⟨by rw [hP.out]; rfl, keep_box k1 _ _ _⟩
  have hlt : 0 < s.size := by omega
  obtain ⟨c, hc, hbc⟩ := bt_drop s 0 hlt
  rw [List.drop_zero] at hc
  have hne : s.toList.isEmpty = false := by rw [hc]; rfl
  have hP : Hid (pieceL s.toList = pieceL (c :: s.toList.drop 1)) := by show _ = _; rw [← hc]
  have hc' : Hid (s.toList = c :: s.toList.drop 1) := hc
  clear hc
  rw [pieceL, ← hbc] at hP
  have hw0 := w32_bt s 0
  rcases class_vals (bt s 0) with k | k | k | k | k | k | k | k | k
  · have hP2 : Hid (pieceL s.toList = ⟨0, [], 0⟩) := by show _ = _; rw [hP.out, k]; rfl
    clear hP hbc
    go_enter Try.func17, Try.ntmps17
    go_wp2_with (first | (go_at_call 27; refine (class_any _ _).mono ?_; rintro e w' ⟨rfl, hw'⟩; obtain rfl := hw'.symm) | (go_at_call 29; refine (refused_any _ _).mono ?_; rintro e w1 ⟨rfl, k1⟩; obtain ⟨c0, c1, c2, f0, f1, f2⟩ := box3 (new_kept k1 (by simp))))
    refine bodyPost_ret (v := .agg #[.int .i64 0, .string (ba []), .int .i64 0]) (by simp [results, Try.results17, go_sem, c0, c1, c2]) rfl ⟨by rw [hP2.out]; try rfl, keep_box k1 _ _ _⟩
  · have hP2 : Hid (pieceL s.toList = ⟨0, [], 0⟩) := by show _ = _; rw [hP.out, k]; rfl
    clear hP hbc
    go_enter Try.func17, Try.ntmps17
    go_wp2_with (first | (go_at_call 27; refine (class_any _ _).mono ?_; rintro e w' ⟨rfl, hw'⟩; obtain rfl := hw'.symm) | (go_at_call 29; refine (refused_any _ _).mono ?_; rintro e w1 ⟨rfl, k1⟩; obtain ⟨c0, c1, c2, f0, f1, f2⟩ := box3 (new_kept k1 (by simp))))
    refine bodyPost_ret (v := .agg #[.int .i64 0, .string (ba []), .int .i64 0]) (by simp [results, Try.results17, go_sem, c0, c1, c2]) rfl ⟨by rw [hP2.out]; try rfl, keep_box k1 _ _ _⟩
  · have hP2 : Hid (pieceL s.toList = rowL s.toList) := by show _ = _; rw [hP.out, k]; exact congrArg rowL hc'.out.symm
    clear hP hbc
    go_enter Try.func17, Try.ntmps17
    go_wp2_with (first | (go_at_call 27; refine (class_any _ _).mono ?_; rintro e w' ⟨rfl, hw'⟩; obtain rfl := hw'.symm) | (go_at_call 30; refine (row_any _ _).mono ?_; rintro e w1 ⟨rfl, k1⟩; obtain ⟨c0, c1, c2, f0, f1, f2⟩ := box3 (new_kept k1 (by simp))))
    refine bodyPost_ret (v := .agg #[.int .i64 (rowL s.toList).kind, .string (ba (rowL s.toList).text), .int .i64 ((rowL s.toList).size : Int)]) (by simp [results, Try.results17, go_sem, c0, c1, c2]) rfl ⟨by rw [hP2.out]; try rfl, keep_box k1 _ _ _⟩
  · have hP2 : Hid (pieceL s.toList = numberL s.toList) := by show _ = _; rw [hP.out, k]; exact congrArg numberL hc'.out.symm
    clear hP hbc
    go_enter Try.func17, Try.ntmps17
    go_wp2_with (first | (go_at_call 27; refine (class_any _ _).mono ?_; rintro e w' ⟨rfl, hw'⟩; obtain rfl := hw'.symm) | (go_at_call 31; refine (number_any _ _).mono ?_; rintro e w1 ⟨rfl, k1⟩; obtain ⟨c0, c1, c2, f0, f1, f2⟩ := box3 (new_kept k1 (by simp))))
    refine bodyPost_ret (v := .agg #[.int .i64 (numberL s.toList).kind, .string (ba (numberL s.toList).text), .int .i64 ((numberL s.toList).size : Int)]) (by simp [results, Try.results17, go_sem, c0, c1, c2]) rfl ⟨by rw [hP2.out]; try rfl, keep_box k1 _ _ _⟩
  · have hP2 : Hid (pieceL s.toList = ⟨0, [], 0⟩) := by show _ = _; rw [hP.out, k]; rfl
    clear hP hbc
    go_enter Try.func17, Try.ntmps17
    go_wp2_with (first | (go_at_call 27; refine (class_any _ _).mono ?_; rintro e w' ⟨rfl, hw'⟩; obtain rfl := hw'.symm) | (go_at_call 29; refine (refused_any _ _).mono ?_; rintro e w1 ⟨rfl, k1⟩; obtain ⟨c0, c1, c2, f0, f1, f2⟩ := box3 (new_kept k1 (by simp))))
    refine bodyPost_ret (v := .agg #[.int .i64 0, .string (ba []), .int .i64 0]) (by simp [results, Try.results17, go_sem, c0, c1, c2]) rfl ⟨by rw [hP2.out]; try rfl, keep_box k1 _ _ _⟩
  · have hP2 : Hid (pieceL s.toList = quotedL s.toList) := by show _ = _; rw [hP.out, k]; exact congrArg quotedL hc'.out.symm
    have hq34 : Hid (bt s 0 = 34) := class_quote k
    clear hP hbc
    go_enter Try.func17, Try.ntmps17
    go_wp2_with (first | (go_at_call 27; refine (class_any _ _).mono ?_; rintro e w' ⟨rfl, hw'⟩; obtain rfl := hw'.symm) | (go_at_call 32; refine (quoted_any _ _ (by omega) hq34.out hs).mono ?_; rintro e w1 ⟨rfl, k1⟩; obtain ⟨c0, c1, c2, f0, f1, f2⟩ := box3 (new_kept k1 (by simp))))
    refine bodyPost_ret (v := .agg #[.int .i64 (quotedL s.toList).kind, .string (ba (quotedL s.toList).text), .int .i64 ((quotedL s.toList).size : Int)]) (by simp [results, Try.results17, go_sem, c0, c1, c2]) rfl ⟨by rw [hP2.out]; try rfl, keep_box k1 _ _ _⟩
  · have hP2 : Hid (pieceL s.toList = ⟨6, s.toList.take 1, 1⟩) := by show _ = _; rw [hP.out, k]; rw [hc'.out]; rfl
    clear hP hbc
    go_enter Try.func17, Try.ntmps17
    go_wp2_with (first | (go_at_call 27; refine (class_any _ _).mono ?_; rintro e w' ⟨rfl, hw'⟩; obtain rfl := hw'.symm) | (go_at_call 33; refine (mark_any s 1 (by omega) _).mono ?_; rintro e w1 ⟨rfl, k1⟩; obtain ⟨c0, c1, c2, f0, f1, f2⟩ := box3 (new_kept k1 (by simp))))
    refine bodyPost_ret (v := .agg #[.int .i64 6, .string (ba (s.toList.take 1)), .int .i64 1]) (by simp [results, Try.results17, go_sem, c0, c1, c2]) rfl ⟨by rw [hP2.out]; try rfl, keep_box k1 _ _ _⟩
  · by_cases hd : 1 < s.size ∧ bt s 1 = 61
    · obtain ⟨hd1, hd2⟩ := hd
      have hP2 : Hid (pieceL s.toList = ⟨6, s.toList.take 2, 2⟩) := by
        show _ = _
        obtain ⟨c2, e2, e3⟩ := bt_drop s 1 hd1
        have : c2 = 61 := by apply UInt8.toNat_inj.1; show c2.toNat = 61; omega
        subst this
        rw [hP.out, k, hc'.out]
        rw [e2]
        rfl
      clear hP hbc
      have hi1 : (1 : Int) < (s.size : Int) := by omega
      go_enter Try.func17, Try.ntmps17
      go_wp2_with (first | (go_at_call 27; refine (class_any _ _).mono ?_; rintro e w' ⟨rfl, hw'⟩; obtain rfl := hw'.symm) | (go_at_call 33; refine (mark_any s 2 (by omega) _).mono ?_; rintro e w1 ⟨rfl, k1⟩; obtain ⟨c0, c1, c2, f0, f1, f2⟩ := box3 (new_kept k1 (by simp))))
      refine bodyPost_ret (v := .agg #[.int .i64 6, .string (ba (s.toList.take 2)), .int .i64 2]) (by simp [results, Try.results17, go_sem, c0, c1, c2]) rfl ⟨by rw [hP2.out]; try rfl, keep_box k1 _ _ _⟩
    · have hP2 : Hid (pieceL s.toList = ⟨6, s.toList.take 1, 1⟩) := by
        show _ = _
        have hh : ¬ ((s.toList.drop 1).head? = some 61) := by
          intro h
          by_cases h1 : 1 < s.size
          · obtain ⟨c2, e2, e3⟩ := bt_drop s 1 h1
            rw [e2] at h
            simp at h
            subst h
            exact hd ⟨h1, e3⟩
          · rw [drop_end s 1 h1] at h
            simp at h
        rw [hP.out, k, if_neg (by decide), if_neg (by decide), if_neg (by decide), if_neg (by decide), if_pos (by decide), if_neg hh]
        first | rfl | (rw [hc'.out]; rfl)
      clear hP hbc
      by_cases hd1 : 1 < s.size
      · have hd2 : (bt s 1 == 61) = false := by simpa using fun h => hd ⟨hd1, h⟩
        have hi1 : (1 : Int) < (s.size : Int) := by omega
        clear hd
        go_enter Try.func17, Try.ntmps17
        go_wp2_with (first | (go_at_call 27; refine (class_any _ _).mono ?_; rintro e w' ⟨rfl, hw'⟩; obtain rfl := hw'.symm) | (go_at_call 33; refine (mark_any s 1 (by omega) _).mono ?_; rintro e w1 ⟨rfl, k1⟩; obtain ⟨c0, c1, c2, f0, f1, f2⟩ := box3 (new_kept k1 (by simp))))
        refine bodyPost_ret (v := .agg #[.int .i64 6, .string (ba (s.toList.take 1)), .int .i64 1]) (by simp [results, Try.results17, go_sem, c0, c1, c2]) rfl ⟨by rw [hP2.out]; try rfl, keep_box k1 _ _ _⟩
      · have hi1 : ¬ (1 : Int) < (s.size : Int) := by omega
        clear hd
        go_enter Try.func17, Try.ntmps17
        go_wp2_with (first | (go_at_call 27; refine (class_any _ _).mono ?_; rintro e w' ⟨rfl, hw'⟩; obtain rfl := hw'.symm) | (go_at_call 33; refine (mark_any s 1 (by omega) _).mono ?_; rintro e w1 ⟨rfl, k1⟩; obtain ⟨c0, c1, c2, f0, f1, f2⟩ := box3 (new_kept k1 (by simp))))
        refine bodyPost_ret (v := .agg #[.int .i64 6, .string (ba (s.toList.take 1)), .int .i64 1]) (by simp [results, Try.results17, go_sem, c0, c1, c2]) rfl ⟨by rw [hP2.out]; try rfl, keep_box k1 _ _ _⟩
  · by_cases hd : 1 < s.size ∧ bt s 1 = 61
    · obtain ⟨hd1, hd2⟩ := hd
      have hP2 : Hid (pieceL s.toList = ⟨6, s.toList.take 2, 2⟩) := by
        show _ = _
        obtain ⟨c2, e2, e3⟩ := bt_drop s 1 hd1
        have : c2 = 61 := by apply UInt8.toNat_inj.1; show c2.toNat = 61; omega
        subst this
        rw [hP.out, k, hc'.out]
        rw [e2]
        rfl
      clear hP hbc
      have hi1 : (1 : Int) < (s.size : Int) := by omega
      go_enter Try.func17, Try.ntmps17
      go_wp2_with (first | (go_at_call 27; refine (class_any _ _).mono ?_; rintro e w' ⟨rfl, hw'⟩; obtain rfl := hw'.symm) | (go_at_call 33; refine (mark_any s 2 (by omega) _).mono ?_; rintro e w1 ⟨rfl, k1⟩; obtain ⟨c0, c1, c2, f0, f1, f2⟩ := box3 (new_kept k1 (by simp))))
      refine bodyPost_ret (v := .agg #[.int .i64 6, .string (ba (s.toList.take 2)), .int .i64 2]) (by simp [results, Try.results17, go_sem, c0, c1, c2]) rfl ⟨by rw [hP2.out]; try rfl, keep_box k1 _ _ _⟩
    · have hP2 : Hid (pieceL s.toList = ⟨0, [], 1⟩) := by
        show _ = _
        have hh : ¬ ((s.toList.drop 1).head? = some 61) := by
          intro h
          by_cases h1 : 1 < s.size
          · obtain ⟨c2, e2, e3⟩ := bt_drop s 1 h1
            rw [e2] at h
            simp at h
            subst h
            exact hd ⟨h1, e3⟩
          · rw [drop_end s 1 h1] at h
            simp at h
        rw [hP.out, k, if_neg (by decide), if_neg (by decide), if_neg (by decide), if_neg (by decide), if_pos (by decide), if_neg hh]
        first | rfl | (rw [hc'.out]; rfl)
      clear hP hbc
      by_cases hd1 : 1 < s.size
      · have hd2 : (bt s 1 == 61) = false := by simpa using fun h => hd ⟨hd1, h⟩
        have hi1 : (1 : Int) < (s.size : Int) := by omega
        clear hd
        go_enter Try.func17, Try.ntmps17
        go_wp2_with (first | (go_at_call 27; refine (class_any _ _).mono ?_; rintro e w' ⟨rfl, hw'⟩; obtain rfl := hw'.symm) | (go_at_call 29; refine (refused_any _ _).mono ?_; rintro e w1 ⟨rfl, k1⟩; obtain ⟨c0, c1, c2, f0, f1, f2⟩ := box3 (new_kept k1 (by simp))))
        refine bodyPost_ret (v := .agg #[.int .i64 0, .string (ba []), .int .i64 1]) (by simp [results, Try.results17, go_sem, c0, c1, c2]) rfl ⟨by rw [hP2.out]; try rfl, keep_box k1 _ _ _⟩
      · have hi1 : ¬ (1 : Int) < (s.size : Int) := by omega
        clear hd
        go_enter Try.func17, Try.ntmps17
        go_wp2_with (first | (go_at_call 27; refine (class_any _ _).mono ?_; rintro e w' ⟨rfl, hw'⟩; obtain rfl := hw'.symm) | (go_at_call 29; refine (refused_any _ _).mono ?_; rintro e w1 ⟨rfl, k1⟩; obtain ⟨c0, c1, c2, f0, f1, f2⟩ := box3 (new_kept k1 (by simp))))
        refine bodyPost_ret (v := .agg #[.int .i64 0, .string (ba []), .int .i64 1]) (by simp [results, Try.results17, go_sem, c0, c1, c2]) rfl ⟨by rw [hP2.out]; try rfl, keep_box k1 _ _ _⟩
end Go.Proofs.Ytmglbcldjhdhkab

