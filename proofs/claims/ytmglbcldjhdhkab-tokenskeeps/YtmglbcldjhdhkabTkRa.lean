/- The document's small functions: classes of bytes, marks, words. -/
import Derived.Test.YtmglbcldjhdhkabTkQb
import Derived.Test.YtmglbcldjhdhkabTkL1
namespace Go.Proofs.Ytmglbcldjhdhkab
open Go.RowKit Go.PlainAid

set_option maxHeartbeats 400000 in
theorem rsmall_any (c : Int) (w : World) : Calls Try.prog 52 #[.int .u8 c] w fun e w' => e = .returned (.bool (smallB c)) ∧ w' = w := by
  by_cases h1 : 97 ≤ c <;> by_cases h2 : c ≤ 122
  all_goals
    have hb : smallB c = (decide (97 ≤ c) && decide (c ≤ 122)) := rfl
    simp only [h1, h2, decide_true, decide_false, Bool.and_true, Bool.and_false] at hb
    rw [hb]; clear hb
    go_enter Try.func52, Try.ntmps52
    go_wp2
    go_ret
    exact ⟨rfl, rfl⟩
set_option maxHeartbeats 400000 in
theorem rdigit_any (c : Int) (w : World) : Calls Try.prog 53 #[.int .u8 c] w fun e w' => e = .returned (.bool (digitB c)) ∧ w' = w := by
  by_cases h1 : 48 ≤ c <;> by_cases h2 : c ≤ 57
  all_goals
    have hb : digitB c = (decide (48 ≤ c) && decide (c ≤ 57)) := rfl
    simp only [h1, h2, decide_true, decide_false, Bool.and_true, Bool.and_false] at hb
    rw [hb]; clear hb
    go_enter Try.func53, Try.ntmps53
    go_wp2
    go_ret
    exact ⟨rfl, rfl⟩
set_option maxHeartbeats 400000 in
theorem rblank_any (c : Int) (w : World) : Calls Try.prog 54 #[.int .u8 c] w fun e w' => e = .returned (.bool (blankB c)) ∧ w' = w := by
  have hb : blankB c = (c == 32 || c == 9 || c == 10 || c == 13) := rfl
  rw [hb]; clear hb
  cases h1 : (c == 32)
  · cases h2 : (c == 9)
    · cases h3 : (c == 10)
      · cases h4 : (c == 13)
        all_goals
          go_enter Try.func54, Try.ntmps54
          go_wp2
          go_ret
          exact ⟨rfl, rfl⟩
      · go_enter Try.func54, Try.ntmps54
        go_wp2
        go_ret
        exact ⟨rfl, rfl⟩
    · go_enter Try.func54, Try.ntmps54
      go_wp2
      go_ret
      exact ⟨rfl, rfl⟩
  · go_enter Try.func54, Try.ntmps54
    go_wp2
    go_ret
    exact ⟨rfl, rfl⟩
set_option maxHeartbeats 400000 in
theorem rwithin_any (c : Int) (w : World) : Calls Try.prog 43 #[.int .u8 c] w fun e w' => e = .returned (.bool (inNameB c)) ∧ w' = w := by
  have hb : inNameB c = (smallB c || digitB c || c == 95) := rfl
  rw [hb]; clear hb
  cases hs : smallB c
  · cases hd : digitB c
    · cases hu : (c == 95)
      all_goals
        go_enter Try.func43, Try.ntmps43
        go_wp2_with (first | (go_at_call 52; refine (rsmall_any _ _).mono ?_; rintro e w' ⟨rfl, rfl⟩) | (go_at_call 53; refine (rdigit_any _ _).mono ?_; rintro e w' ⟨rfl, rfl⟩))
        go_ret
        exact ⟨rfl, rfl⟩
    · go_enter Try.func43, Try.ntmps43
      go_wp2_with (first | (go_at_call 52; refine (rsmall_any _ _).mono ?_; rintro e w' ⟨rfl, rfl⟩) | (go_at_call 53; refine (rdigit_any _ _).mono ?_; rintro e w' ⟨rfl, rfl⟩))
      go_ret
      exact ⟨rfl, rfl⟩
  · go_enter Try.func43, Try.ntmps43
    go_wp2_with (first | (go_at_call 52; refine (rsmall_any _ _).mono ?_; rintro e w' ⟨rfl, rfl⟩) | (go_at_call 53; refine (rdigit_any _ _).mono ?_; rintro e w' ⟨rfl, rfl⟩))
    go_ret
    exact ⟨rfl, rfl⟩
set_option maxHeartbeats 400000 in
theorem rhex_any (c : UInt8) (w : World) : Calls Try.prog 56 #[.int .u8 (c.toNat : Int)] w fun e w' => e = .returned (.int .i64 (hexI (c.toNat : Int))) ∧ w' = w := by
  have hl : c.toNat < 256 := c.toNat_lt
  have hD : Hid (∀ w, Calls Try.prog 53 #[.int .u8 (c.toNat : Int)] w fun e w' => e = .returned (.bool (digitB (c.toNat : Int))) ∧ w' = w) := rdigit_any _
  unfold hexI
  unfold digitB at hD
  generalize hn : (c.toNat : Int) = x at hD ⊢
  have h0 : 0 ≤ x := by omega
  have h1 : x < 256 := by omega
  clear hn hl
  by_cases a1 : 48 ≤ x ∧ x ≤ 57
  · rw [if_pos a1]
    rw [decide_eq_true a1.1, decide_eq_true a1.2] at hD
    go_enter Try.func56, Try.ntmps56
    go_wp2_with (go_at_call 53; refine (hD.out _).mono ?_; rintro e w' ⟨rfl, rfl⟩)
    go_ret
    exact ⟨rfl, rfl⟩
  · rw [if_neg a1]
    have hf : (decide (48 ≤ x) && decide (x ≤ 57)) = false := by simp; omega
    rw [hf] at hD
    by_cases a2 : 97 ≤ x ∧ x ≤ 102
    · rw [if_pos a2]
      obtain ⟨a2a, a2b⟩ := a2
      go_enter Try.func56, Try.ntmps56
      go_wp2_with (go_at_call 53; refine (hD.out _).mono ?_; rintro e w' ⟨rfl, rfl⟩)
      go_ret
      exact ⟨rfl, rfl⟩
    · rw [if_neg a2]
      by_cases a3 : 65 ≤ x ∧ x ≤ 70
      · rw [if_pos a3]
        obtain ⟨a3a, a3b⟩ := a3
        have a2' : ¬ (97 ≤ x) := by omega
        go_enter Try.func56, Try.ntmps56
        go_wp2_with (go_at_call 53; refine (hD.out _).mono ?_; rintro e w' ⟨rfl, rfl⟩)
        go_ret
        exact ⟨rfl, rfl⟩
      · rw [if_neg a3]
        by_cases b2 : 97 ≤ x
        · have b2' : ¬ x ≤ 102 := by omega
          have b3 : 65 ≤ x := by omega
          have b3' : ¬ x ≤ 70 := by omega
          go_enter Try.func56, Try.ntmps56
          go_wp2_with (go_at_call 53; refine (hD.out _).mono ?_; rintro e w' ⟨rfl, rfl⟩)
          go_ret
          exact ⟨rfl, rfl⟩
        · by_cases b3 : 65 ≤ x
          · have b3' : ¬ x ≤ 70 := by omega
            go_enter Try.func56, Try.ntmps56
            go_wp2_with (go_at_call 53; refine (hD.out _).mono ?_; rintro e w' ⟨rfl, rfl⟩)
            go_ret
            exact ⟨rfl, rfl⟩
          · go_enter Try.func56, Try.ntmps56
            go_wp2_with (go_at_call 53; refine (hD.out _).mono ?_; rintro e w' ⟨rfl, rfl⟩)
            go_ret
            exact ⟨rfl, rfl⟩

def marksL : List (List UInt8) := [[91], [93], [40], [41], [44], [58], [35], [42], [43], [45], [47], [61], [61, 61], [33, 61], [60], [60, 61], [62], [62, 61]]
theorem marks_any (w : World) : Calls Try.prog 58 #[] w fun e w' => ∃ g, e = .returned (.slice (some ⟨g, 0, none⟩) 18 18) ∧ (∀ k, k < 18 → w'.cell? ⟨g, k, none⟩ = some (.string (ba (marksL.getD k [])))) ∧ Keep [] w w' := by
  go_enter Try.func58, Try.ntmps58
  go_wp2
  go_ret
  refine ⟨w.heap.size, rfl, fun k hk => ?_, Keep.alloc1 w _⟩
  have h18 : k = 0 ∨ k = 1 ∨ k = 2 ∨ k = 3 ∨ k = 4 ∨ k = 5 ∨ k = 6 ∨ k = 7 ∨ k = 8 ∨ k = 9 ∨ k = 10 ∨ k = 11 ∨ k = 12 ∨ k = 13 ∨ k = 14 ∨ k = 15 ∨ k = 16 ∨ k = 17 := by omega
  rcases h18 with rfl | rfl | rfl | rfl | rfl | rfl | rfl | rfl | rfl | rfl | rfl | rfl | rfl | rfl | rfl | rfl | rfl | rfl
  all_goals exact (box_cell (heap_alloc_new w _) _).1
theorem any_take (L : List (List UInt8)) (x : List UInt8) (k : Nat) (h : k < L.length) : (L.take (k + 1)).any (· == x) = ((L.take k).any (· == x) || (L.getD k [] == x)) := by
  rw [List.take_succ_eq_append_getElem h, List.any_append, List.getD_eq_getElem?_getD, List.getElem?_eq_getElem h]
  simp

set_option maxRecDepth 1000000 in
set_option maxHeartbeats 1000000 in
theorem mark_in (s : ByteArray) (w : World) : Calls Try.prog 55 #[.string s] w fun e w' => e = .returned (.bool (marksL.any (· == s.toList))) ∧ Keep [] w w' := by
  go_enter Try.func55, Try.ntmps55
  go_wp2_with (go_at_call 58; refine (marks_any _).mono ?_; rintro e w1 ⟨g, rfl, hc, k1⟩)
  have HC : Hid _ := hc
  have HK : Hid _ := k1
  clear hc k1
  go_loopw [4] (fun z wr => ∃ (k : Nat), z = .int .i64 (k : Int) ∧ k ≤ 18 ∧ wr = w1 ∧ Hid ((marksL.take k).any (· == s.toList) = false)) (fun z _ => 18 - (intOf z).toNat)
  case atStart => exact ⟨0, rfl, Nat.zero_le _, rfl, rfl⟩
  case round =>
    obtain ⟨k, rfl, hk, rfl, hI⟩ := hrel
    by_cases hlt : k < 18
    · have hlti : (k : Int) < 18 := by omega
      have hck := HC.out k hlt
      have hnx := any_take marksL s.toList k hlt
      rw [hI.out, Bool.false_or] at hnx
      have htl : (ba (marksL.getD k [])).toList = marksL.getD k [] := ba_toList _
      have HN : Hid _ := hnx
      cases hm : (marksL.getD k [] == s.toList)
      · have HN2 : Hid ((marksL.take (k + 1)).any (· == s.toList) = false) := HN.out.trans hm
        generalize marksL.getD k [] = x at hck hm htl
        clear HN hnx hI
        go_wp2
        go_roundw
        case rel => exact ⟨k + 1, by go_num, by omega, trivial, HN2⟩
        case measure => simp [intOf]; omega
      · have HN2 : Hid (marksL.any (· == s.toList) = true) := by
          have h1 := HN.out.trans hm
          rw [List.any_eq_true] at h1
          obtain ⟨y, hy, e⟩ := h1
          show _ = _
          rw [List.any_eq_true]
          exact ⟨y, List.mem_of_mem_take hy, e⟩
        generalize marksL.getD k [] = x at hck hm htl
        clear HN hnx hI
        go_wp2
        go_ret
        exact ⟨by rw [HN2.out]; rfl, HK.out⟩
    · have hlti : ¬ (k : Int) < 18 := by omega
      have HN2 : Hid (marksL.any (· == s.toList) = false) := by
        have := hI.out
        rwa [List.take_of_length_le (show marksL.length ≤ k by show 18 ≤ k; omega)] at this
      clear hI
      go_wp2
      go_ret
      exact ⟨by rw [HN2.out]; rfl, HK.out⟩
end Go.Proofs.Ytmglbcldjhdhkab

