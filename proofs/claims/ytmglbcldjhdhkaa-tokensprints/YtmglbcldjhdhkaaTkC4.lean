/- Pick, the fillers, and the document's places. -/
import Derived.Test.YtmglbcldjhdhkaaTkKb
namespace Go.Proofs.Ytmglbcldjhdhkaa
open Go.RowKit Go.PlainAid

def pickZ (x n : Int) : Int := if n < 1 then 0 else x % n

theorem pickZ_lt (x : Int) (n : Nat) (h : 0 < n) : 0 ≤ pickZ x n ∧ pickZ x n < n := by
  unfold pickZ
  rw [if_neg (by omega)]
  exact ⟨Int.emod_nonneg _ (by omega), Int.emod_lt_of_pos _ (by omega)⟩

set_option maxHeartbeats 1600000 in
theorem pick_any (x n : Int) (h0 : -9223372036854775808 ≤ x) (h1 : x ≤ 9223372036854775807) (hn : n ≤ 9223372036854775807) (w : World) :
    Calls Try.prog 45 #[.int .i64 x, .int .i64 n] w fun e w' => e = .returned (.int .i64 (pickZ x n)) ∧ w' = w := by
  by_cases hn1 : n < 1
  · have hq : pickZ x n = 0 := by unfold pickZ; rw [if_pos hn1]
    rw [hq]
    clear hq
    go_enter Try.func45, Try.ntmps45
    go_wp2
    go_ret
    exact ⟨rfl, rfl⟩
  · have hq : pickZ x n = x % n := by unfold pickZ; rw [if_neg hn1]
    have hn0 : (n == 0) = false := by simp; omega
    have e1 : x.tmod n < 0 → x.tmod n + n = x % n := by
      intro h
      rw [Int.emod_eq_tmod]
      have hx : ¬ 0 ≤ x := by
        intro hx
        have := Int.tmod_nonneg n hx
        omega
      have hd : ¬ n ∣ x := by
        intro hd
        have := Int.tmod_eq_zero_of_dvd hd
        omega
      rw [if_neg (by simp [hx, hd])]
      omega
    have e2 : ¬ x.tmod n < 0 → x.tmod n = x % n := by
      intro h
      rw [Int.emod_eq_tmod]
      by_cases hx : 0 ≤ x
      · rw [if_pos (.inl hx)]; omega
      · by_cases hd : n ∣ x
        · rw [if_pos (.inr hd)]; omega
        · exfalso
          have h3 : x.tmod n ≤ 0 := by
            have := Int.tmod_nonneg n (show 0 ≤ -x by omega)
            rw [Int.neg_tmod] at this
            omega
          have h4 : x.tmod n = 0 := by omega
          exact hd (Int.dvd_of_tmod_eq_zero h4)
    have hlo : -9223372036854775808 ≤ x.tmod n ∧ x.tmod n < n := by
      have h5 := Int.emod_nonneg x (show n ≠ 0 by omega)
      have h6 := Int.emod_lt_of_pos x (show 0 < n by omega)
      by_cases h : x.tmod n < 0
      · have := e1 h
        omega
      · have := e2 h
        omega
    rw [hq]
    have HE : Hid ((x.tmod n < 0 → x.tmod n + n = x % n) ∧ (¬ x.tmod n < 0 → x.tmod n = x % n)) := ⟨e1, e2⟩
    clear hq e1 e2
    go_enter Try.func45, Try.ntmps45
    go_wp2
    all_goals go_ret
    · have h7 : x.tmod n < 0 := by assumption
      have h8 := HE.out.1 h7
      refine ⟨?_, rfl⟩
      show Ending.returned (Value.int .i64 (x.tmod n + n)) = _
      rw [h8]
    · have h7 : 0 ≤ x.tmod n := by assumption
      have h8 := HE.out.2 (by omega)
      refine ⟨?_, rfl⟩
      show Ending.returned (Value.int .i64 (x.tmod n)) = _
      rw [h8]


/-- what may stand between pieces -/
def fillL (k : Nat) : List UInt8 := match k with
  | 0 => [32]
  | 1 => [10]
  | 2 => [9]
  | 3 => [13, 10]
  | 4 => [32, 47, 47, 32, 120, 32, 34, 10]
  | 5 => [47, 47, 10]
  | 6 => [10, 10, 32, 32]
  | _ => [47, 47, 255, 0, 10, 9]
theorem fill_ok (k : Nat) : gapOk (fillL k) ∧ (fillL k).length ≤ 8 ∧ ∃ c g, fillL k = c :: g ∧ nm c = false ∧ c ≠ 46 ∧ c ≠ 61 := by
  have b32 : blankB ((32 : UInt8).toNat : Int) = true := by decide
  have b10 : blankB ((10 : UInt8).toNat : Int) = true := by decide
  have b9 : blankB ((9 : UInt8).toNat : Int) = true := by decide
  have b13 : blankB ((13 : UInt8).toNat : Int) = true := by decide
  unfold fillL
  split
  · exact ⟨gap_blank b32 gap_nil, by decide, _, _, rfl, by decide, by decide, by decide⟩
  · exact ⟨gap_blank b10 gap_nil, by decide, _, _, rfl, by decide, by decide, by decide⟩
  · exact ⟨gap_blank b9 gap_nil, by decide, _, _, rfl, by decide, by decide, by decide⟩
  · exact ⟨gap_blank b13 (gap_blank b10 gap_nil), by decide, _, _, rfl, by decide, by decide, by decide⟩
  · exact ⟨gap_blank b32 (gap_rem (x := [32, 120, 32, 34]) (by decide) gap_nil), by decide, _, _, rfl, by decide, by decide, by decide⟩
  · exact ⟨gap_rem (x := []) (by decide) gap_nil, by decide, _, _, rfl, by decide, by decide, by decide⟩
  · exact ⟨gap_blank b10 (gap_blank b10 (gap_blank b32 (gap_blank b32 gap_nil))), by decide, _, _, rfl, by decide, by decide, by decide⟩
  · exact ⟨gap_rem (x := [255, 0]) (by decide) (gap_blank b9 gap_nil), by decide, _, _, rfl, by decide, by decide, by decide⟩
def fillK (k : Int) : List UInt8 := fillL (pickZ k 8).toNat

set_option maxRecDepth 1000000 in
set_option maxHeartbeats 1000000 in
theorem filler_any (k : Int) (w : World) (h0 : -9223372036854775808 ≤ k) (h1 : k ≤ 9223372036854775807) :
    Calls Try.prog 23 #[.int .i64 k] w fun e w' => e = .returned (.string (ba (fillK k))) ∧ Keep [] w w' := by
  have hp := pickZ_lt k 8 (by omega)
  have hP : Hid (∀ w, Calls Try.prog 45 #[.int .i64 k, .int .i64 8] w fun e w' => e = .returned (.int .i64 (pickZ k 8)) ∧ w' = w) := fun w => pick_any k 8 h0 h1 (by omega) w
  unfold fillK
  generalize hz : pickZ k 8 = z at hP hp
  have hc : z = 0 ∨ z = 1 ∨ z = 2 ∨ z = 3 ∨ z = 4 ∨ z = 5 ∨ z = 6 ∨ z = 7 := by
    have : ((8 : Nat) : Int) = 8 := rfl
    omega
  clear hp hz h0 h1
  rcases hc with rfl | rfl | rfl | rfl | rfl | rfl | rfl | rfl
  all_goals
    go_enter Try.func23, Try.ntmps23
    go_wp2_with (go_at_call 45; refine (hP.out _).mono ?_; rintro e w1 ⟨rfl, rfl⟩)
    go_ret
    exact ⟨rfl, Keep.alloc1 w _⟩

theorem adv_snoc (p : Nat × Nat) (l : List UInt8) (c : UInt8) : adv p (l ++ [c]) = adv1 (adv p l) c := by simp [adv]
theorem adv_le : ∀ (l : List UInt8) (p : Nat × Nat), (adv p l).1 ≤ p.1 + l.length ∧ (adv p l).2 ≤ p.2 + l.length + 1
  | [], p => by simp [adv]
  | c :: l, p => by
    have h := adv_le l (adv1 p c)
    have h1 : (adv1 p c).1 ≤ p.1 + 1 ∧ (adv1 p c).2 ≤ p.2 + 1 ∨ ((adv1 p c).2 = 1 ∧ (adv1 p c).1 ≤ p.1 + 1) := by
      unfold adv1
      split
      · exact .inr ⟨rfl, by simp⟩
      · exact .inl ⟨by simp, by simp⟩
    show (adv (adv1 p c) l).1 ≤ _ ∧ (adv (adv1 p c) l).2 ≤ _
    simp only [List.length_cons]
    omega

set_option maxRecDepth 1000000 in
set_option maxHeartbeats 1000000 in
theorem onward_any (s : ByteArray) (w : World) (hs : s.size ≤ 140737488355328) :
    Calls Try.prog 34 #[.string s, .int .i64 0, .int .i64 (s.size : Int), .int .i64 1, .int .i64 1] w fun e w' => e = .returned (.tuple #[.int .i64 ((adv (1, 1) s.toList).1 : Int), .int .i64 ((adv (1, 1) s.toList).2 : Int)]) ∧ w' = w := by
  have hgb := get_bt s
  go_enter Try.func34, Try.ntmps34
  go_wp2
  go_loopw [3, 4, 12] (fun z3 z4 z12 wr => ∃ (k : Nat), z12 = .int .i64 (k : Int) ∧ k ≤ s.size ∧ z3 = .int .i64 ((adv (1, 1) (s.toList.take k)).1 : Int) ∧ z4 = .int .i64 ((adv (1, 1) (s.toList.take k)).2 : Int) ∧ wr = w) (fun _ _ z12 _ => s.size - (intOf z12).toNat)
  case atStart => exact ⟨0, rfl, Nat.zero_le _, rfl, rfl, rfl⟩
  case round =>
    obtain ⟨k, rfl, hk, rfl, rfl, rfl⟩ := hrel
    by_cases hlt : k < s.size
    · have hlti : (k : Int) < (s.size : Int) := by omega
      obtain ⟨c, hc, hb⟩ := bt_drop s k hlt
      have hgc : ((s[k]'hlt).toNat : Int) = (c.toNat : Int) := (hgb k hlt).trans hb
      have hnx : Hid (adv (1, 1) (s.toList.take (k + 1)) = adv1 (adv (1, 1) (s.toList.take k)) c) := by
        show _ = _
        rw [List.take_add, hc, List.take_succ_cons, List.take_zero, adv_snoc]
      have hle := adv_le (s.toList.take k) (1, 1)
      rw [List.length_take] at hle
      simp only at hle
      generalize hq : adv (1, 1) (s.toList.take k) = q at hnx hle ⊢
      obtain ⟨q1, q2⟩ := q
      simp only at hle ⊢
      clear hgb hq hb hc
      by_cases h10 : c = 10
      · have hci : (c.toNat : Int) = 10 := by rw [h10]; rfl
        have hnx2 : Hid (adv (1, 1) (s.toList.take (k + 1)) = (q1 + 1, 1)) := by
          show _ = _
          rw [hnx.out]; unfold adv1; rw [if_pos h10]
        clear hnx h10
        go_wp2
        go_roundw
        case rel => exact ⟨k + 1, by go_num, by omega, by rw [hnx2.out]; go_num, by rw [hnx2.out]; go_num, trivial⟩
        case measure => simp [intOf]; omega
      · have hci : ((c.toNat : Int) == 10) = false := by
          have : ¬ ((c.toNat : Int) = 10) := fun e => h10 (by apply UInt8.toNat_inj.1; show c.toNat = 10; omega)
          simpa using this
        have hnx2 : Hid (adv (1, 1) (s.toList.take (k + 1)) = (q1, q2 + 1)) := by
          show _ = _
          rw [hnx.out]; unfold adv1; rw [if_neg h10]
        clear hnx h10
        go_wp2
        go_roundw
        case rel => exact ⟨k + 1, by go_num, by omega, by rw [hnx2.out], by rw [hnx2.out]; go_num, trivial⟩
        case measure => simp [intOf]; omega
    · have hlti : ¬ (k : Int) < (s.size : Int) := by omega
      have ht : s.toList.take k = s.toList := List.take_of_length_le (by rw [toList_len]; omega)
      rw [ht]
      clear hgb
      go_wp2
      go_ret2
      exact ⟨rfl, rfl⟩
theorem place_any (l : List UInt8) (w : World) (hs : l.length ≤ 140737488355328) :
    Calls Try.prog 24 #[.string (ba l), .int .i64 (l.length : Int)] w fun e w' => e = .returned (.tuple #[.int .i64 ((adv (1, 1) l).1 : Int), .int .i64 ((adv (1, 1) l).2 : Int)]) ∧ w' = w := by
  have hO : Hid (∀ w, Calls Try.prog 34 #[.string (ba l), .int .i64 0, .int .i64 (l.length : Int), .int .i64 1, .int .i64 1] w fun e w' => e = .returned (.tuple #[.int .i64 ((adv (1, 1) l).1 : Int), .int .i64 ((adv (1, 1) l).2 : Int)]) ∧ w' = w) := fun w => by
    have := onward_any (ba l) w (by rw [ba_size]; exact hs)
    rwa [ba_toList, ba_size] at this
  go_enter Try.func24, Try.ntmps24
  go_wp2_with (go_at_call 34; refine (hO.out _).mono ?_; rintro e w1 ⟨rfl, rfl⟩)
  go_ret2
  exact ⟨rfl, rfl⟩
end Go.Proofs.Ytmglbcldjhdhkaa
