/- The rest of the walk of IdentGrows. -/
import Derived.Test.YtkkbnbcjkjbepabGrowsP
namespace Go.Proofs.Ytkkbnbcjkjbepab
open Go.RowKit Go.PlainAid

theorem eq_not (a b : Bool) (h : a = !b) : (a == b) = false := by subst h; cases b <;> rfl

set_option maxHeartbeats 1000000 in
theorem grows_none (a b : ByteArray) (w : World) (ha : a.size ≤ 100) (hb : b.size ≤ 100) (hn : nameL a.toList = false) :
    Calls Try.prog 6 #[.string a, .string b] w fun e w' => e = .returned (.bool true) ∧ Below w.heap.size w w' := by
  have z1 : ¬ (100 : Int) < (a.size : Int) := by omega
  have z2 : ¬ (100 : Int) < (b.size : Int) := by omega
  cases hia : idL a.toList
  · go_enter Try.func6, Try.ntmps6
    go_wp2_with (first | (go_at_call 22; refine (id_any _ _).mono ?_; rintro e w2 ⟨rfl, hw⟩; obtain rfl := hw.symm) | (go_at_call 21; refine (name_any _ _).mono ?_; rintro e w2 ⟨rfl, hw⟩; obtain rfl := hw.symm) | (go_at_call 15; refine (awake_any _).mono ?_; rintro e w1 ⟨rfl, hb1⟩))
    go_loopw [5] (fun i wr => ∃ k : Nat, 1 ≤ k ∧ k ≤ a.size + 1 ∧ i = .int .i64 k ∧ Below w.heap.size w wr) (fun i _ => a.size + 1 - (intOf i).toNat)
    case atStart => exact ⟨1, Nat.le_refl _, by omega, rfl, Below.refl _ _⟩
    case round =>
      obtain ⟨k, hk1, hk2, rfl, hbr⟩ := hrel
      by_cases hlt : k < a.size
      · go_wp2_with (first | (go_at_call 22; refine (id_any _ _).mono ?_; rintro e w2 ⟨rfl, hw⟩; obtain rfl := hw.symm) | (go_at_call 21; refine (name_any _ _).mono ?_; rintro e w2 ⟨rfl, hw⟩; obtain rfl := hw.symm) | (go_at_call 15; refine (awake_any _).mono ?_; rintro e w1 ⟨rfl, hb1⟩))
        go_ret
        exact ⟨rfl, hbr.trans (hb1.mono hbr.size)⟩
      · go_wp2_with (first | (go_at_call 22; refine (id_any _ _).mono ?_; rintro e w2 ⟨rfl, hw⟩; obtain rfl := hw.symm) | (go_at_call 21; refine (name_any _ _).mono ?_; rintro e w2 ⟨rfl, hw⟩; obtain rfl := hw.symm) | (go_at_call 15; refine (awake_any _).mono ?_; rintro e w1 ⟨rfl, hb1⟩))
        go_ret
        exact ⟨rfl, hbr.trans (hb1.mono hbr.size)⟩
  · cases hib : idL b.toList
    · go_enter Try.func6, Try.ntmps6
      go_wp2_with (first | (go_at_call 22; refine (id_any _ _).mono ?_; rintro e w2 ⟨rfl, hw⟩; obtain rfl := hw.symm) | (go_at_call 21; refine (name_any _ _).mono ?_; rintro e w2 ⟨rfl, hw⟩; obtain rfl := hw.symm) | (go_at_call 15; refine (awake_any _).mono ?_; rintro e w1 ⟨rfl, hb1⟩))
      go_loopw [5] (fun i wr => ∃ k : Nat, 1 ≤ k ∧ k ≤ a.size + 1 ∧ i = .int .i64 k ∧ Below w.heap.size w wr) (fun i _ => a.size + 1 - (intOf i).toNat)
      case atStart => exact ⟨1, Nat.le_refl _, by omega, rfl, Below.refl _ _⟩
      case round =>
        obtain ⟨k, hk1, hk2, rfl, hbr⟩ := hrel
        by_cases hlt : k < a.size
        · go_wp2_with (first | (go_at_call 22; refine (id_any _ _).mono ?_; rintro e w2 ⟨rfl, hw⟩; obtain rfl := hw.symm) | (go_at_call 21; refine (name_any _ _).mono ?_; rintro e w2 ⟨rfl, hw⟩; obtain rfl := hw.symm) | (go_at_call 15; refine (awake_any _).mono ?_; rintro e w1 ⟨rfl, hb1⟩))
          go_ret
          exact ⟨rfl, hbr.trans (hb1.mono hbr.size)⟩
        · go_wp2_with (first | (go_at_call 22; refine (id_any _ _).mono ?_; rintro e w2 ⟨rfl, hw⟩; obtain rfl := hw.symm) | (go_at_call 21; refine (name_any _ _).mono ?_; rintro e w2 ⟨rfl, hw⟩; obtain rfl := hw.symm) | (go_at_call 15; refine (awake_any _).mono ?_; rintro e w1 ⟨rfl, hb1⟩))
          go_ret
          exact ⟨rfl, hbr.trans (hb1.mono hbr.size)⟩
    · have hab := id_app hia hib
      rw [← toList_app, toList_len, toList_len] at hab
      by_cases hsum : a.size + b.size ≤ 64
      · have hab1 : idL (a ++ b).toList = true := by rw [hab]; simp [hsum]
        have z3 : (a.size : Int) + (b.size : Int) ≤ 64 := by omega
        clear hab
        go_enter Try.func6, Try.ntmps6
        go_wp2_with (first | (go_at_call 22; refine (id_any _ _).mono ?_; rintro e w2 ⟨rfl, hw⟩; obtain rfl := hw.symm) | (go_at_call 21; refine (name_any _ _).mono ?_; rintro e w2 ⟨rfl, hw⟩; obtain rfl := hw.symm) | (go_at_call 15; refine (awake_any _).mono ?_; rintro e w1 ⟨rfl, hb1⟩))
        go_loopw [5] (fun i wr => ∃ k : Nat, 1 ≤ k ∧ k ≤ a.size + 1 ∧ i = .int .i64 k ∧ Below w.heap.size w wr) (fun i _ => a.size + 1 - (intOf i).toNat)
        case atStart => exact ⟨1, Nat.le_refl _, by omega, rfl, Below.refl _ _⟩
        case round =>
          obtain ⟨k, hk1, hk2, rfl, hbr⟩ := hrel
          by_cases hlt : k < a.size
          · go_wp2_with (first | (go_at_call 22; refine (id_any _ _).mono ?_; rintro e w2 ⟨rfl, hw⟩; obtain rfl := hw.symm) | (go_at_call 21; refine (name_any _ _).mono ?_; rintro e w2 ⟨rfl, hw⟩; obtain rfl := hw.symm) | (go_at_call 15; refine (awake_any _).mono ?_; rintro e w1 ⟨rfl, hb1⟩))
            go_ret
            exact ⟨rfl, hbr.trans (hb1.mono hbr.size)⟩
          · go_wp2_with (first | (go_at_call 22; refine (id_any _ _).mono ?_; rintro e w2 ⟨rfl, hw⟩; obtain rfl := hw.symm) | (go_at_call 21; refine (name_any _ _).mono ?_; rintro e w2 ⟨rfl, hw⟩; obtain rfl := hw.symm) | (go_at_call 15; refine (awake_any _).mono ?_; rintro e w1 ⟨rfl, hb1⟩))
            go_ret
            exact ⟨rfl, hbr.trans (hb1.mono hbr.size)⟩
      · have hab1 : idL (a ++ b).toList = false := by rw [hab]; simp [hsum]
        have z3 : ¬ (a.size : Int) + (b.size : Int) ≤ 64 := by omega
        clear hab
        go_enter Try.func6, Try.ntmps6
        go_wp2_with (first | (go_at_call 22; refine (id_any _ _).mono ?_; rintro e w2 ⟨rfl, hw⟩; obtain rfl := hw.symm) | (go_at_call 21; refine (name_any _ _).mono ?_; rintro e w2 ⟨rfl, hw⟩; obtain rfl := hw.symm) | (go_at_call 15; refine (awake_any _).mono ?_; rintro e w1 ⟨rfl, hb1⟩))
        go_loopw [5] (fun i wr => ∃ k : Nat, 1 ≤ k ∧ k ≤ a.size + 1 ∧ i = .int .i64 k ∧ Below w.heap.size w wr) (fun i _ => a.size + 1 - (intOf i).toNat)
        case atStart => exact ⟨1, Nat.le_refl _, by omega, rfl, Below.refl _ _⟩
        case round =>
          obtain ⟨k, hk1, hk2, rfl, hbr⟩ := hrel
          by_cases hlt : k < a.size
          · go_wp2_with (first | (go_at_call 22; refine (id_any _ _).mono ?_; rintro e w2 ⟨rfl, hw⟩; obtain rfl := hw.symm) | (go_at_call 21; refine (name_any _ _).mono ?_; rintro e w2 ⟨rfl, hw⟩; obtain rfl := hw.symm) | (go_at_call 15; refine (awake_any _).mono ?_; rintro e w1 ⟨rfl, hb1⟩))
            go_ret
            exact ⟨rfl, hbr.trans (hb1.mono hbr.size)⟩
          · go_wp2_with (first | (go_at_call 22; refine (id_any _ _).mono ?_; rintro e w2 ⟨rfl, hw⟩; obtain rfl := hw.symm) | (go_at_call 21; refine (name_any _ _).mono ?_; rintro e w2 ⟨rfl, hw⟩; obtain rfl := hw.symm) | (go_at_call 15; refine (awake_any _).mono ?_; rintro e w1 ⟨rfl, hb1⟩))
            go_ret
            exact ⟨rfl, hbr.trans (hb1.mono hbr.size)⟩

set_option maxHeartbeats 1000000 in
theorem grows_name (a b : ByteArray) (w : World) (ha : a.size ≤ 100) (hb : b.size ≤ 100) (hn : nameL a.toList = true) :
    Calls Try.prog 6 #[.string a, .string b] w fun e w' => e = .returned (.bool true) ∧ Below w.heap.size w w' := by
  have z1 : ¬ (100 : Int) < (a.size : Int) := by omega
  have z2 : ¬ (100 : Int) < (b.size : Int) := by omega
  have hia := name_id hn
  have HQ : Hid (∀ k, 1 ≤ k → k < a.size → (nameL (a.extract 0 k).toList == resL (a.extract 0 k).toList) = false) := fun k h1 h2 => by
    rw [ext_take, ba_toList]
    exact eq_not _ _ (name_take hn k h1 (by rw [toList_len]; exact h2))
  cases hib : idL b.toList
  · go_enter Try.func6, Try.ntmps6
    go_wp2_with (first | (go_at_call 22; refine (id_any _ _).mono ?_; rintro e w2 ⟨rfl, hw⟩; obtain rfl := hw.symm) | (go_at_call 21; refine (name_any _ _).mono ?_; rintro e w2 ⟨rfl, hw⟩; obtain rfl := hw.symm) | (go_at_call 15; refine (awake_any _).mono ?_; rintro e w1 ⟨rfl, hb1⟩))
    go_loopw [5] (fun i wr => ∃ k : Nat, 1 ≤ k ∧ k ≤ a.size + 1 ∧ i = .int .i64 k ∧ Below w.heap.size w wr) (fun i _ => a.size + 1 - (intOf i).toNat)
    case atStart => exact ⟨1, Nat.le_refl _, by omega, rfl, Below.refl _ _⟩
    case round =>
      obtain ⟨k, hk1, hk2, rfl, hbr⟩ := hrel
      by_cases hlt : k < a.size
      · have hq := HQ.out k hk1 hlt
        go_wp2_with (first | (go_at_call 22; refine (id_any _ _).mono ?_; rintro e w2 ⟨rfl, hw⟩; obtain rfl := hw.symm) | (go_at_call 21; refine (name_any _ _).mono ?_; rintro e w2 ⟨rfl, hw⟩; obtain rfl := hw.symm) | (go_at_call 15; refine (awake_any _).mono ?_; rintro e w1 ⟨rfl, hb1⟩))
        go_quiet ((first | (go_at_call 21; exact Calls.quiet_of_same (name_any _ _)) | (go_at_call 20; exact Calls.quiet_of_same (res20_any _ _))))
        go_wp2
        go_roundw
        case rel => exact ⟨k + 1, by omega, by omega, by go_num, below_drewN hbr _⟩
        case measure => simp [intOf]; omega
      · go_wp2_with (first | (go_at_call 22; refine (id_any _ _).mono ?_; rintro e w2 ⟨rfl, hw⟩; obtain rfl := hw.symm) | (go_at_call 21; refine (name_any _ _).mono ?_; rintro e w2 ⟨rfl, hw⟩; obtain rfl := hw.symm) | (go_at_call 15; refine (awake_any _).mono ?_; rintro e w1 ⟨rfl, hb1⟩))
        go_ret
        exact ⟨rfl, hbr.trans (hb1.mono hbr.size)⟩
  · have hab := id_app hia hib
    rw [← toList_app, toList_len, toList_len] at hab
    by_cases hsum : a.size + b.size ≤ 64
    · have hab1 : idL (a ++ b).toList = true := by rw [hab]; simp [hsum]
      have z3 : (a.size : Int) + (b.size : Int) ≤ 64 := by omega
      clear hab
      go_enter Try.func6, Try.ntmps6
      go_wp2_with (first | (go_at_call 22; refine (id_any _ _).mono ?_; rintro e w2 ⟨rfl, hw⟩; obtain rfl := hw.symm) | (go_at_call 21; refine (name_any _ _).mono ?_; rintro e w2 ⟨rfl, hw⟩; obtain rfl := hw.symm) | (go_at_call 15; refine (awake_any _).mono ?_; rintro e w1 ⟨rfl, hb1⟩))
      go_loopw [5] (fun i wr => ∃ k : Nat, 1 ≤ k ∧ k ≤ a.size + 1 ∧ i = .int .i64 k ∧ Below w.heap.size w wr) (fun i _ => a.size + 1 - (intOf i).toNat)
      case atStart => exact ⟨1, Nat.le_refl _, by omega, rfl, Below.refl _ _⟩
      case round =>
        obtain ⟨k, hk1, hk2, rfl, hbr⟩ := hrel
        by_cases hlt : k < a.size
        · have hq := HQ.out k hk1 hlt
          go_wp2_with (first | (go_at_call 22; refine (id_any _ _).mono ?_; rintro e w2 ⟨rfl, hw⟩; obtain rfl := hw.symm) | (go_at_call 21; refine (name_any _ _).mono ?_; rintro e w2 ⟨rfl, hw⟩; obtain rfl := hw.symm) | (go_at_call 15; refine (awake_any _).mono ?_; rintro e w1 ⟨rfl, hb1⟩))
          go_quiet ((first | (go_at_call 21; exact Calls.quiet_of_same (name_any _ _)) | (go_at_call 20; exact Calls.quiet_of_same (res20_any _ _))))
          go_wp2
          go_roundw
          case rel => exact ⟨k + 1, by omega, by omega, by go_num, below_drewN hbr _⟩
          case measure => simp [intOf]; omega
        · go_wp2_with (first | (go_at_call 22; refine (id_any _ _).mono ?_; rintro e w2 ⟨rfl, hw⟩; obtain rfl := hw.symm) | (go_at_call 21; refine (name_any _ _).mono ?_; rintro e w2 ⟨rfl, hw⟩; obtain rfl := hw.symm) | (go_at_call 15; refine (awake_any _).mono ?_; rintro e w1 ⟨rfl, hb1⟩))
          go_ret
          exact ⟨rfl, hbr.trans (hb1.mono hbr.size)⟩
    · have hab1 : idL (a ++ b).toList = false := by rw [hab]; simp [hsum]
      have z3 : ¬ (a.size : Int) + (b.size : Int) ≤ 64 := by omega
      clear hab
      go_enter Try.func6, Try.ntmps6
      go_wp2_with (first | (go_at_call 22; refine (id_any _ _).mono ?_; rintro e w2 ⟨rfl, hw⟩; obtain rfl := hw.symm) | (go_at_call 21; refine (name_any _ _).mono ?_; rintro e w2 ⟨rfl, hw⟩; obtain rfl := hw.symm) | (go_at_call 15; refine (awake_any _).mono ?_; rintro e w1 ⟨rfl, hb1⟩))
      go_loopw [5] (fun i wr => ∃ k : Nat, 1 ≤ k ∧ k ≤ a.size + 1 ∧ i = .int .i64 k ∧ Below w.heap.size w wr) (fun i _ => a.size + 1 - (intOf i).toNat)
      case atStart => exact ⟨1, Nat.le_refl _, by omega, rfl, Below.refl _ _⟩
      case round =>
        obtain ⟨k, hk1, hk2, rfl, hbr⟩ := hrel
        by_cases hlt : k < a.size
        · have hq := HQ.out k hk1 hlt
          go_wp2_with (first | (go_at_call 22; refine (id_any _ _).mono ?_; rintro e w2 ⟨rfl, hw⟩; obtain rfl := hw.symm) | (go_at_call 21; refine (name_any _ _).mono ?_; rintro e w2 ⟨rfl, hw⟩; obtain rfl := hw.symm) | (go_at_call 15; refine (awake_any _).mono ?_; rintro e w1 ⟨rfl, hb1⟩))
          go_quiet ((first | (go_at_call 21; exact Calls.quiet_of_same (name_any _ _)) | (go_at_call 20; exact Calls.quiet_of_same (res20_any _ _))))
          go_wp2
          go_roundw
          case rel => exact ⟨k + 1, by omega, by omega, by go_num, below_drewN hbr _⟩
          case measure => simp [intOf]; omega
        · go_wp2_with (first | (go_at_call 22; refine (id_any _ _).mono ?_; rintro e w2 ⟨rfl, hw⟩; obtain rfl := hw.symm) | (go_at_call 21; refine (name_any _ _).mono ?_; rintro e w2 ⟨rfl, hw⟩; obtain rfl := hw.symm) | (go_at_call 15; refine (awake_any _).mono ?_; rintro e w1 ⟨rfl, hb1⟩))
          go_ret
          exact ⟨rfl, hbr.trans (hb1.mono hbr.size)⟩
end Go.Proofs.Ytkkbnbcjkjbepab
