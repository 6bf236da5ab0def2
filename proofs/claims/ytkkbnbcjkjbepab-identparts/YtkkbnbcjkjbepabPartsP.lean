/- The walk of IdentParts. -/
import Derived.Test.YtkkbnbcjkjbepabMidW
namespace Go.Proofs.Ytkkbnbcjkjbepab
open Go.RowKit Go.PlainAid

theorem below_step {w W W' : World} {X : Obj} (h : Below w.heap.size w W) (hb : Below (W.alloc X).heap.size (W.alloc X) W') : Below w.heap.size w W' := h.trans ((below_box hb).mono h.size)
theorem below_last {w W : World} {X : Obj} (h : Below w.heap.size w W) : Below w.heap.size w (W.alloc X) := h.alloc h.size _
theorem below_next {w W W' : World} (h : Below w.heap.size w W) (hb : Below W.heap.size W W') : Below w.heap.size w W' := h.trans (hb.mono h.size)

set_option maxHeartbeats 1000000 in
theorem parts_1 (a b c : ByteArray) (w : World) (ha : a.size ≤ 1000) (hb : b.size ≤ 1000) (hc : c.size ≤ 1000) (hn : nameL a.toList = false) :
    Calls Try.prog 7 #[.string a, .string b, .string c] w fun e w' => e = .returned (.bool true) ∧ Below w.heap.size w w' := by
  have z1 : ¬ (1000 : Int) < (a.size : Int) := by omega
  have z2 : ¬ (1000 : Int) < (b.size : Int) := by omega
  have z3 : ¬ (1000 : Int) < (c.size : Int) := by omega
  have hs1 : a.size + b.size ≤ 4000 := by omega
  have hs2 : a.size + b.size + c.size ≤ 4000 := by omega
  have hba := get_bt a
  have hbb := get_bt b
  go_enter Try.func7, Try.ntmps7
  go_wp2
  go_loop [7] (fun i => ∃ k : Nat, k ≤ a.size ∧ i = .int .i64 k ∧ Hid (∀ j, j < k → bt a j ≠ 58)) (fun i => a.size - (intOf i).toNat)
  case atStart => exact ⟨0, Nat.zero_le _, rfl, fun j hj => absurd hj (Nat.not_lt_zero j)⟩
  case round =>
    obtain ⟨k, hk, rfl, hall⟩ := hrel
    by_cases hlt : k < a.size
    · cases hc : (bt a k == 58)
      · go_wp2
        go_round
        case rel => exact ⟨k + 1, by omega, by go_num, fun j hj => (by
          by_cases e : j = k
          · rw [e]; simpa using hc
          · exact hall.out j (by omega))⟩
        case measure => simp [intOf]; omega
      · go_wp2_with (first | (go_at_call 15; refine (awake_any _).mono ?_; rintro e w8 ⟨rfl, hb8⟩))
        go_ret
        exact ⟨rfl, hb8⟩
    · have hF : cutF 58 a.toList = false := (cut_none 58 a (fun j hj => hall.out j (by omega))).2.2
      clear hall
      go_wp2_with fail
      refine (object_mid_bad a b 10 _ hs1 hF (by simp [*]) (by decide)).mono ?_
      rintro e w1 ⟨rfl, hb1⟩
      go_wp2_with (first | (go_at_call 21; refine (name_any _ _).mono ?_; rintro e w9 ⟨rfl, hw⟩; obtain rfl := hw.symm) | (go_at_call 22; refine (id_any _ _).mono ?_; rintro e w9 ⟨rfl, hw⟩; obtain rfl := hw.symm))
      go_loop [11] (fun i => ∃ k : Nat, k ≤ b.size ∧ i = .int .i64 k ∧ Hid (∀ j, j < k → bt b j ≠ 35)) (fun i => b.size - (intOf i).toNat)
      case atStart => exact ⟨0, Nat.zero_le _, rfl, fun j hj => absurd hj (Nat.not_lt_zero j)⟩
      case round =>
        obtain ⟨q, hq, rfl, hal2⟩ := hrel
        by_cases hlq : q < b.size
        · cases hc : (bt b q == 35)
          · go_wp2
            go_round
            case rel => exact ⟨q + 1, by omega, by go_num, fun j hj => (by
              by_cases e : j = q
              · rw [e]; simpa using hc
              · exact hal2.out j (by omega))⟩
            case measure => simp [intOf]; omega
          · go_wp2_with (first | (go_at_call 15; refine (awake_any _).mono ?_; rintro e w8 ⟨rfl, hb8⟩))
            go_ret
            exact ⟨rfl, below_step hb1 hb8⟩
        · have hG : cutF 35 b.toList = false := (cut_none 35 b (fun j hj => hal2.out j (by omega))).2.2
          clear hal2
          go_wp2_with fail
          refine (subject_mid_bad a b c 10 _ hs2 hF hG (by simp [*]) (by decide)).mono ?_
          rintro e w2 ⟨rfl, hb2⟩
          go_wp2_with (first | (go_at_call 21; refine (name_any _ _).mono ?_; rintro e w9 ⟨rfl, hw⟩; obtain rfl := hw.symm) | (go_at_call 22; refine (id_any _ _).mono ?_; rintro e w9 ⟨rfl, hw⟩; obtain rfl := hw.symm))
          refine (object_no a _ (by unfold maxLen; omega) hF).mono ?_
          rintro e w3 ⟨rfl, hb3⟩
          go_wp2_with fail
          refine (subject_no a _ (by unfold maxLen; omega) hF).mono ?_
          rintro e w4 ⟨rfl, hb4⟩
          go_wp2
          go_ret
          exact ⟨rfl, below_last (below_step (below_step (below_step hb1 hb2) hb3) hb4)⟩

set_option maxHeartbeats 1000000 in
theorem parts_2 (a b c : ByteArray) (w : World) (ha : a.size ≤ 1000) (hb : b.size ≤ 1000) (hc : c.size ≤ 1000) (hn : nameL a.toList = true) (hi : idL b.toList = false) :
    Calls Try.prog 7 #[.string a, .string b, .string c] w fun e w' => e = .returned (.bool true) ∧ Below w.heap.size w w' := by
  have z1 : ¬ (1000 : Int) < (a.size : Int) := by omega
  have z2 : ¬ (1000 : Int) < (b.size : Int) := by omega
  have z3 : ¬ (1000 : Int) < (c.size : Int) := by omega
  have hs1 : a.size + b.size ≤ 4000 := by omega
  have hs2 : a.size + b.size + c.size ≤ 4000 := by omega
  have hba := get_bt a
  have hbb := get_bt b
  go_enter Try.func7, Try.ntmps7
  go_wp2
  go_loop [7] (fun i => ∃ k : Nat, k ≤ a.size ∧ i = .int .i64 k ∧ Hid (∀ j, j < k → bt a j ≠ 58)) (fun i => a.size - (intOf i).toNat)
  case atStart => exact ⟨0, Nat.zero_le _, rfl, fun j hj => absurd hj (Nat.not_lt_zero j)⟩
  case round =>
    obtain ⟨k, hk, rfl, hall⟩ := hrel
    by_cases hlt : k < a.size
    · cases hc : (bt a k == 58)
      · go_wp2
        go_round
        case rel => exact ⟨k + 1, by omega, by go_num, fun j hj => (by
          by_cases e : j = k
          · rw [e]; simpa using hc
          · exact hall.out j (by omega))⟩
        case measure => simp [intOf]; omega
      · go_wp2_with (first | (go_at_call 15; refine (awake_any _).mono ?_; rintro e w8 ⟨rfl, hb8⟩))
        go_ret
        exact ⟨rfl, hb8⟩
    · have hF : cutF 58 a.toList = false := (cut_none 58 a (fun j hj => hall.out j (by omega))).2.2
      clear hall
      go_wp2_with fail
      refine (object_mid_bad a b 11 _ hs1 hF (by simp [*]) (by decide)).mono ?_
      rintro e w1 ⟨rfl, hb1⟩
      go_wp2_with (first | (go_at_call 21; refine (name_any _ _).mono ?_; rintro e w9 ⟨rfl, hw⟩; obtain rfl := hw.symm) | (go_at_call 22; refine (id_any _ _).mono ?_; rintro e w9 ⟨rfl, hw⟩; obtain rfl := hw.symm))
      go_loop [11] (fun i => ∃ k : Nat, k ≤ b.size ∧ i = .int .i64 k ∧ Hid (∀ j, j < k → bt b j ≠ 35)) (fun i => b.size - (intOf i).toNat)
      case atStart => exact ⟨0, Nat.zero_le _, rfl, fun j hj => absurd hj (Nat.not_lt_zero j)⟩
      case round =>
        obtain ⟨q, hq, rfl, hal2⟩ := hrel
        by_cases hlq : q < b.size
        · cases hc : (bt b q == 35)
          · go_wp2
            go_round
            case rel => exact ⟨q + 1, by omega, by go_num, fun j hj => (by
              by_cases e : j = q
              · rw [e]; simpa using hc
              · exact hal2.out j (by omega))⟩
            case measure => simp [intOf]; omega
          · go_wp2_with (first | (go_at_call 15; refine (awake_any _).mono ?_; rintro e w8 ⟨rfl, hb8⟩))
            go_ret
            exact ⟨rfl, below_step hb1 hb8⟩
        · have hG : cutF 35 b.toList = false := (cut_none 35 b (fun j hj => hal2.out j (by omega))).2.2
          clear hal2
          go_wp2_with fail
          refine (subject_mid_bad a b c 11 _ hs2 hF hG (by simp [*]) (by decide)).mono ?_
          rintro e w2 ⟨rfl, hb2⟩
          go_wp2_with (first | (go_at_call 21; refine (name_any _ _).mono ?_; rintro e w9 ⟨rfl, hw⟩; obtain rfl := hw.symm) | (go_at_call 22; refine (id_any _ _).mono ?_; rintro e w9 ⟨rfl, hw⟩; obtain rfl := hw.symm))
          refine (object_no a _ (by unfold maxLen; omega) hF).mono ?_
          rintro e w3 ⟨rfl, hb3⟩
          go_wp2_with fail
          refine (subject_no a _ (by unfold maxLen; omega) hF).mono ?_
          rintro e w4 ⟨rfl, hb4⟩
          go_wp2
          go_ret
          exact ⟨rfl, below_last (below_step (below_step (below_step hb1 hb2) hb3) hb4)⟩

set_option maxHeartbeats 1000000 in
theorem parts_3 (a b c : ByteArray) (w : World) (ha : a.size ≤ 1000) (hb : b.size ≤ 1000) (hc : c.size ≤ 1000) (hn : nameL a.toList = true) (hi : idL b.toList = true) (hr : nameL c.toList = false) :
    Calls Try.prog 7 #[.string a, .string b, .string c] w fun e w' => e = .returned (.bool true) ∧ Below w.heap.size w w' := by
  have z1 : ¬ (1000 : Int) < (a.size : Int) := by omega
  have z2 : ¬ (1000 : Int) < (b.size : Int) := by omega
  have z3 : ¬ (1000 : Int) < (c.size : Int) := by omega
  have hs1 : a.size + b.size ≤ 4000 := by omega
  have hs2 : a.size + b.size + c.size ≤ 4000 := by omega
  have hba := get_bt a
  have hbb := get_bt b
  go_enter Try.func7, Try.ntmps7
  go_wp2
  go_loop [7] (fun i => ∃ k : Nat, k ≤ a.size ∧ i = .int .i64 k ∧ Hid (∀ j, j < k → bt a j ≠ 58)) (fun i => a.size - (intOf i).toNat)
  case atStart => exact ⟨0, Nat.zero_le _, rfl, fun j hj => absurd hj (Nat.not_lt_zero j)⟩
  case round =>
    obtain ⟨k, hk, rfl, hall⟩ := hrel
    by_cases hlt : k < a.size
    · cases hc : (bt a k == 58)
      · go_wp2
        go_round
        case rel => exact ⟨k + 1, by omega, by go_num, fun j hj => (by
          by_cases e : j = k
          · rw [e]; simpa using hc
          · exact hall.out j (by omega))⟩
        case measure => simp [intOf]; omega
      · go_wp2_with (first | (go_at_call 15; refine (awake_any _).mono ?_; rintro e w8 ⟨rfl, hb8⟩))
        go_ret
        exact ⟨rfl, hb8⟩
    · have hF : cutF 58 a.toList = false := (cut_none 58 a (fun j hj => hall.out j (by omega))).2.2
      clear hall
      go_wp2_with fail
      refine (object_mid_ok a b _ hs1 hF hn hi).mono ?_
      rintro e w1 ⟨rfl, hb1⟩
      go_wp2_with (first | (go_at_call 21; refine (name_any _ _).mono ?_; rintro e w9 ⟨rfl, hw⟩; obtain rfl := hw.symm) | (go_at_call 22; refine (id_any _ _).mono ?_; rintro e w9 ⟨rfl, hw⟩; obtain rfl := hw.symm))
      go_loop [11] (fun i => ∃ k : Nat, k ≤ b.size ∧ i = .int .i64 k ∧ Hid (∀ j, j < k → bt b j ≠ 35)) (fun i => b.size - (intOf i).toNat)
      case atStart => exact ⟨0, Nat.zero_le _, rfl, fun j hj => absurd hj (Nat.not_lt_zero j)⟩
      case round =>
        obtain ⟨q, hq, rfl, hal2⟩ := hrel
        by_cases hlq : q < b.size
        · cases hc : (bt b q == 35)
          · go_wp2
            go_round
            case rel => exact ⟨q + 1, by omega, by go_num, fun j hj => (by
              by_cases e : j = q
              · rw [e]; simpa using hc
              · exact hal2.out j (by omega))⟩
            case measure => simp [intOf]; omega
          · go_wp2_with (first | (go_at_call 15; refine (awake_any _).mono ?_; rintro e w8 ⟨rfl, hb8⟩))
            go_ret
            exact ⟨rfl, below_step hb1 hb8⟩
        · have hG : cutF 35 b.toList = false := (cut_none 35 b (fun j hj => hal2.out j (by omega))).2.2
          clear hal2
          go_wp2_with fail
          refine (subject_mid_bad a b c 10 _ hs2 hF hG (by simp [*]) (by decide)).mono ?_
          rintro e w2 ⟨rfl, hb2⟩
          go_wp2_with (first | (go_at_call 21; refine (name_any _ _).mono ?_; rintro e w9 ⟨rfl, hw⟩; obtain rfl := hw.symm) | (go_at_call 22; refine (id_any _ _).mono ?_; rintro e w9 ⟨rfl, hw⟩; obtain rfl := hw.symm))
          refine (object_no a _ (by unfold maxLen; omega) hF).mono ?_
          rintro e w3 ⟨rfl, hb3⟩
          go_wp2_with fail
          refine (subject_no a _ (by unfold maxLen; omega) hF).mono ?_
          rintro e w4 ⟨rfl, hb4⟩
          go_wp2
          go_ret
          exact ⟨rfl, below_last (below_step (below_step (below_step hb1 hb2) hb3) hb4)⟩

set_option maxHeartbeats 1000000 in
theorem parts_4 (a b c : ByteArray) (w : World) (ha : a.size ≤ 1000) (hb : b.size ≤ 1000) (hc : c.size ≤ 1000) (hn : nameL a.toList = true) (hi : idL b.toList = true) (hr : nameL c.toList = true) :
    Calls Try.prog 7 #[.string a, .string b, .string c] w fun e w' => e = .returned (.bool true) ∧ Below w.heap.size w w' := by
  have z1 : ¬ (1000 : Int) < (a.size : Int) := by omega
  have z2 : ¬ (1000 : Int) < (b.size : Int) := by omega
  have z3 : ¬ (1000 : Int) < (c.size : Int) := by omega
  have hs1 : a.size + b.size ≤ 4000 := by omega
  have hs2 : a.size + b.size + c.size ≤ 4000 := by omega
  have hba := get_bt a
  have hbb := get_bt b
  go_enter Try.func7, Try.ntmps7
  go_wp2
  go_loop [7] (fun i => ∃ k : Nat, k ≤ a.size ∧ i = .int .i64 k ∧ Hid (∀ j, j < k → bt a j ≠ 58)) (fun i => a.size - (intOf i).toNat)
  case atStart => exact ⟨0, Nat.zero_le _, rfl, fun j hj => absurd hj (Nat.not_lt_zero j)⟩
  case round =>
    obtain ⟨k, hk, rfl, hall⟩ := hrel
    by_cases hlt : k < a.size
    · cases hc : (bt a k == 58)
      · go_wp2
        go_round
        case rel => exact ⟨k + 1, by omega, by go_num, fun j hj => (by
          by_cases e : j = k
          · rw [e]; simpa using hc
          · exact hall.out j (by omega))⟩
        case measure => simp [intOf]; omega
      · go_wp2_with (first | (go_at_call 15; refine (awake_any _).mono ?_; rintro e w8 ⟨rfl, hb8⟩))
        go_ret
        exact ⟨rfl, hb8⟩
    · have hF : cutF 58 a.toList = false := (cut_none 58 a (fun j hj => hall.out j (by omega))).2.2
      clear hall
      go_wp2_with fail
      refine (object_mid_ok a b _ hs1 hF hn hi).mono ?_
      rintro e w1 ⟨rfl, hb1⟩
      go_wp2_with (first | (go_at_call 21; refine (name_any _ _).mono ?_; rintro e w9 ⟨rfl, hw⟩; obtain rfl := hw.symm) | (go_at_call 22; refine (id_any _ _).mono ?_; rintro e w9 ⟨rfl, hw⟩; obtain rfl := hw.symm))
      go_loop [11] (fun i => ∃ k : Nat, k ≤ b.size ∧ i = .int .i64 k ∧ Hid (∀ j, j < k → bt b j ≠ 35)) (fun i => b.size - (intOf i).toNat)
      case atStart => exact ⟨0, Nat.zero_le _, rfl, fun j hj => absurd hj (Nat.not_lt_zero j)⟩
      case round =>
        obtain ⟨q, hq, rfl, hal2⟩ := hrel
        by_cases hlq : q < b.size
        · cases hc : (bt b q == 35)
          · go_wp2
            go_round
            case rel => exact ⟨q + 1, by omega, by go_num, fun j hj => (by
              by_cases e : j = q
              · rw [e]; simpa using hc
              · exact hal2.out j (by omega))⟩
            case measure => simp [intOf]; omega
          · go_wp2_with (first | (go_at_call 15; refine (awake_any _).mono ?_; rintro e w8 ⟨rfl, hb8⟩))
            go_ret
            exact ⟨rfl, below_step hb1 hb8⟩
        · have hG : cutF 35 b.toList = false := (cut_none 35 b (fun j hj => hal2.out j (by omega))).2.2
          clear hal2
          go_wp2_with fail
          refine (subject_mid_ok a b c _ hs2 hF hG hn hi hr).mono ?_
          rintro e w2 ⟨rfl, hb2⟩
          go_wp2_with (first | (go_at_call 21; refine (name_any _ _).mono ?_; rintro e w9 ⟨rfl, hw⟩; obtain rfl := hw.symm) | (go_at_call 22; refine (id_any _ _).mono ?_; rintro e w9 ⟨rfl, hw⟩; obtain rfl := hw.symm))
          refine (object_no a _ (by unfold maxLen; omega) hF).mono ?_
          rintro e w3 ⟨rfl, hb3⟩
          go_wp2_with fail
          refine (subject_no a _ (by unfold maxLen; omega) hF).mono ?_
          rintro e w4 ⟨rfl, hb4⟩
          go_wp2
          go_ret
          exact ⟨rfl, below_last (below_step (below_step (below_step hb1 hb2) hb3) hb4)⟩

end Go.Proofs.Ytkkbnbcjkjbepab
