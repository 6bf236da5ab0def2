/- The document's own short forms: the number that begins some bytes. -/
import Derived.Test.YtcmembmaaebdeaaReadR
namespace Go.Proofs.Ytcmembmaaebdeaa
open Go.RowKit Go.PlainAid Go.Lib

theorem pow_part (c i k : Nat) (hk : k ≤ i) : c * 128 ^ k ≤ c * 128 ^ i := Nat.mul_le_mul_left _ (Nat.pow_le_pow_right (by decide) hk)

set_option maxRecDepth 1000000 in
set_option maxHeartbeats 6400000 in
theorem refNumber_any (v : Value) (l : List UInt8) (w : World) (hv : Bs w v l) :
    Calls Try.prog 86 #[v] w fun e w' => e = .returned (.tuple #[.int .u64 ((numL l).1 : Nat), .int .i64 ((numL l).2.1 : Nat), .int .i64 (numL l).2.2]) ∧ w' = w := by
  obtain ⟨ao, cap, rfl, hlc, hcm, _, hex⟩ := hv.ex
  simp only [maxLen] at hcm
  have HEX : Hid (l ≠ [] → ∃ b o, ao = some ⟨b, o, none⟩ ∧ ∀ j, j < l.length → w.cell? ⟨b, o + j, none⟩ = some (.int .u8 ((l.getD j 0).toNat : Int))) := hex
  clear hex hv
  go_enter Try.func86, Try.ntmps86
  go_wp2
  go_loop [5, 6] (fun xv iv => ∃ (i acc : Nat), iv = .int .i64 (i : Int) ∧ xv = .int .u64 (acc : Int) ∧ i ≤ l.length ∧ i ≤ 9 ∧ acc < 128 ^ i ∧ numL l = numG (l.drop i) i acc)
    (fun _ iv => l.length + 1 - (intOf iv).toNat)
  case atStart => exact ⟨0, 0, rfl, rfl, Nat.zero_le _, by omega, by decide, rfl⟩
  case round =>
    obtain ⟨i, acc, rfl, rfl, hi, hi9, hacc, hnum⟩ := hrel
    by_cases hil : i < l.length
    · obtain ⟨b, o, rfl, hc⟩ := HEX.out (by intro hz; rw [hz] at hil; simp at hil)
      have hci := hc i hil
      rw [drop_cons l i hil] at hnum
      obtain ⟨c, hcd⟩ : ∃ c : Nat, c = (l.getD i 0).toNat := ⟨_, rfl⟩
      have hc255 : c < 256 := by rw [hcd]; exact (l.getD i 0).toNat_lt
      rw [← hcd] at hci
      rw [numG, ← hcd] at hnum
      clear hcd hc
      have hili : ¬ ((l.length : Int) ≤ (i : Int)) := by omega
      by_cases hE : (0 < i ∧ c = 0) ∨ (i = 9 ∧ 1 < c)
      · rw [if_pos hE] at hnum
        have HN : Hid (numL l = (0, 0, 21)) := hnum
        clear hnum
        by_cases h9 : i = 9 ∧ 1 < c
        · have t3 : ((i : Int) == 9) = true := by simp; omega
          have t4 : (1 : Int) < (c : Int) := by omega
          clear hE h9
          go_wp2
          refine bodyPost_ret (v := .tuple #[.int .u64 0, .int .i64 0, .int .i64 21]) (by simp [results, Try.results86, go_sem]) rfl ⟨by rw [HN.out]; rfl, rfl⟩
        · have h0 : 0 < i ∧ c = 0 := by rcases hE with h | h; exact h; exact absurd h h9
          have t1 : (0 : Int) < (i : Int) := by omega
          have t2 : ((c : Int) == 0) = true := by simp; omega
          have t4 : ¬ ((1 : Int) < (c : Int)) := by omega
          clear hE h9
          by_cases hi99 : i = 9
          · have t3 : ((i : Int) == 9) = true := by simp; omega
            clear hi99 h0
            go_wp2
            refine bodyPost_ret (v := .tuple #[.int .u64 0, .int .i64 0, .int .i64 21]) (by simp [results, Try.results86, go_sem]) rfl ⟨by rw [HN.out]; rfl, rfl⟩
          · have t3 : ((i : Int) == 9) = false := by simp; omega
            clear hi99 h0
            go_wp2
            refine bodyPost_ret (v := .tuple #[.int .u64 0, .int .i64 0, .int .i64 21]) (by simp [results, Try.results86, go_sem]) rfl ⟨by rw [HN.out]; rfl, rfl⟩
      · rw [if_neg hE] at hnum
        have hstep := step_lt acc c i hacc hi9 (by omega)
        have hnext := next_lt acc c i hacc
        have hE9 : i = 9 → c ≤ 1 := by omega
        have hE0 : 0 < i → c ≠ 0 := by omega
        have HN : Hid (numL l = if c < 128 then (acc + c % 128 * 128 ^ i, i + 1, 0) else numG (l.drop (i + 1)) (i + 1) (acc + c % 128 * 128 ^ i)) := hnum
        have HX : Hid (acc + c % 128 * 128 ^ i < 128 ^ (i + 1) ∧ (i = 9 → c ≤ 1)) := ⟨hnext, hE9⟩
        clear hnum hnext hacc hE
        have t34 : ((i : Int) == 9) = true ∧ ¬ ((1 : Int) < (c : Int)) ∨ ((i : Int) == 9) = false := by
          by_cases h9 : i = 9
          · exact .inl ⟨by simp; omega, by have := hE9 h9; omega⟩
          · exact .inr (by simp; omega)
        have t12 : (0 : Int) < (i : Int) ∧ ((c : Int) == 0) = false ∨ ¬ ((0 : Int) < (i : Int)) := by
          by_cases h0 : 0 < i
          · exact .inl ⟨by omega, by have := hE0 h0; simp; omega⟩
          · exact .inr (by omega)
        clear hE9 hE0
        rcases t34 with ⟨t3, t4⟩ | t3 <;> rcases t12 with ⟨t1, t2⟩ | t1
        all_goals
          go_wp2
          go_loop [7, 8] (fun pv kv => ∃ k : Nat, kv = .int .i64 (k : Int) ∧ k ≤ i ∧ pv = .int .u64 ((c % 128 * 128 ^ k : Nat) : Int)) (fun _ kv => i - (intOf kv).toNat)
          case atStart => exact ⟨0, rfl, Nat.zero_le _, by simp⟩
          case round =>
            obtain ⟨k, rfl, hk, rfl⟩ := hrel
            by_cases hki : k < i
            · have hkii : (k : Int) < (i : Int) := by omega
              have hp1 := pow_part (c % 128) i (k + 1) (by omega)
              have HP : Hid (c % 128 * 128 ^ (k + 1) = c % 128 * 128 ^ k * 128) := by
                show c % 128 * 128 ^ (k + 1) = c % 128 * 128 ^ k * 128
                rw [Nat.pow_succ, Nat.mul_assoc]
              rw [HP.out] at hp1
              generalize c % 128 * 128 ^ i = top at hp1 hstep
              generalize c % 128 * 128 ^ k = q at hp1 HP ⊢
              go_wp2
              go_round
              case rel => exact ⟨k + 1, by go_num, by omega, by rw [HP.out]; go_num⟩
              case measure => simp [intOf]; omega
            · have hkii : ¬ ((k : Int) < (i : Int)) := by omega
              have hkk : k = i := by omega
              subst hkk
              generalize c % 128 * 128 ^ k = top at hstep HN HX ⊢
              by_cases hD : c < 128
              · have t5 : (c : Int) < 128 := by omega
                have HM : Hid (numL l = (acc + top, k + 1, 0)) := by
                  have := HN.out
                  rw [if_pos hD] at this
                  exact this
                clear HN
                go_wp2
                refine bodyPost_ret (v := .tuple #[.int .u64 ((acc : Int) + (top : Int)), .int .i64 ((k : Int) + 1), .int .i64 0]) (by simp [results, Try.results86, go_sem]) rfl ⟨by rw [HM.out]; rfl, rfl⟩
              · have t5 : ¬ ((c : Int) < 128) := by omega
                have HM : Hid (numL l = numG (l.drop (k + 1)) (k + 1) (acc + top)) := by
                  have := HN.out
                  rw [if_neg hD] at this
                  exact this
                have hk8 : k < 9 := by have := HX.out.2; omega
                clear HN
                go_wp2
                go_round
                case rel => exact ⟨k + 1, acc + top, by go_num, by go_num, by omega, by omega, HX.out.1, HM.out⟩
                case measure => simp [intOf]; omega
    · have hili : (l.length : Int) ≤ (i : Int) := by omega
      rw [List.drop_eq_nil_of_le (by omega), numG] at hnum
      have HN : Hid (numL l = (0, 0, 20)) := hnum
      clear hnum
      go_wp2
      refine bodyPost_ret (v := .tuple #[.int .u64 0, .int .i64 0, .int .i64 20]) (by simp [results, Try.results86, go_sem]) rfl ⟨by rw [HN.out]; rfl, rfl⟩

end Go.Proofs.Ytcmembmaaebdeaa
