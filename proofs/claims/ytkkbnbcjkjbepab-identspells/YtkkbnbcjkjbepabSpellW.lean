/- What the statements' own small function spelled answers. -/
import Derived.Test.YtkkbnbcjkjbepabGrowsP
namespace Go.Proofs.Ytkkbnbcjkjbepab
open Go.RowKit Go.PlainAid

def anyTo (L : ByteArray) (k : Nat) (c : Int) : Bool := (L.toList.take k).any (fun x => (x.toNat : Int) == c)
def memB (L : List UInt8) (c : Int) : Bool := L.any (fun x => (x.toNat : Int) == c)
def spellB (s : ByteArray) (m : Int) (L : ByteArray) : Bool := decide (1 ≤ s.size) && decide ((s.size : Int) ≤ m) && s.toList.all (fun c => memB L.toList (c.toNat : Int))
theorem anyTo_zero (L : ByteArray) (c : Int) : anyTo L 0 c = false := by simp [anyTo]
theorem anyTo_succ (L : ByteArray) (k : Nat) (c : Int) (h : k < L.size) : anyTo L (k + 1) c = (anyTo L k c || bt L k == c) := by
  have h' : k < L.toList.length := by rw [toList_len]; exact h
  unfold anyTo
  rw [List.take_succ_eq_append_getElem h', List.any_append, bt_get L k h']
  simp
theorem anyTo_all (L : ByteArray) (k : Nat) (c : Int) (h : L.size ≤ k) : anyTo L k c = memB L.toList c := by
  unfold anyTo memB
  rw [List.take_of_length_le (by rw [toList_len]; exact h)]

set_option maxHeartbeats 1000000 in
theorem spelled_any (s L : ByteArray) (m : Int) (w : World) (hm : m ≤ 64) (hL : L.size ≤ 100) :
    Calls Try.prog 19 #[.string s, .int .i64 m, .string L] w fun e w' => e = .returned (.bool (spellB s m L)) ∧ ∃ n, w' = w.drewN n := by
  have hbs := get_bt s
  have hbL := get_bt L
  have HS : Hid (spellB s m L = (decide (1 ≤ s.size) && decide ((s.size : Int) ≤ m) && s.toList.all (fun c => memB L.toList (c.toNat : Int)))) := rfl
  by_cases h0 : s.size < 1
  · have z0 : (s.size : Int) < 1 := by omega
    go_enter Try.func19, Try.ntmps19
    go_wp2
    go_ret
    exact ⟨ret_bool (by rw [HS.out]; simp; omega), 0, rfl⟩
  have z0 : ¬ (s.size : Int) < 1 := by omega
  by_cases h1 : m < (s.size : Int)
  · go_enter Try.func19, Try.ntmps19
    go_wp2
    go_ret
    exact ⟨ret_bool (by rw [HS.out]; simp; omega), 0, rfl⟩
  go_enter Try.func19, Try.ntmps19
  go_wp2
  go_loopw [7] (fun i wr => ∃ k : Nat, k ≤ s.size ∧ i = .int .i64 k ∧ Hid (∀ j, j < k → memB L.toList (bt s j) = true) ∧ ∃ n, wr = w.drewN n) (fun i _ => s.size - (intOf i).toNat)
  case atStart => exact ⟨0, Nat.zero_le _, rfl, fun j hj => absurd hj (Nat.not_lt_zero j), 0, rfl⟩
  case round =>
    obtain ⟨k, hk, rfl, hall, n, rfl⟩ := hrel
    by_cases hlt : k < s.size
    · go_wp2
      go_loopw [8, 9] (fun h i wr => ∃ q : Nat, q ≤ L.size ∧ i = .int .i64 q ∧ h = .bool (anyTo L q (bt s k)) ∧ ∃ n, wr = w.drewN n) (fun _ i _ => L.size - (intOf i).toNat)
      case atStart => exact ⟨0, Nat.zero_le _, rfl, by rw [anyTo_zero], n, rfl⟩
      case round =>
        obtain ⟨q, hq, rfl, rfl, n2, rfl⟩ := hrel
        by_cases hlq : q < L.size
        · have HA : Hid (anyTo L (q + 1) (bt s k) = (anyTo L q (bt s k) || bt L q == bt s k)) := anyTo_succ L q _ hlq
          cases ht : anyTo L q (bt s k)
          · cases hc : (bt L q == bt s k)
            all_goals
              go_wp2
              go_quiet (fail)
              go_wp2
              go_roundw
              case rel => exact ⟨q + 1, by omega, by go_num, by rw [HA.out, ht, hc]; rfl, _, rfl⟩
              case measure => simp [intOf]; omega
          · go_wp2
            go_quiet (fail)
            go_wp2
            go_roundw
            case rel => exact ⟨q + 1, by omega, by go_num, by rw [HA.out, ht]; rfl, _, rfl⟩
            case measure => simp [intOf]; omega
        · have HA : Hid (anyTo L q (bt s k) = memB L.toList (bt s k)) := anyTo_all L q _ (by omega)
          cases ht : anyTo L q (bt s k)
          · go_wp2
            go_ret
            exact ⟨ret_bool (by rw [HS.out, all_not (memB L.toList) s k hlt (by rw [← HA.out]; exact ht)]; simp), _, rfl⟩
          · go_wp2
            go_roundw
            case rel => exact ⟨k + 1, by omega, by go_num, fun j hj => (by
              by_cases e : j = k
              · rw [e, ← HA.out]; exact ht
              · exact hall.out j (by omega)), _, rfl⟩
            case measure => simp [intOf]; omega
    · go_wp2
      go_ret
      exact ⟨ret_bool (by rw [HS.out, all_of (memB L.toList) s (fun j hj => hall.out j (by omega))]; simp; omega), _, rfl⟩
end Go.Proofs.Ytkkbnbcjkjbepab
