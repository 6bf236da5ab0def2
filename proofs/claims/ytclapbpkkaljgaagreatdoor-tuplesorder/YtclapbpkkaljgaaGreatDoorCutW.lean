/- What Id and cut of package ident answer, for every text. -/
import Derived.Test.YtclapbpkkaljgaaGreatDoorNameW
import Derived.Deep.QuietTactic
import Derived.BigQuiet
import Derived.Lib.Strings
namespace Go.Proofs.YtclapbpkkaljgaaGreatDoor.Idt
open Go.RowKit Go.PlainAid

set_option maxHeartbeats 400000 in
theorem id_any (s : ByteArray) (w : World) :
    Calls Tryz.prog 37 #[.string s] w fun e w' => e = .returned (.bool (idL s.toList)) ∧ w' = w := by
  have hb := get_bt s
  have HL : Hid (idL s.toList = (decide (1 ≤ s.size) && decide (s.size ≤ 64) && s.toList.all (fun c => inIdB (c.toNat : Int)))) := by
    show _ = _
    rw [← toList_len]; rfl
  by_cases h0 : s.size = 0
  · have z0 : ((s.size : Int) == 0) = true := by simp [h0]
    go_enter Tryz.func37, Tryz.ntmps37
    go_wp2
    go_ret
    exact ⟨by rw [HL.out, h0]; rfl, rfl⟩
  have z0 : ((s.size : Int) == 0) = false := by simp [h0]
  by_cases h1 : 64 < s.size
  · have z1 : (64 : Int) < (s.size : Int) := by omega
    go_enter Tryz.func37, Tryz.ntmps37
    go_wp2
    go_ret
    exact ⟨by rw [HL.out]; simp; omega, rfl⟩
  have z1 : ¬ (64 : Int) < (s.size : Int) := by omega
  go_enter Tryz.func37, Tryz.ntmps37
  go_wp2
  go_loop [14] (fun i => ∃ k : Nat, k ≤ s.size ∧ i = .int .i64 k ∧ Hid (∀ j, j < k → inIdB (bt s j) = true)) (fun i => s.size - (intOf i).toNat)
  case atStart => exact ⟨0, Nat.zero_le _, rfl, fun j hj => absurd hj (Nat.not_lt_zero j)⟩
  case round =>
    obtain ⟨k, hk, rfl, hall⟩ := hrel
    by_cases hlt : k < s.size
    · cases hc : inIdB (bt s k)
      · go_wp2_with (go_at_call 59; refine (inId_any _ _).mono ?_; rintro e w' ⟨rfl, rfl⟩)
        go_ret
        exact ⟨by rw [HL.out, all_not inIdB s k hlt hc]; simp, rfl⟩
      · go_wp2_with (go_at_call 59; refine (inId_any _ _).mono ?_; rintro e w' ⟨rfl, rfl⟩)
        go_round
        case rel => exact ⟨k + 1, by omega, by go_num, fun j hj => (by
          by_cases e : j = k
          · rw [e]; exact hc
          · exact hall.out j (by omega))⟩
        case measure => simp [intOf]; omega
    · go_wp2
      go_ret
      exact ⟨by rw [HL.out, all_of inIdB s (fun j hj => hall.out j (by omega))]; simp; omega, rfl⟩

def ba (l : List UInt8) : ByteArray := ⟨l.toArray⟩
theorem ba_toList (l : List UInt8) : (ba l).toList = l := ByteArray.toList_mk l
theorem toList_ba (s : ByteArray) : ba s.toList = s := by rw [ByteArray.toList_eq]; unfold ba; simp
theorem ba_of {s : ByteArray} {l : List UInt8} (h : s.toList = l) : s = ba l := by rw [← h, toList_ba]

def notM (m : Int) (c : UInt8) : Bool := !((c.toNat : Int) == m)
def cutA (m : Int) (l : List UInt8) : List UInt8 := l.takeWhile (notM m)
def cutB (m : Int) (l : List UInt8) : List UInt8 := (l.dropWhile (notM m)).tail
def cutF (m : Int) (l : List UInt8) : Bool := !(l.all (notM m))

theorem tw_at (p : UInt8 → Bool) : ∀ (l : List UInt8) (k : Nat) (h : k < l.length), (∀ j, (hj : j < k) → p (l[j]'(by omega)) = true) → p l[k] = false →
    l.takeWhile p = l.take k ∧ l.dropWhile p = l.drop k ∧ l.all p = false := by
  intro l
  induction l with
  | nil => intro k h; simp at h
  | cons c l ih =>
    intro k h hall hk
    cases k with
    | zero => simp at hk; simp [hk]
    | succ k =>
      have hc : p c = true := hall 0 (by omega)
      obtain ⟨a, b, d⟩ := ih k (by simpa using h) (fun j hj => by simpa using hall (j + 1) (by omega)) (by simpa using hk)
      simp [hc, a, b, d]
theorem tw_all (p : UInt8 → Bool) (l : List UInt8) (h : l.all p = true) : l.takeWhile p = l ∧ l.dropWhile p = [] := by
  rw [List.all_eq_true] at h
  induction l with
  | nil => simp
  | cons c l ih =>
    have hc := h c (by simp)
    have := ih (fun x hx => h x (by simp [hx]))
    simp [hc, this]
theorem cut_at (m : Int) (s : ByteArray) (k : Nat) (h : k < s.size) (hall : ∀ j, j < k → bt s j ≠ m) (hk : bt s k = m) :
    cutA m s.toList = s.toList.take k ∧ cutB m s.toList = s.toList.drop (k + 1) ∧ cutF m s.toList = true := by
  have hl : k < s.toList.length := by rw [toList_len]; exact h
  obtain ⟨a, b, d⟩ := tw_at (notM m) s.toList k hl (fun j hj => by
    have := hall j hj
    rw [bt_get s j (by omega)] at this
    simp [notM, this]) (by rw [bt_get s k hl] at hk; simp [notM, hk])
  refine ⟨a, ?_, by simp [cutF, d]⟩
  unfold cutB; rw [b, List.tail_drop]
theorem cut_none (m : Int) (s : ByteArray) (hall : ∀ j, j < s.size → bt s j ≠ m) :
    cutA m s.toList = s.toList ∧ cutB m s.toList = [] ∧ cutF m s.toList = false := by
  have hp : s.toList.all (notM m) = true := by
    rw [List.all_eq_true]
    intro c hc
    obtain ⟨j, hj, rfl⟩ := List.getElem_of_mem hc
    have := hall j (by rw [← toList_len]; exact hj)
    rw [bt_get s j hj] at this
    simp [notM, this]
  obtain ⟨a, b⟩ := tw_all _ _ hp
  exact ⟨a, by unfold cutB; rw [b]; rfl, by simp [cutF, hp]⟩

theorem ret_cut {a b a' b' : ByteArray} {f f' : Bool} (ha : a = a') (hb : b = b') (hf : f = f') : Ending.returned (.tuple #[.string a, .string b, .bool f]) = .returned (.tuple #[.string a', .string b', .bool f']) := by rw [ha, hb, hf]
theorem ext_take (s : ByteArray) (k : Nat) : s.extract 0 k = ba (s.toList.take k) := ba_of (by rw [Lib.extract_toList, ByteArray.toList_eq]; simp)
theorem ext_drop (s : ByteArray) (k : Nat) : s.extract k s.size = ba (s.toList.drop k) := ba_of (by
  rw [Lib.extract_toList, ByteArray.toList_eq]
  exact List.take_of_length_le (by simp))

set_option maxHeartbeats 400000 in
theorem cut_any (s : ByteArray) (m : Int) (w : World) (hs : s.size ≤ maxLen) :
    Calls Tryz.prog 52 #[.string s, .int .u8 m] w fun e w' => e = .returned (.tuple #[.string (ba (cutA m s.toList)), .string (ba (cutB m s.toList)), .bool (cutF m s.toList)]) ∧ ∃ n, w' = w.drewN n := by
  have hb := get_bt s
  unfold maxLen at hs
  go_enter Tryz.func52, Tryz.ntmps52
  go_wp2
  go_loop [10] (fun i => ∃ k : Nat, k ≤ s.size ∧ i = .int .i64 k ∧ Hid (∀ j, j < k → bt s j ≠ m)) (fun i => s.size - (intOf i).toNat)
  case atStart => exact ⟨0, Nat.zero_le _, rfl, fun j hj => absurd hj (Nat.not_lt_zero j)⟩
  case round =>
    obtain ⟨k, hk, rfl, hall⟩ := hrel
    by_cases hlt : k < s.size
    · cases hc : (bt s k == m)
      · go_wp2
        go_round
        case rel => exact ⟨k + 1, by omega, by go_num, fun j hj => (by
          by_cases e : j = k
          · rw [e]; simpa using hc
          · exact hall.out j (by omega))⟩
        case measure => simp [intOf]; omega
      · go_wp2
        go_quiet (fail)
        go_wp2
        go_ret3
        obtain ⟨e1, e2, e3⟩ := cut_at m s k hlt hall.out (by simpa using hc)
        exact ⟨ret_cut (by rw [e1]; exact ext_take s k) (by rw [e2]; exact ext_drop s (k + 1)) e3.symm, nq, rfl⟩
    · go_wp2
      go_ret3
      obtain ⟨e1, e2, e3⟩ := cut_none m s (fun j hj => hall.out j (by omega))
      exact ⟨ret_cut (by rw [e1]; exact (toList_ba s).symm) (by rw [e2]; rfl) e3.symm, 0, rfl⟩
end Go.Proofs.YtclapbpkkaljgaaGreatDoor.Idt

