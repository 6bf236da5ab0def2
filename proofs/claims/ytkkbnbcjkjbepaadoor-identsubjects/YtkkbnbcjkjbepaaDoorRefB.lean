/- What Name, Id and cut of the document's answer answer, for every text, where its table of words lies in memory. -/
import Derived.Test.YtkkbnbcjkjbepaaDoorRefA
namespace Go.Proofs.YtkkbnbcjkjbepaaDoor
open Go.RowKit Go.PlainAid

set_option maxHeartbeats 1000000 in
theorem rname_any (s : ByteArray) (w : World) (hW : Words w) :
    Calls Tryd.prog 9 #[.string s] w fun e w' => e = .returned (.bool (nameL s.toList)) ∧ w' = w := by
  have hb := get_bt s
  have hba := ba_toList
  have HW : Hid (∀ k, k < 13 → w.cell? ⟨0, k, none⟩ = some (.string (ba (wordAt k)))) := hW
  clear hW
  have HL : Hid (nameL s.toList = (decide (1 ≤ s.size) && decide (s.size ≤ 32) && smallB (bt s 0) && !resL s.toList && s.toList.all (fun c => inNameB (c.toNat : Int)))) := by
    show _ = _
    rw [bt_hd, ← toList_len]; rfl
  by_cases h0 : s.size < 1
  · have z0 : (s.size : Int) < 1 := by omega
    go_enter Tryd.func9, Tryd.ntmps9
    go_wp2
    go_ret
    exact ⟨ret_bool (by rw [HL.out, show decide (1 ≤ s.size) = false from decide_eq_false (by omega)]; simp), rfl⟩
  have z0 : ¬ (s.size : Int) < 1 := by omega
  by_cases h1 : 32 < s.size
  · have z1 : (32 : Int) < (s.size : Int) := by omega
    go_enter Tryd.func9, Tryd.ntmps9
    go_wp2
    go_ret
    exact ⟨ret_bool (by rw [HL.out]; simp; omega), rfl⟩
  have z1 : ¬ (32 : Int) < (s.size : Int) := by omega
  cases h2 : smallB (bt s 0)
  · go_enter Tryd.func9, Tryd.ntmps9
    go_wp2_with (go_at_call 25; refine (rsmall_any _ _).mono ?_; rintro e w9 ⟨rfl, hw⟩; obtain rfl := hw.symm)
    go_ret
    exact ⟨ret_bool (by rw [HL.out, h2]; simp), rfl⟩
  go_enter Tryd.func9, Tryd.ntmps9
  go_wp2_with (go_at_call 25; refine (rsmall_any _ _).mono ?_; rintro e w9 ⟨rfl, hw⟩; obtain rfl := hw.symm)
  go_loop [3] (fun i => ∃ k : Nat, k ≤ s.size ∧ i = .int .i64 k ∧ Hid (∀ j, j < k → inNameB (bt s j) = true)) (fun i => s.size - (intOf i).toNat)
  case atStart => exact ⟨0, Nat.zero_le _, rfl, fun j hj => absurd hj (Nat.not_lt_zero j)⟩
  case round =>
    obtain ⟨k, hk, rfl, hall⟩ := hrel
    by_cases hlt : k < s.size
    · have HN : Hid (inNameB (bt s k) = (smallB (bt s k) || digitB (bt s k) || bt s k == 95)) := rfl
      cases hs : smallB (bt s k)
      · cases hd : digitB (bt s k)
        · cases hu : (bt s k == 95)
          · have hu' : (bt s k != 95) = true := by rw [bne, hu]; rfl
            go_wp2_with (first | (go_at_call 25; refine (rsmall_any _ _).mono ?_; rintro e w9 ⟨rfl, hw⟩; obtain rfl := hw.symm) | (go_at_call 26; refine (rdigit_any _ _).mono ?_; rintro e w9 ⟨rfl, hw⟩; obtain rfl := hw.symm))
            go_ret
            exact ⟨ret_bool (by rw [HL.out, all_not inNameB s k hlt (by rw [HN.out, hs, hd, hu]; rfl)]; simp), rfl⟩
          · have hu' : (bt s k != 95) = false := by rw [bne, hu]; rfl
            go_wp2_with (first | (go_at_call 25; refine (rsmall_any _ _).mono ?_; rintro e w9 ⟨rfl, hw⟩; obtain rfl := hw.symm) | (go_at_call 26; refine (rdigit_any _ _).mono ?_; rintro e w9 ⟨rfl, hw⟩; obtain rfl := hw.symm))
            go_round
            case rel => exact ⟨k + 1, by omega, by go_num, fun j hj => (by
              by_cases e : j = k
              · rw [e, HN.out, hs, hd, hu]; rfl
              · exact hall.out j (by omega))⟩
            case measure => simp [intOf]; omega
        · go_wp2_with (first | (go_at_call 25; refine (rsmall_any _ _).mono ?_; rintro e w9 ⟨rfl, hw⟩; obtain rfl := hw.symm) | (go_at_call 26; refine (rdigit_any _ _).mono ?_; rintro e w9 ⟨rfl, hw⟩; obtain rfl := hw.symm))
          go_round
          case rel => exact ⟨k + 1, by omega, by go_num, fun j hj => (by
            by_cases e : j = k
            · rw [e, HN.out, hs, hd]; rfl
            · exact hall.out j (by omega))⟩
          case measure => simp [intOf]; omega
      · go_wp2_with (first | (go_at_call 25; refine (rsmall_any _ _).mono ?_; rintro e w9 ⟨rfl, hw⟩; obtain rfl := hw.symm) | (go_at_call 26; refine (rdigit_any _ _).mono ?_; rintro e w9 ⟨rfl, hw⟩; obtain rfl := hw.symm))
        go_round
        case rel => exact ⟨k + 1, by omega, by go_num, fun j hj => (by
          by_cases e : j = k
          · rw [e, HN.out, hs]; rfl
          · exact hall.out j (by omega))⟩
        case measure => simp [intOf]; omega
    · have HA : Hid (s.toList.all (fun c => inNameB (c.toNat : Int)) = true) := all_of inNameB s (fun j hj => hall.out j (by omega))
      clear hall
      go_wp2
      go_loop [4] (fun i => ∃ k : Nat, k ≤ 13 ∧ i = .int .i64 k ∧ Hid (∀ j, j < k → wordAt j ≠ s.toList)) (fun i => 13 - (intOf i).toNat)
      case atStart => exact ⟨0, by omega, rfl, fun j hj => absurd hj (Nat.not_lt_zero j)⟩
      case round =>
        obtain ⟨q, hq, rfl, hal2⟩ := hrel
        by_cases hlq : q < 13
        · have hcell := HW.out q hlq
          cases hc : (wordAt q == s.toList)
          · go_wp2
            go_round
            case rel => exact ⟨q + 1, by omega, by go_num, fun j hj => (by
              by_cases e : j = q
              · rw [e]; simpa using hc
              · exact hal2.out j (by omega))⟩
            case measure => simp [intOf]; omega
          · go_wp2
            go_ret
            exact ⟨ret_bool (by rw [HL.out, res_at hlq (by simpa using hc)]; simp), rfl⟩
        · go_wp2
          go_ret
          exact ⟨ret_bool (by rw [HL.out, h2, HA.out, res_none (fun j hj => hal2.out j (by omega))]; simp; omega), rfl⟩

set_option maxHeartbeats 400000 in
theorem rid_any (s : ByteArray) (w : World) :
    Calls Tryd.prog 11 #[.string s] w fun e w' => e = .returned (.bool (idL s.toList)) ∧ w' = w := by
  have hb := get_bt s
  have HL : Hid (idL s.toList = (decide (1 ≤ s.size) && decide (s.size ≤ 64) && s.toList.all (fun c => inIdB (c.toNat : Int)))) := by
    show _ = _
    rw [← toList_len]; rfl
  by_cases h0 : s.size < 1
  · have z0 : (s.size : Int) < 1 := by omega
    go_enter Tryd.func11, Tryd.ntmps11
    go_wp2
    go_ret
    exact ⟨ret_bool (by rw [HL.out, show decide (1 ≤ s.size) = false from decide_eq_false (by omega)]; simp), rfl⟩
  have z0 : ¬ (s.size : Int) < 1 := by omega
  by_cases h1 : 64 < s.size
  · have z1 : (64 : Int) < (s.size : Int) := by omega
    go_enter Tryd.func11, Tryd.ntmps11
    go_wp2
    go_ret
    exact ⟨ret_bool (by rw [HL.out]; simp; omega), rfl⟩
  have z1 : ¬ (64 : Int) < (s.size : Int) := by omega
  go_enter Tryd.func11, Tryd.ntmps11
  go_wp2
  go_loop [3] (fun i => ∃ k : Nat, k ≤ s.size ∧ i = .int .i64 k ∧ Hid (∀ j, j < k → inIdB (bt s j) = true)) (fun i => s.size - (intOf i).toNat)
  case atStart => exact ⟨0, Nat.zero_le _, rfl, fun j hj => absurd hj (Nat.not_lt_zero j)⟩
  case round =>
    obtain ⟨k, hk, rfl, hall⟩ := hrel
    by_cases hlt : k < s.size
    · cases hc : inIdB (bt s k)
      · go_wp2_with (go_at_call 28; refine (one_any _ _).mono ?_; rintro e w9 ⟨rfl, hw⟩; obtain rfl := hw.symm)
        go_ret
        exact ⟨ret_bool (by rw [HL.out, all_not inIdB s k hlt hc]; simp), rfl⟩
      · go_wp2_with (go_at_call 28; refine (one_any _ _).mono ?_; rintro e w9 ⟨rfl, hw⟩; obtain rfl := hw.symm)
        go_round
        case rel => exact ⟨k + 1, by omega, by go_num, fun j hj => (by
          by_cases e : j = k
          · rw [e]; exact hc
          · exact hall.out j (by omega))⟩
        case measure => simp [intOf]; omega
    · go_wp2
      go_ret
      exact ⟨ret_bool (by rw [HL.out, all_of inIdB s (fun j hj => hall.out j (by omega))]; simp; omega), rfl⟩

def rcutA (m : Int) (l : List UInt8) : List UInt8 := if cutF m l = true then cutA m l else []
def rcutB (m : Int) (l : List UInt8) : List UInt8 := if cutF m l = true then cutB m l else []
set_option maxHeartbeats 400000 in
theorem rcut_any (s : ByteArray) (m : Int) (w : World) (hs : s.size ≤ maxLen) :
    Calls Tryd.prog 31 #[.string s, .int .u8 m] w fun e w' => e = .returned (.tuple #[.string (ba (rcutA m s.toList)), .string (ba (rcutB m s.toList)), .bool (cutF m s.toList)]) ∧ ∃ n, w' = w.drewN n := by
  have hb := get_bt s
  unfold maxLen at hs
  go_enter Tryd.func31, Tryd.ntmps31
  go_wp2
  go_loop [7] (fun i => ∃ k : Nat, k ≤ s.size ∧ i = .int .i64 k ∧ Hid (∀ j, j < k → bt s j ≠ m)) (fun i => s.size - (intOf i).toNat)
  case atStart => exact ⟨0, Nat.zero_le _, rfl, fun j hj => absurd hj (Nat.not_lt_zero j)⟩
  case round =>
    obtain ⟨k, hk, rfl, hall⟩ := hrel
    by_cases hlt : k < s.size
    · cases hc : (bt s k == m)
      · go_wp2
        go_round
        case rel => exact ⟨k + 1, by omega, by go_num, fun j hj => (by
          by_cases e : j = k
          · rw [e]; simpa using hc
          · exact hall.out j (by omega))⟩
        case measure => simp [intOf]; omega
      · go_wp2
        go_quiet (fail)
        go_wp2
        go_ret3
        obtain ⟨e1, e2, e3⟩ := cut_at m s k hlt hall.out (by simpa using hc)
        exact ⟨ret_cut (by unfold rcutA; rw [e3, e1]; exact ext_take s k) (by unfold rcutB; rw [e3, e2]; exact ext_drop s (k + 1)) e3.symm, nq, rfl⟩
    · go_wp2
      go_ret3
      obtain ⟨e1, e2, e3⟩ := cut_none m s (fun j hj => hall.out j (by omega))
      exact ⟨ret_cut (by unfold rcutA; rw [e3]; rfl) (by unfold rcutB; rw [e3]; rfl) e3.symm, 0, rfl⟩
end Go.Proofs.YtkkbnbcjkjbepaaDoor
