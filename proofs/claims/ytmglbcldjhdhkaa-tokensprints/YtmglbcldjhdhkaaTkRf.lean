/- The document's onward, skip, rowDigits. -/
import Derived.Test.YtmglbcldjhdhkaaTkRe
import Derived.Test.YtmglbcldjhdhkaaTkC4
namespace Go.Proofs.Ytmglbcldjhdhkaa
open Go.RowKit Go.PlainAid

set_option maxRecDepth 1000000 in
set_option maxHeartbeats 1000000 in
theorem onward2_any (s : ByteArray) (a b : Nat) (p : Nat × Nat) (w : World) (hab : a ≤ b) (hb : b ≤ s.size) (hs : s.size ≤ 140737488355328) (hp : p.1 ≤ 140737488355328 ∧ p.2 ≤ 140737488355328) :
    Calls Try.prog 34 #[.string s, .int .i64 (a : Int), .int .i64 (b : Int), .int .i64 (p.1 : Int), .int .i64 (p.2 : Int)] w fun e w' => e = .returned (.tuple #[.int .i64 ((adv p ((s.toList.drop a).take (b - a))).1 : Int), .int .i64 ((adv p ((s.toList.drop a).take (b - a))).2 : Int)]) ∧ w' = w := by
  have hgb := get_bt s
  go_enter Try.func34, Try.ntmps34
  go_wp2
  go_loopw [3, 4, 12] (fun z3 z4 z12 wr => ∃ (k : Nat), z12 = .int .i64 (k : Int) ∧ (a ≤ k ∧ k ≤ b) ∧ z3 = .int .i64 ((adv p ((s.toList.drop a).take (k - a))).1 : Int) ∧ z4 = .int .i64 ((adv p ((s.toList.drop a).take (k - a))).2 : Int) ∧ wr = w) (fun _ _ z12 _ => b - (intOf z12).toNat)
  case atStart => exact ⟨a, rfl, ⟨Nat.le_refl _, hab⟩, by rw [Nat.sub_self]; rfl, by rw [Nat.sub_self]; rfl, rfl⟩
  case round =>
    obtain ⟨k, rfl, ⟨hak, hk⟩, rfl, rfl, rfl⟩ := hrel
    by_cases hlt : k < b
    · have hlti : (k : Int) < (b : Int) := by omega
      have hls : k < s.size := by omega
      have hlsi : (k : Int) < (s.size : Int) := by omega
      obtain ⟨c, hc, hb2⟩ := bt_drop s k hls
      have hgc : ((s[k]'hls).toNat : Int) = (c.toNat : Int) := (hgb k hls).trans hb2
      have hnx : Hid (adv p ((s.toList.drop a).take (k + 1 - a)) = adv1 (adv p ((s.toList.drop a).take (k - a))) c) := by
        show _ = _
        rw [show k + 1 - a = (k - a) + 1 by omega, List.take_add, List.drop_drop, show a + (k - a) = k by omega, hc, List.take_succ_cons, List.take_zero, adv_snoc]
      have hle := adv_le ((s.toList.drop a).take (k - a)) p
      rw [List.length_take, List.length_drop, toList_len] at hle
      generalize hq : adv p ((s.toList.drop a).take (k - a)) = q at hnx hle ⊢
      obtain ⟨q1, q2⟩ := q
      simp only at hle ⊢
      clear hgb hq hb2 hc
      by_cases h10 : c = 10
      · have hci : (c.toNat : Int) = 10 := by rw [h10]; rfl
        have hnx2 : Hid (adv p ((s.toList.drop a).take (k + 1 - a)) = (q1 + 1, 1)) := by
          show _ = _
          rw [hnx.out]; unfold adv1; rw [if_pos h10]
        clear hnx h10
        go_wp2
        go_roundw
        case rel => exact ⟨k + 1, by go_num, by omega, by rw [hnx2.out]; go_num, by rw [hnx2.out]; rfl, trivial⟩
        case measure => simp [intOf]; omega
      · have hci : ((c.toNat : Int) == 10) = false := by
          have : ¬ ((c.toNat : Int) = 10) := fun e => h10 (by apply UInt8.toNat_inj.1; show c.toNat = 10; omega)
          simpa using this
        have hnx2 : Hid (adv p ((s.toList.drop a).take (k + 1 - a)) = (q1, q2 + 1)) := by
          show _ = _
          rw [hnx.out]; unfold adv1; rw [if_neg h10]
        clear hnx h10
        go_wp2
        go_roundw
        case rel => exact ⟨k + 1, by go_num, by omega, by rw [hnx2.out], by rw [hnx2.out]; go_num, trivial⟩
        case measure => simp [intOf]; omega
    · have hlti : ¬ (k : Int) < (b : Int) := by omega
      have hke : k = b := by omega
      rw [show k - a = b - a by omega]
      clear hgb hke
      go_wp2
      go_ret2
      exact ⟨rfl, rfl⟩

set_option maxRecDepth 1000000 in
set_option maxHeartbeats 1000000 in
theorem rowDigits_any (s : ByteArray) (a : Nat) (w : World) (ha : a ≤ s.size) (hs : s.size ≤ 140737488355328) :
    Calls Try.prog 64 #[.string s, .int .i64 (a : Int)] w fun e w' => e = .returned (.int .i64 ((a + ((s.toList.drop a).takeWhile fun c => digitB (c.toNat : Int)).length : Nat) : Int)) ∧ w' = w := by
  have hgb := get_bt s
  have hD : Hid (∀ (c : UInt8) w, Calls Try.prog 58 #[.int .u8 (c.toNat : Int)] w fun e w' => e = .returned (.bool (digitB (c.toNat : Int))) ∧ w' = w) := fun c w => rdigit_any _ w
  obtain ⟨R, hR⟩ : ∃ R, R = a + ((s.toList.drop a).takeWhile fun c => digitB (c.toNat : Int)).length := ⟨_, rfl⟩
  rw [← hR]
  have hR0 : Hid (R = a + ((s.toList.drop a).takeWhile fun c => digitB (c.toNat : Int)).length) := hR
  clear hR
  go_enter Try.func64, Try.ntmps64
  go_wp2
  go_loopw [1] (fun z1 wr => ∃ (k : Nat), z1 = .int .i64 (k : Int) ∧ k ≤ s.size ∧ wr = w ∧ Hid (R = k + ((s.toList.drop k).takeWhile fun c => digitB (c.toNat : Int)).length)) (fun z1 _ => s.size - (intOf z1).toNat)
  case atStart => exact ⟨a, rfl, ha, rfl, hR0⟩
  case round =>
    obtain ⟨k, rfl, hk, rfl, hI⟩ := hrel
    by_cases hlt : k < s.size
    · have hlti : (k : Int) < (s.size : Int) := by omega
      obtain ⟨c, hc, hb2⟩ := bt_drop s k hlt
      have hgc : ((s[k]'hlt).toNat : Int) = (c.toNat : Int) := (hgb k hlt).trans hb2
      have hdr : Hid _ := hc
      clear hgb hc hb2
      cases hd : digitB (c.toNat : Int)
      · have hv : Hid (R = k) := by
          show _ = _
          rw [hI.out, hdr.out, List.takeWhile_cons, if_neg (by simp [hd])]
          rfl
        clear hI
        go_wp2_with (go_at_call 58; refine (hD.out c _).mono ?_; rintro e w' ⟨rfl, rfl⟩; rw [hd])
        go_ret
        exact ⟨by rw [hv.out]; rfl, rfl⟩
      · have hv : Hid (R = (k + 1) + ((s.toList.drop (k + 1)).takeWhile fun c => digitB (c.toNat : Int)).length) := by
          show _ = _
          rw [hI.out, hdr.out, List.takeWhile_cons, if_pos hd]
          simp; omega
        clear hI
        go_wp2_with (go_at_call 58; refine (hD.out c _).mono ?_; rintro e w' ⟨rfl, rfl⟩; rw [hd])
        go_roundw
        case rel => exact ⟨k + 1, by go_num, by omega, trivial, hv⟩
        case measure => simp [intOf]; omega
    · have hlti : ¬ (k : Int) < (s.size : Int) := by omega
      have hv : Hid (R = k) := by
        show _ = _
        rw [hI.out, List.drop_of_length_le (by rw [toList_len]; omega)]
        rfl
      clear hI hgb
      go_wp2
      go_ret
      exact ⟨by rw [hv.out]; rfl, rfl⟩

end Go.Proofs.Ytmglbcldjhdhkaa
