/- The document's Reader: a real is read, a text is read. -/
import Derived.Test.YtcmembmaaebdeaaReadM3
namespace Go.Proofs.Ytcmembmaaebdeaa
open Go.RowKit Go.PlainAid Go.Lib

def keyP (l : List UInt8) : Nat → Nat
  | 0 => 0
  | i + 1 => 256 * keyP l i + (l.getD i 0).toNat
theorem keyP_lt (l : List UInt8) : ∀ i, keyP l i < 256 ^ i
  | 0 => by simp [keyP]
  | i + 1 => by
    have h1 := keyP_lt l i
    have h2 : (l.getD i 0).toNat < 256 := (l.getD i 0).toNat_lt
    rw [keyP, Nat.pow_succ]
    omega
theorem keyP_four (l : List UInt8) : keyP l 4 = be4 l := by
  simp only [keyP, be4]
  omega

set_option maxRecDepth 1000000 in
set_option maxHeartbeats 3200000 in
theorem rfReal_any (M d : Nat) (l : List UInt8) (e : Int) (w : World) (hr : RefR w M d l e) (hl : l.length ≤ 140737488355328) :
    Calls Try.prog 56 #[.pointer (some ⟨d, 0, none⟩)] w fun x w' => x = .returned (.float .f32 (rdOf 0 l e (realL l)).1) ∧ RefR w' M d (rdOf 0 l e (realL l)).2.1 (rdOf 0 l e (realL l)).2.2 ∧ Keep [d] w w' := by
  have herr := hr.err
  obtain ⟨v, h1, h2, h3⟩ := hr.b
  have HR : Hid (RefR w M d l e) := hr
  obtain ⟨ao, cap, rfl, hlc, hcm, _, hex⟩ := h2.ex
  simp only [maxLen] at hcm
  clear hr h2 h3
  by_cases he : e = 0
  · subst he
    rw [rdOf_pos]
    by_cases h4 : l.length < 4
    · have hz : realL l = (0, 0, 20) := by unfold realL; rw [if_pos h4]
      rw [hz, List.drop_zero]
      have t : (l.length : Int) < 4 := by omega
      clear hex
      go_enter Try.func56, Try.ntmps56
      go_wp2_with (first | (go_at_call 84; refine (refuse_any M d l 0 20 _ HR.out).mono ?_; rintro e9 w9 ⟨rfl, R9, K9⟩))
      go_ret
      exact ⟨rfl, R9, K9⟩
    · have t : ¬ ((l.length : Int) < 4) := by omega
      obtain ⟨b, o, rfl, hc⟩ := hex (by intro hz; rw [hz] at h4; simp at h4)
      have HC : Hid (∀ j, j < l.length → w.cell? ⟨b, o + j, none⟩ = some (.int .u8 ((l.getD j 0).toNat : Int))) := hc
      clear hex hc
      go_enter Try.func56, Try.ntmps56
      go_wp2
      go_loop [3, 4] (fun kv iv => ∃ i : Nat, iv = .int .i64 (i : Int) ∧ i ≤ 4 ∧ kv = .int .u32 ((keyP l i : Nat) : Int)) (fun _ iv => 4 - (intOf iv).toNat)
      case atStart => exact ⟨0, rfl, Nat.zero_le _, rfl⟩
      case round =>
        obtain ⟨i, rfl, hi, rfl⟩ := hrel
        by_cases hi4 : i < 4
        · have hii : (i : Int) < 4 := by omega
          have hci := HC.out i (by omega)
          have HP : Hid (keyP l (i + 1) = 256 * keyP l i + (l.getD i 0).toNat) := rfl
          have hx : (l.getD i 0).toNat < 256 := (l.getD i 0).toNat_lt
          have hk1 : keyP l i < 16777216 := Nat.lt_of_lt_of_le (keyP_lt l i) (Nat.le_trans (Nat.pow_le_pow_right (by decide) (show i ≤ 3 by omega)) (by decide))
          have hil : (i : Int) < (l.length : Int) := by omega
          generalize (l.getD i 0).toNat = c at hci HP hx
          generalize keyP l i = q at HP hk1 ⊢
          go_wp2
          go_round
          case rel => exact ⟨i + 1, by go_num, by omega, by rw [HP.out]; go_num⟩
          case measure => simp [intOf]; omega
        · have hii : ¬ ((i : Int) < 4) := by omega
          have hi' : i = 4 := by omega
          subst hi'
          rw [keyP_four]
          have hbl := be4_lt l
          have hkb := (key_bits (be4 l) hbl).2
          have hQ := refReal_any (be4 l) hbl w
          cases hb : keyB (be4 l) with
          | true =>
            have hz : realL l = (bitsK (be4 l), 4, 0) := by unfold realL; rw [if_neg h4, if_pos hb, hkb hb]
            have HZ : Hid (realL l = (bitsK (be4 l), 4, 0)) := hz
            rw [hb] at hQ
            have hT := take_any M d 4 l 0 w HR.out (by omega) hl
            clear hb hkb hz hbl HC
            go_wp2_with (first
              | (go_at_call 88; refine hQ.mono ?_; rintro e8 w8 ⟨rfl, hw8⟩; obtain rfl := hw8.symm)
              | (go_at_call 85; refine hT.mono ?_; rintro e9 w9 ⟨v9, rfl, _, _, S9, K9⟩))
            go_ret
            exact ⟨by rw [HZ.out]; rfl, by rw [HZ.out]; exact S9, K9⟩
          | false =>
            have hz : realL l = (0, 0, 21) := by unfold realL; rw [if_neg h4, if_neg (by simp [hb])]
            have HZ : Hid (realL l = (0, 0, 21)) := hz
            rw [hb] at hQ
            clear hb hkb hz hbl HC
            go_wp2_with (first
              | (go_at_call 88; refine hQ.mono ?_; rintro e8 w8 ⟨rfl, hw8⟩; obtain rfl := hw8.symm)
              | (go_at_call 84; refine (refuse_any M d l 0 21 _ HR.out).mono ?_; rintro e9 w9 ⟨rfl, R9, K9⟩))
            go_ret
            exact ⟨by rw [HZ.out]; rfl, by rw [HZ.out]; exact R9, K9⟩
  · rw [rdOf_neg _ _ _ _ he]
    have hne : (e != 0) = true := by simpa using he
    clear hex
    go_enter Try.func56, Try.ntmps56
    go_wp2
    go_ret
    exact ⟨rfl, HR.out.refl⟩

set_option maxRecDepth 1000000 in
set_option maxHeartbeats 6400000 in
theorem rfText_any (M d : Nat) (l : List UInt8) (e : Int) (most : Int) (hm0 : -9223372036854775808 ≤ most) (hm : most ≤ 9223372036854775807) (w : World) (hr : RefR w M d l e) (hl : l.length ≤ 140737488355328) :
    Calls Try.prog 57 #[.pointer (some ⟨d, 0, none⟩), .int .i64 most] w fun x w' => x = .returned (.string ⟨(rdOf [] l e (textL l most)).1.toArray⟩) ∧ RefR w' M d (rdOf [] l e (textL l most)).2.1 (rdOf [] l e (textL l most)).2.2 ∧ Keep [d] w w' := by
  have herr := hr.err
  obtain ⟨v, h1, h2, h3⟩ := hr.b
  have HR : Hid (RefR w M d l e) := hr
  have hN := refNumber_any v l w h2
  obtain ⟨ao, cap, rfl, hlc, hcm, _, _⟩ := h2.ex
  simp only [maxLen] at hcm
  clear hr h2 h3
  by_cases he : e = 0
  · subst he
    rw [rdOf_pos]
    unfold textL
    have hz := numL_zero l
    have hsz := numL_size l
    have hlt := numL_lt l
    generalize numL l = R at hN hz hsz hlt ⊢
    obtain ⟨n, sz, er⟩ := R
    simp only at hN hz hsz hlt ⊢
    by_cases hneg : most < 0
    · rw [if_pos hneg, List.drop_zero]
      clear hN hz
      go_enter Try.func57, Try.ntmps57
      go_wp2_with (first | (go_at_call 84; refine (refuse_any M d l 0 2 _ HR.out).mono ?_; rintro e9 w9 ⟨rfl, R9, K9⟩))
      go_ret
      exact ⟨rfl, R9, K9⟩
    · rw [if_neg hneg]
      obtain ⟨m, rfl⟩ : ∃ m : Nat, most = (m : Int) := ⟨most.toNat, by omega⟩
      by_cases her : er = 0
      · subst her
        rw [if_neg (by simp)]
        clear hz
        by_cases hmn : (m : Int) < (n : Nat)
        · rw [if_pos hmn, List.drop_zero]
          go_enter Try.func57, Try.ntmps57
          go_wp2_with (first
            | (go_at_call 86; refine hN.mono ?_; rintro e8 w8 ⟨rfl, hw8⟩; obtain rfl := hw8.symm)
            | (go_at_call 84; refine (refuse_any M d l 0 3 _ HR.out).mono ?_; rintro e9 w9 ⟨rfl, R9, K9⟩))
          go_ret
          exact ⟨rfl, R9, K9⟩
        · rw [if_neg hmn]
          by_cases hsh : l.length - sz < n
          · rw [if_pos hsh, List.drop_zero]
            have t : (l.length : Int) - (sz : Int) < (n : Int) := by omega
            go_enter Try.func57, Try.ntmps57
            go_wp2_with (first
              | (go_at_call 86; refine hN.mono ?_; rintro e8 w8 ⟨rfl, hw8⟩; obtain rfl := hw8.symm)
              | (go_at_call 84; refine (refuse_any M d l 0 20 _ HR.out).mono ?_; rintro e9 w9 ⟨rfl, R9, K9⟩))
            go_ret
            exact ⟨rfl, R9, K9⟩
          · rw [if_neg hsh]
            have t : ¬ ((l.length : Int) - (sz : Int) < (n : Int)) := by omega
            have hT := take_any M d sz l 0 w HR.out hsz hl
            have HD : Hid (∀ w9, RefR w9 M d (l.drop sz) 0 → Calls Try.prog 85 #[.pointer (some ⟨d, 0, none⟩), .int .i64 (n : Int)] w9 fun x w' => ∃ v, x = .returned v ∧ Row w' v ((l.drop sz).take n) ∧ Fresh w9 w' v ∧ RefR w' M d ((l.drop sz).drop n) 0 ∧ Keep [d] w9 w') := fun w9 h9 => take_any M d n (l.drop sz) 0 w9 h9 (by simp; omega) (by simp; omega)
            have HE : Hid (l.drop (sz + n) = (l.drop sz).drop n) := by
              show l.drop (sz + n) = (l.drop sz).drop n
              rw [List.drop_drop]
            rw [HE.out]
            generalize (l.drop sz).take n = r at HD ⊢
            go_enter Try.func57, Try.ntmps57
            go_wp2_with (first
              | (go_at_call 86; refine hN.mono ?_; rintro e8 w8 ⟨rfl, hw8⟩; obtain rfl := hw8.symm)
              | (go_at_call_of 85 (sz : Int); refine hT.mono ?_; rintro e9 w9 ⟨v9, rfl, _, _, S9, K9⟩)
              | (go_at_call_of 85 (n : Int); refine (HD.out _ S9).mono ?_; rintro e10 w10 ⟨v10, rfl, R10, _, S10, K10⟩; have hS := run_str R10.bs))
            go_ret
            exact ⟨rfl, S10, K9.trans' K10⟩
      · obtain ⟨rfl, rfl⟩ := hz her
        rw [if_pos her, List.drop_zero]
        have hne : (er == 0) = false := by simpa using her
        have hne2 : (er != 0) = true := by simpa using her
        clear hz
        go_enter Try.func57, Try.ntmps57
        go_wp2_with (first
          | (go_at_call 86; refine hN.mono ?_; rintro e8 w8 ⟨rfl, hw8⟩; obtain rfl := hw8.symm)
          | (go_at_call 84; refine (refuse_any M d l 0 er _ HR.out).mono ?_; rintro e9 w9 ⟨rfl, R9, K9⟩))
        go_ret
        exact ⟨rfl, R9, K9⟩
  · rw [rdOf_neg _ _ _ _ he]
    have hne : (e != 0) = true := by simpa using he
    clear hN
    go_enter Try.func57, Try.ntmps57
    go_wp2
    go_ret
    exact ⟨rfl, HR.out.refl⟩

end Go.Proofs.Ytcmembmaaebdeaa
