/- The library's leftShift of a decimal: the walk. -/
import Derived.Test.YtnljpbpphdhnpaaGreatDoorDecL
namespace Go.Proofs.YtnljpbpphdhnpaaGreatDoor
open Go.RowKit Go.PlainAid

set_option maxRecDepth 1000000 in
set_option maxHeartbeats 1000000 in
theorem left_walk (w : World) (b k δ j : Nat) (s : ByteArray) (D : Nat → Int) (nd : Nat) (dp : Int) (tr : Bool) (h : DecC w b D nd dp tr) (hd : DgD D nd) (n0 : 0 < nd) (n8 : nd ≤ 800) (hp1 : -2000 ≤ dp) (hp2 : dp ≤ 2000) (hk1 : 1 ≤ k) (hk2 : k ≤ 60)
    (hT : LRow w k δ s) (hs : s.size ≤ 100) (hsd : ∀ j, j < s.size → 48 ≤ bt s j ∧ bt s j ≤ 57) (hsl : 0 < s.size) (hsz : bt s (s.size - 1) ≠ 48) (hδ1 : 1 ≤ δ) (hδ2 : δ ≤ 20)
    (hj : j = if pD (eD D nd) s.size < pD (cD s) s.size then δ - 1 else δ) (hend : tL (eD D nd) nd k (nd + j) = 0) (hmid : ∀ i, nd ≤ i → i < nd + j → tL (eD D nd) nd k i ≠ 0) (htop : 1 ≤ oL (eD D nd) nd k (nd + j) 0) :
    Calls Tryz.prog 181 #[.pointer (some ⟨b, 0, none⟩), .int .u64 (k : Nat)] w fun e w' => e = .returned (.tuple #[]) ∧ Keep [b] w w' ∧ LDone w' b k (eD D nd) nd dp tr j := by
  have H : Hid (DecC w b D nd dp tr) := h
  have HD : Hid (DgD D nd) := hd
  have HEND : Hid (tL (eD D nd) nd k (nd + j) = 0) := hend
  have HMID : Hid (∀ i, nd ≤ i → i < nd + j → tL (eD D nd) nd k i ≠ 0) := hmid
  have HTOP : Hid (1 ≤ oL (eD D nd) nd k (nd + j) 0) := htop
  have HTL : Hid (∀ i, tL (eD D nd) nd k i ≤ 2 ^ k) := tL_le _ nd k fun x => eD_lt hd x
  have HPR := fun n => preLess_any (w.drewN n) b D nd dp tr s (h.drewN n) hd n0 n8 hs hsd hsl hsz
  obtain ⟨lt, hlt⟩ : ∃ lt, decide (pD (eD D nd) s.size < pD (cD s) s.size) = lt := ⟨_, rfl⟩
  have hj2 : j = if lt = true then δ - 1 else δ := by
    rw [hj, ← hlt]
    simp
  have HJ : Hid (j = if lt = true then δ - 1 else δ) := hj2
  rw [hlt] at HPR
  obtain ⟨bb, oo, ocap, hT1, hT2, hT3⟩ := hT.ex
  have c800 := h.nd
  have c801 := h.dp
  obtain ⟨z, hz⟩ : ∃ z : Nat, 2 ^ k = z := ⟨_, rfl⟩
  have hzi : (2 : Int) ^ k = (z : Int) := by rw [← hz]; simp
  have hz1 : 2 ≤ z := by
    rw [← hz]
    exact Nat.pow_le_pow_right (n := 2) (by decide) hk1
  have hz2 : z ≤ 1152921504606846976 := by
    rw [← hz]
    exact Nat.le_trans (Nat.pow_le_pow_right (n := 2) (by decide) hk2) (by decide)
  have HZ : Hid (2 ^ k = z) := hz
  clear h hd hend hmid htop hlt hj hj2 hT hz hsd hsz
  go_enter Tryz.func181, Tryz.ntmps181
  go_wp2
  have hn8 : (nd : Int) ≤ 800 := by omega
  have hsl8 : Tryz.prog.arrayLen 166 = 800 := by kernel_rfl
  have hQ : ∀ n, Calls Tryz.prog 194 #[.slice (some ⟨b, 0, none⟩) nd 800, .string s] (w.drewN n) fun e w' => e = .returned (.bool lt) ∧ ∃ m, w' = (w.drewN n).drewN m := HPR
  go_quiet (first | (go_at_call 194; exact Calls.quiet_of (hQ _)))
  clear hQ HPR hT1 hT2 hT3
  cases lt with
  | false =>
    obtain rfl : j = δ := by have := HJ.out; simpa using this
    go_wp2
    go_loopw [5, 6, 7] (fun r wv n wr => ∃ i p1 q1 : Nat, p1 + i = nd ∧ q1 + i = nd + j ∧ r = .int .i64 ((p1 : Int) - 1) ∧ wv = .int .i64 (q1 : Nat) ∧ n = .int .u64 (tL (eD D nd) nd k i : Nat) ∧ LLoop w wr b k D (eD D nd) nd dp tr j i) (fun r _ _ _ => (intOf r + 1).toNat)
    case atStart => exact ⟨0, nd, nd + j, rfl, rfl, rfl, by go_num, rfl, D, tr, H.out.drewN _, Nat.zero_le _, fun x _ => rfl, fun x x1 x2 x3 => by omega, fun _ => rfl, fun x x1 x2 x3 => by omega, (Keep.refl [b] w).drewN _⟩
    case round =>
      obtain ⟨i, p1, q1, hp1n, hq1n, rfl, rfl, rfl, hl⟩ := hrel
      by_cases hi : i < nd
      · obtain ⟨p, rfl⟩ : ∃ p, p1 = p + 1 := ⟨p1 - 1, by omega⟩
        obtain ⟨q, rfl⟩ : ∃ q, q1 = q + 1 := ⟨q1 - 1, by omega⟩
        obtain ⟨D1, t2, hc, h1, h2, h3, h4, h5, h6⟩ := hl.ex
        have HP := LLoop.put hl (by omega) wr rfl
        rw [show nd + j - 1 - i = q by omega] at HP
        have c2 := hc.dg p (by omega)
        rw [h2 p (by omega), eD_val HD.out p (by omega)] at c2
        have f803 := hc.fz 803 (by omega)
        have c803 := hc.tr
        have HDC : Hid (DecC wr b D1 nd dp t2) := hc
        have he9 : eD D nd p < 10 := eD_lt HD.out p
        have hS1 : sL (eD D nd) nd k i = tL (eD D nd) nd k i + eD D nd p * z := by
          unfold sL eR
          rw [if_pos hi, HZ.out, show nd - 1 - i = p by omega]
        have hT1 : Hid (tL (eD D nd) nd k (i + 1) = sL (eD D nd) nd k i / 10) := tL_succ _ _ _ _
        have hR1 : rL (eD D nd) nd k i = sL (eD D nd) nd k i % 10 := rfl
        have htz := HTL.out i
        rw [HZ.out] at htz
        have hp800 : p < 800 := by omega
        have HN : Hid (p + 1 + i = nd ∧ q + 1 + i = nd + j) := ⟨hp1n, hq1n⟩
        have hqb : q < 821 := by omega
        generalize sL (eD D nd) nd k i = S at *
        generalize tL (eD D nd) nd k i = T at *
        generalize rL (eD D nd) nd k i = R at *
        generalize eD D nd p = e at *
        obtain ⟨y, hy⟩ : ∃ y, e * z = y := ⟨_, rfl⟩
        have hyi : (e : Int) * (z : Int) = (y : Int) := by rw [← hy]; rfl
        have hy9 : y ≤ 9 * z := by rw [← hy]; exact Nat.mul_le_mul_right _ (by omega)
        rw [hy] at hS1
        have hSi : (T : Int) + (y : Int) = (S : Int) := by omega
        have hSb : S ≤ 11529215046068469760 := by omega
        obtain ⟨Q, hQ9⟩ : ∃ Q, S / 10 = Q := ⟨_, rfl⟩
        have hQi : (S : Int) / 10 = (Q : Int) := by rw [← hQ9]; rfl
        have hRi : (S : Int) - 10 * (Q : Int) = (R : Int) := by omega
        have hR9 : R < 10 := by omega
        have hQb : 10 * (Q : Int) ≤ 11529215046068469760 := by omega
        rw [hQ9] at hT1
        have HPP : Hid _ := HP
        clear hy hS1 hR1 hc h1 h2 h3 h4 h5 h6 hl HP hp1n hq1n hQ9
        by_cases h8 : q < 800
        · have c3 := HDC.out.dg q h8
          have f3 := HDC.out.fz q (by omega)
          go_wp2
          go_roundw
          case rel => exact ⟨i + 1, p, q, by have := HN.out.1; omega, by have := HN.out.2; omega, by go_num, by go_num, by rw [hT1.out], HPP.out.1 h8⟩
          case measure => simp [intOf]
        · by_cases hr0 : R = 0
          · have hrb : ((R : Int) == 0) = true := by simpa using hr0
            go_wp2
            go_roundw
            case rel => exact ⟨i + 1, p, q, by have := HN.out.1; omega, by have := HN.out.2; omega, by go_num, by go_num, by rw [hT1.out], HPP.out.2.1 (by omega) hr0⟩
            case measure => simp [intOf]
          · have hrb : ((R : Int) == 0) = false := by simpa using hr0
            go_wp2
            go_roundw
            case rel => exact ⟨i + 1, p, q, by have := HN.out.1; omega, by have := HN.out.2; omega, by go_num, by go_num, by rw [hT1.out], HPP.out.2.2 (by omega) hr0⟩
            case measure => simp [intOf]
      · obtain rfl : i = nd := by omega
        obtain rfl : p1 = 0 := by omega
        obtain rfl : q1 = j := by omega
        have HL : Hid (LLoop w wr b k D (eD D i) i dp tr q1 i) := hl
        clear hl hp1n hq1n
        go_wp2
        go_loopw [6, 7] (fun wv n wr => ∃ x q2 : Nat, q2 + x = i + q1 ∧ i ≤ x ∧ wv = .int .i64 (q2 : Nat) ∧ n = .int .u64 (tL (eD D i) i k x : Nat) ∧ LLoop w wr b k D (eD D i) i dp tr q1 x) (fun wv _ _ => (intOf wv).toNat)
        case atStart => exact ⟨i, q1, by omega, Nat.le_refl _, rfl, rfl, HL.out⟩
        case round =>
          obtain ⟨x, q2, hq2n, hxi, rfl, rfl, hl⟩ := hrel
          obtain ⟨D1, t2, hc, h1, h2, h3, h4, h5, h6⟩ := hl.ex
          by_cases hx : x < i + q1
          · obtain ⟨q, rfl⟩ : ∃ q, q2 = q + 1 := ⟨q2 - 1, by omega⟩
            have HP := LLoop.put hl (by omega) wr rfl
            rw [show i + q1 - 1 - x = q by omega] at HP
            have hn0 := HMID.out x hxi hx
            have f803 := hc.fz 803 (by omega)
            have c803 := hc.tr
            have HDC : Hid (DecC wr b D1 i dp t2) := hc
            have hS1 : sL (eD D i) i k x = tL (eD D i) i k x := by
              unfold sL eR
              rw [if_neg (by omega), Nat.zero_mul, Nat.add_zero]
            have hT1 : Hid (tL (eD D i) i k (x + 1) = sL (eD D i) i k x / 10) := tL_succ _ _ _ _
            have hR1 : rL (eD D i) i k x = sL (eD D i) i k x % 10 := rfl
            have htz := HTL.out x
            rw [HZ.out] at htz
            have HN : Hid (q + 1 + x = i + q1 ∧ i ≤ x) := ⟨hq2n, hxi⟩
            have hqb : q < 821 := by omega
            rw [hS1] at hT1 hR1
            generalize tL (eD D i) i k x = S at *
            generalize rL (eD D i) i k x = R at *
            obtain ⟨Q, hQ9⟩ : ∃ Q, S / 10 = Q := ⟨_, rfl⟩
            have hQi : (S : Int) / 10 = (Q : Int) := by rw [← hQ9]; rfl
            have hRi : (S : Int) - 10 * (Q : Int) = (R : Int) := by omega
            have hR9 : R < 10 := by omega
            have hQb : 10 * (Q : Int) ≤ 11529215046068469760 := by omega
            have hnb : (0 : Int) < (S : Int) := by omega
            rw [hQ9] at hT1
            have HPP : Hid _ := HP
            clear hS1 hR1 hc h1 h2 h3 h4 h5 h6 hl HP hq2n hQ9 hxi hx
            by_cases h8 : q < 800
            · have c3 := HDC.out.dg q h8
              have f3 := HDC.out.fz q (by omega)
              go_wp2
              go_roundw
              case rel => exact ⟨x + 1, q, by have := HN.out.1; omega, by have := HN.out.2; omega, by go_num, by rw [hT1.out], HPP.out.1 h8⟩
              case measure => simp [intOf]
            · by_cases hr0 : R = 0
              · have hrb : ((R : Int) == 0) = true := by simpa using hr0
                go_wp2
                go_roundw
                case rel => exact ⟨x + 1, q, by have := HN.out.1; omega, by have := HN.out.2; omega, by go_num, by rw [hT1.out], HPP.out.2.1 (by omega) hr0⟩
                case measure => simp [intOf]
              · have hrb : ((R : Int) == 0) = false := by simpa using hr0
                go_wp2
                go_roundw
                case rel => exact ⟨x + 1, q, by have := HN.out.1; omega, by have := HN.out.2; omega, by go_num, by rw [hT1.out], HPP.out.2.2 (by omega) hr0⟩
                case measure => simp [intOf]
          · obtain rfl : x = i + q1 := by omega
            obtain rfl : q2 = 0 := by omega
            rw [HEND.out]
            have c8 := hc.nd
            have f8 := hc.fz 800 (by omega)
            have c81 := hc.dp
            have f81 := hc.fz 801 (by omega)
            have HLX : Hid ((∀ x, x < 800 → i + q1 - (i + q1) ≤ x → x < i + q1 → D1 x = (oL (eD D i) i k (i + q1) x : Int) + 48) ∧ ((∀ x, 800 ≤ x → i + q1 - (i + q1) ≤ x → x < i + q1 → oL (eD D i) i k (i + q1) x = 0) → t2 = tr) ∧ (∀ x, 800 ≤ x → i + q1 - (i + q1) ≤ x → x < i + q1 → oL (eD D i) i k (i + q1) x ≠ 0 → t2 = true)) := ⟨h3, h4, h5⟩
            have HK : Hid (Keep [b] w wr) := h6
            have HDC : Hid (DecC wr b D1 i dp t2) := hc
            have HTRIM : ∀ (w2 : World) (M : Nat), M = min (i + q1) 800 → DecC w2 b D1 M (dp + q1) t2 → Calls Tryz.prog 180 #[.pointer (some ⟨b, 0, none⟩)] w2 fun e w' => e = .returned (.tuple #[]) ∧ Keep [b] w2 w' ∧ ∃ m : Nat, DecC w' b D1 m (dp + q1) t2 ∧ 0 < m ∧ m ≤ M ∧ (∀ j, m ≤ j → j < M → D1 j = 48) ∧ D1 (m - 1) ≠ 48 := by
              intro w2 M hM hdc
              refine trim_any w2 b D1 M (dp + q1) t2 hdc (fun x hx => ?_) (by omega) (by omega) ?_
              · rw [HLX.out.1 x (by omega) (by omega) (by omega)]
                have := oL_lt (eD D i) i k (i + q1) x
                omega
              · rw [HLX.out.1 0 (by omega) (by omega) (by omega)]
                have := HTOP.out
                omega
            have HEND2 : Hid (∀ (w2 w3 : World) (M : Nat), M = min (i + q1) 800 → Keep [b] w w2 → Keep [b] w2 w3 → (∃ m : Nat, DecC w3 b D1 m (dp + q1) t2 ∧ 0 < m ∧ m ≤ M ∧ (∀ j, m ≤ j → j < M → D1 j = 48) ∧ D1 (m - 1) ≠ 48) → Keep [b] w w3 ∧ LDone w3 b k (eD D i) i dp tr q1) := by
              intro w2 w3 M hM k1 k2 hm
              obtain ⟨m, g1, g2, g3, g4, g5⟩ := hm
              subst hM
              exact ⟨k1.trans' k2, ⟨m, D1, t2, g1, fun x hx => HLX.out.1 x (by omega) (by omega) (by omega), g2, g3, g4, g5, fun h => HLX.out.2.1 fun x x1 _ x3 => h x x1 x3, fun x x1 x2 x3 => HLX.out.2.2 x x1 (by omega) x2 x3⟩⟩
            clear hc h1 h2 h3 h4 h5 h6 hl hq2n hxi hx
            by_cases h8 : 800 ≤ i + q1
            · have h8i : (800 : Int) ≤ (i : Int) + (q1 : Int) := by omega
              have HDF : DecC (((wr.setCell ⟨b, 800, none⟩ (.int .i64 ((i : Int) + (q1 : Int)))).setCell ⟨b, 800, none⟩ (.int .i64 800)).setCell ⟨b, 801, none⟩ (.int .i64 (dp + q1))) b D1 ((800 : Nat) : Int) (dp + q1) t2 := ((HDC.out.put_nd _).put_nd 800).put_dp _
              have HKF : Hid (Keep [b] w (((wr.setCell ⟨b, 800, none⟩ (.int .i64 ((i : Int) + (q1 : Int)))).setCell ⟨b, 800, none⟩ (.int .i64 800)).setCell ⟨b, 801, none⟩ (.int .i64 (dp + q1)))) := ((HK.out.setCell (.inl (by simp)) _).setCell (.inl (by simp)) _).setCell (.inl (by simp)) _
              have HTR := HTRIM _ 800 (by omega) HDF
              have HM8 : Hid (800 = min (i + q1) 800) := by show _ = _; omega
              clear HTRIM HDF
              go_wp2_with (first | (go_at_call 180; refine HTR.mono ?_; rintro e9 w9 ⟨rfl, hk9, hm9⟩; have HF : Hid _ := And.intro hk9 hm9; clear hk9 hm9))
              go_end0
              exact ⟨rfl, HEND2.out _ _ 800 HM8.out HKF.out HF.out.1 HF.out.2⟩
            · have h8i : ¬ (800 : Int) ≤ (i : Int) + (q1 : Int) := by omega
              have HDF : DecC ((wr.setCell ⟨b, 800, none⟩ (.int .i64 ((i : Int) + (q1 : Int)))).setCell ⟨b, 801, none⟩ (.int .i64 (dp + q1))) b D1 ((i + q1 : Nat) : Int) (dp + q1) t2 := by
                rw [show ((i + q1 : Nat) : Int) = (i : Int) + (q1 : Int) by omega]
                exact (HDC.out.put_nd _).put_dp _
              have HKF : Hid (Keep [b] w ((wr.setCell ⟨b, 800, none⟩ (.int .i64 ((i : Int) + (q1 : Int)))).setCell ⟨b, 801, none⟩ (.int .i64 (dp + q1)))) := (HK.out.setCell (.inl (by simp)) _).setCell (.inl (by simp)) _
              have HTR := HTRIM _ (i + q1) (by omega) HDF
              have HM8 : Hid (i + q1 = min (i + q1) 800) := by show _ = _; omega
              clear HTRIM HDF
              go_wp2_with (first | (go_at_call 180; refine HTR.mono ?_; rintro e9 w9 ⟨rfl, hk9, hm9⟩; have HF : Hid _ := And.intro hk9 hm9; clear hk9 hm9))
              go_end0
              exact ⟨rfl, HEND2.out _ _ (i + q1) HM8.out HKF.out HF.out.1 HF.out.2⟩
  | true =>
    have hjd : (δ : Int) - 1 = (j : Int) := by have := HJ.out; simp at this; omega
    go_wp2
    go_loopw [5, 6, 7] (fun r wv n wr => ∃ i p1 q1 : Nat, p1 + i = nd ∧ q1 + i = nd + j ∧ r = .int .i64 ((p1 : Int) - 1) ∧ wv = .int .i64 (q1 : Nat) ∧ n = .int .u64 (tL (eD D nd) nd k i : Nat) ∧ LLoop w wr b k D (eD D nd) nd dp tr j i) (fun r _ _ _ => (intOf r + 1).toNat)
    case atStart => exact ⟨0, nd, nd + j, rfl, rfl, rfl, by go_num, rfl, D, tr, H.out.drewN _, Nat.zero_le _, fun x _ => rfl, fun x x1 x2 x3 => by omega, fun _ => rfl, fun x x1 x2 x3 => by omega, (Keep.refl [b] w).drewN _⟩
    case round =>
      obtain ⟨i, p1, q1, hp1n, hq1n, rfl, rfl, rfl, hl⟩ := hrel
      by_cases hi : i < nd
      · obtain ⟨p, rfl⟩ : ∃ p, p1 = p + 1 := ⟨p1 - 1, by omega⟩
        obtain ⟨q, rfl⟩ : ∃ q, q1 = q + 1 := ⟨q1 - 1, by omega⟩
        obtain ⟨D1, t2, hc, h1, h2, h3, h4, h5, h6⟩ := hl.ex
        have HP := LLoop.put hl (by omega) wr rfl
        rw [show nd + j - 1 - i = q by omega] at HP
        have c2 := hc.dg p (by omega)
        rw [h2 p (by omega), eD_val HD.out p (by omega)] at c2
        have f803 := hc.fz 803 (by omega)
        have c803 := hc.tr
        have HDC : Hid (DecC wr b D1 nd dp t2) := hc
        have he9 : eD D nd p < 10 := eD_lt HD.out p
        have hS1 : sL (eD D nd) nd k i = tL (eD D nd) nd k i + eD D nd p * z := by
          unfold sL eR
          rw [if_pos hi, HZ.out, show nd - 1 - i = p by omega]
        have hT1 : Hid (tL (eD D nd) nd k (i + 1) = sL (eD D nd) nd k i / 10) := tL_succ _ _ _ _
        have hR1 : rL (eD D nd) nd k i = sL (eD D nd) nd k i % 10 := rfl
        have htz := HTL.out i
        rw [HZ.out] at htz
        have hp800 : p < 800 := by omega
        have HN : Hid (p + 1 + i = nd ∧ q + 1 + i = nd + j) := ⟨hp1n, hq1n⟩
        have hqb : q < 821 := by omega
        generalize sL (eD D nd) nd k i = S at *
        generalize tL (eD D nd) nd k i = T at *
        generalize rL (eD D nd) nd k i = R at *
        generalize eD D nd p = e at *
        obtain ⟨y, hy⟩ : ∃ y, e * z = y := ⟨_, rfl⟩
        have hyi : (e : Int) * (z : Int) = (y : Int) := by rw [← hy]; rfl
        have hy9 : y ≤ 9 * z := by rw [← hy]; exact Nat.mul_le_mul_right _ (by omega)
        rw [hy] at hS1
        have hSi : (T : Int) + (y : Int) = (S : Int) := by omega
        have hSb : S ≤ 11529215046068469760 := by omega
        obtain ⟨Q, hQ9⟩ : ∃ Q, S / 10 = Q := ⟨_, rfl⟩
        have hQi : (S : Int) / 10 = (Q : Int) := by rw [← hQ9]; rfl
        have hRi : (S : Int) - 10 * (Q : Int) = (R : Int) := by omega
        have hR9 : R < 10 := by omega
        have hQb : 10 * (Q : Int) ≤ 11529215046068469760 := by omega
        rw [hQ9] at hT1
        have HPP : Hid _ := HP
        clear hy hS1 hR1 hc h1 h2 h3 h4 h5 h6 hl HP hp1n hq1n hQ9
        by_cases h8 : q < 800
        · have c3 := HDC.out.dg q h8
          have f3 := HDC.out.fz q (by omega)
          go_wp2
          go_roundw
          case rel => exact ⟨i + 1, p, q, by have := HN.out.1; omega, by have := HN.out.2; omega, by go_num, by go_num, by rw [hT1.out], HPP.out.1 h8⟩
          case measure => simp [intOf]
        · by_cases hr0 : R = 0
          · have hrb : ((R : Int) == 0) = true := by simpa using hr0
            go_wp2
            go_roundw
            case rel => exact ⟨i + 1, p, q, by have := HN.out.1; omega, by have := HN.out.2; omega, by go_num, by go_num, by rw [hT1.out], HPP.out.2.1 (by omega) hr0⟩
            case measure => simp [intOf]
          · have hrb : ((R : Int) == 0) = false := by simpa using hr0
            go_wp2
            go_roundw
            case rel => exact ⟨i + 1, p, q, by have := HN.out.1; omega, by have := HN.out.2; omega, by go_num, by go_num, by rw [hT1.out], HPP.out.2.2 (by omega) hr0⟩
            case measure => simp [intOf]
      · obtain rfl : i = nd := by omega
        obtain rfl : p1 = 0 := by omega
        obtain rfl : q1 = j := by omega
        have HL : Hid (LLoop w wr b k D (eD D i) i dp tr q1 i) := hl
        clear hl hp1n hq1n
        go_wp2
        go_loopw [6, 7] (fun wv n wr => ∃ x q2 : Nat, q2 + x = i + q1 ∧ i ≤ x ∧ wv = .int .i64 (q2 : Nat) ∧ n = .int .u64 (tL (eD D i) i k x : Nat) ∧ LLoop w wr b k D (eD D i) i dp tr q1 x) (fun wv _ _ => (intOf wv).toNat)
        case atStart => exact ⟨i, q1, by omega, Nat.le_refl _, rfl, rfl, HL.out⟩
        case round =>
          obtain ⟨x, q2, hq2n, hxi, rfl, rfl, hl⟩ := hrel
          obtain ⟨D1, t2, hc, h1, h2, h3, h4, h5, h6⟩ := hl.ex
          by_cases hx : x < i + q1
          · obtain ⟨q, rfl⟩ : ∃ q, q2 = q + 1 := ⟨q2 - 1, by omega⟩
            have HP := LLoop.put hl (by omega) wr rfl
            rw [show i + q1 - 1 - x = q by omega] at HP
            have hn0 := HMID.out x hxi hx
            have f803 := hc.fz 803 (by omega)
            have c803 := hc.tr
            have HDC : Hid (DecC wr b D1 i dp t2) := hc
            have hS1 : sL (eD D i) i k x = tL (eD D i) i k x := by
              unfold sL eR
              rw [if_neg (by omega), Nat.zero_mul, Nat.add_zero]
            have hT1 : Hid (tL (eD D i) i k (x + 1) = sL (eD D i) i k x / 10) := tL_succ _ _ _ _
            have hR1 : rL (eD D i) i k x = sL (eD D i) i k x % 10 := rfl
            have htz := HTL.out x
            rw [HZ.out] at htz
            have HN : Hid (q + 1 + x = i + q1 ∧ i ≤ x) := ⟨hq2n, hxi⟩
            have hqb : q < 821 := by omega
            rw [hS1] at hT1 hR1
            generalize tL (eD D i) i k x = S at *
            generalize rL (eD D i) i k x = R at *
            obtain ⟨Q, hQ9⟩ : ∃ Q, S / 10 = Q := ⟨_, rfl⟩
            have hQi : (S : Int) / 10 = (Q : Int) := by rw [← hQ9]; rfl
            have hRi : (S : Int) - 10 * (Q : Int) = (R : Int) := by omega
            have hR9 : R < 10 := by omega
            have hQb : 10 * (Q : Int) ≤ 11529215046068469760 := by omega
            have hnb : (0 : Int) < (S : Int) := by omega
            rw [hQ9] at hT1
            have HPP : Hid _ := HP
            clear hS1 hR1 hc h1 h2 h3 h4 h5 h6 hl HP hq2n hQ9 hxi hx
            by_cases h8 : q < 800
            · have c3 := HDC.out.dg q h8
              have f3 := HDC.out.fz q (by omega)
              go_wp2
              go_roundw
              case rel => exact ⟨x + 1, q, by have := HN.out.1; omega, by have := HN.out.2; omega, by go_num, by rw [hT1.out], HPP.out.1 h8⟩
              case measure => simp [intOf]
            · by_cases hr0 : R = 0
              · have hrb : ((R : Int) == 0) = true := by simpa using hr0
                go_wp2
                go_roundw
                case rel => exact ⟨x + 1, q, by have := HN.out.1; omega, by have := HN.out.2; omega, by go_num, by rw [hT1.out], HPP.out.2.1 (by omega) hr0⟩
                case measure => simp [intOf]
              · have hrb : ((R : Int) == 0) = false := by simpa using hr0
                go_wp2
                go_roundw
                case rel => exact ⟨x + 1, q, by have := HN.out.1; omega, by have := HN.out.2; omega, by go_num, by rw [hT1.out], HPP.out.2.2 (by omega) hr0⟩
                case measure => simp [intOf]
          · obtain rfl : x = i + q1 := by omega
            obtain rfl : q2 = 0 := by omega
            rw [HEND.out]
            have c8 := hc.nd
            have f8 := hc.fz 800 (by omega)
            have c81 := hc.dp
            have f81 := hc.fz 801 (by omega)
            have HLX : Hid ((∀ x, x < 800 → i + q1 - (i + q1) ≤ x → x < i + q1 → D1 x = (oL (eD D i) i k (i + q1) x : Int) + 48) ∧ ((∀ x, 800 ≤ x → i + q1 - (i + q1) ≤ x → x < i + q1 → oL (eD D i) i k (i + q1) x = 0) → t2 = tr) ∧ (∀ x, 800 ≤ x → i + q1 - (i + q1) ≤ x → x < i + q1 → oL (eD D i) i k (i + q1) x ≠ 0 → t2 = true)) := ⟨h3, h4, h5⟩
            have HK : Hid (Keep [b] w wr) := h6
            have HDC : Hid (DecC wr b D1 i dp t2) := hc
            have HTRIM : ∀ (w2 : World) (M : Nat), M = min (i + q1) 800 → DecC w2 b D1 M (dp + q1) t2 → Calls Tryz.prog 180 #[.pointer (some ⟨b, 0, none⟩)] w2 fun e w' => e = .returned (.tuple #[]) ∧ Keep [b] w2 w' ∧ ∃ m : Nat, DecC w' b D1 m (dp + q1) t2 ∧ 0 < m ∧ m ≤ M ∧ (∀ j, m ≤ j → j < M → D1 j = 48) ∧ D1 (m - 1) ≠ 48 := by
              intro w2 M hM hdc
              refine trim_any w2 b D1 M (dp + q1) t2 hdc (fun x hx => ?_) (by omega) (by omega) ?_
              · rw [HLX.out.1 x (by omega) (by omega) (by omega)]
                have := oL_lt (eD D i) i k (i + q1) x
                omega
              · rw [HLX.out.1 0 (by omega) (by omega) (by omega)]
                have := HTOP.out
                omega
            have HEND2 : Hid (∀ (w2 w3 : World) (M : Nat), M = min (i + q1) 800 → Keep [b] w w2 → Keep [b] w2 w3 → (∃ m : Nat, DecC w3 b D1 m (dp + q1) t2 ∧ 0 < m ∧ m ≤ M ∧ (∀ j, m ≤ j → j < M → D1 j = 48) ∧ D1 (m - 1) ≠ 48) → Keep [b] w w3 ∧ LDone w3 b k (eD D i) i dp tr q1) := by
              intro w2 w3 M hM k1 k2 hm
              obtain ⟨m, g1, g2, g3, g4, g5⟩ := hm
              subst hM
              exact ⟨k1.trans' k2, ⟨m, D1, t2, g1, fun x hx => HLX.out.1 x (by omega) (by omega) (by omega), g2, g3, g4, g5, fun h => HLX.out.2.1 fun x x1 _ x3 => h x x1 x3, fun x x1 x2 x3 => HLX.out.2.2 x x1 (by omega) x2 x3⟩⟩
            clear hc h1 h2 h3 h4 h5 h6 hl hq2n hxi hx
            by_cases h8 : 800 ≤ i + q1
            · have h8i : (800 : Int) ≤ (i : Int) + (q1 : Int) := by omega
              have HDF : DecC (((wr.setCell ⟨b, 800, none⟩ (.int .i64 ((i : Int) + (q1 : Int)))).setCell ⟨b, 800, none⟩ (.int .i64 800)).setCell ⟨b, 801, none⟩ (.int .i64 (dp + q1))) b D1 ((800 : Nat) : Int) (dp + q1) t2 := ((HDC.out.put_nd _).put_nd 800).put_dp _
              have HKF : Hid (Keep [b] w (((wr.setCell ⟨b, 800, none⟩ (.int .i64 ((i : Int) + (q1 : Int)))).setCell ⟨b, 800, none⟩ (.int .i64 800)).setCell ⟨b, 801, none⟩ (.int .i64 (dp + q1)))) := ((HK.out.setCell (.inl (by simp)) _).setCell (.inl (by simp)) _).setCell (.inl (by simp)) _
              have HTR := HTRIM _ 800 (by omega) HDF
              have HM8 : Hid (800 = min (i + q1) 800) := by show _ = _; omega
              clear HTRIM HDF
              go_wp2_with (first | (go_at_call 180; refine HTR.mono ?_; rintro e9 w9 ⟨rfl, hk9, hm9⟩; have HF : Hid _ := And.intro hk9 hm9; clear hk9 hm9))
              go_end0
              exact ⟨rfl, HEND2.out _ _ 800 HM8.out HKF.out HF.out.1 HF.out.2⟩
            · have h8i : ¬ (800 : Int) ≤ (i : Int) + (q1 : Int) := by omega
              have HDF : DecC ((wr.setCell ⟨b, 800, none⟩ (.int .i64 ((i : Int) + (q1 : Int)))).setCell ⟨b, 801, none⟩ (.int .i64 (dp + q1))) b D1 ((i + q1 : Nat) : Int) (dp + q1) t2 := by
                rw [show ((i + q1 : Nat) : Int) = (i : Int) + (q1 : Int) by omega]
                exact (HDC.out.put_nd _).put_dp _
              have HKF : Hid (Keep [b] w ((wr.setCell ⟨b, 800, none⟩ (.int .i64 ((i : Int) + (q1 : Int)))).setCell ⟨b, 801, none⟩ (.int .i64 (dp + q1)))) := (HK.out.setCell (.inl (by simp)) _).setCell (.inl (by simp)) _
              have HTR := HTRIM _ (i + q1) (by omega) HDF
              have HM8 : Hid (i + q1 = min (i + q1) 800) := by show _ = _; omega
              clear HTRIM HDF
              go_wp2_with (first | (go_at_call 180; refine HTR.mono ?_; rintro e9 w9 ⟨rfl, hk9, hm9⟩; have HF : Hid _ := And.intro hk9 hm9; clear hk9 hm9))
              go_end0
              exact ⟨rfl, HEND2.out _ _ (i + q1) HM8.out HKF.out HF.out.1 HF.out.2⟩
end Go.Proofs.YtnljpbpphdhnpaaGreatDoor
