/- The library's rightShift of a decimal of few digits. -/
import Derived.Test.YtnljpbpphdhnpaaGreatDoorDecR
import Derived.Test.YtnljpbpphdhnpaaGreatDoorUzV

namespace Go.Proofs.YtnljpbpphdhnpaaGreatDoor
open Go.RowKit Go.PlainAid

set_option maxRecDepth 1000000 in
set_option maxHeartbeats 1000000 in
theorem right_out (w : World) (b k r0 : Nat) (D : Nat → Int) (nd : Nat) (dp : Int) (tr : Bool) (h : DecC w b D nd dp tr) (hd : DgD D nd) (h0 : 0 < nd) (h8 : nd ≤ 800) (hp1 : -2000 ≤ dp) (hp2 : dp ≤ 2000) (hk1 : 1 ≤ k) (hk2 : k ≤ 60)
    (hr0 : 2 ^ k ≤ pD (eD D nd) r0) (hr1 : ∀ j, j < r0 → pD (eD D nd) j < 2 ^ k) (hr2 : r0 ≤ 1000) (hin : nd < r0) (hnz : D 0 ≠ 48) :
    Calls Tryz.prog 182 #[.pointer (some ⟨b, 0, none⟩), .int .u64 (k : Nat)] w fun e w' => e = .returned (.tuple #[]) ∧ Keep [b] w w' ∧ RDone w' b k r0 (eD D nd) nd dp tr := by
  have HNZ : Hid (D 0 ≠ 48) := hnz
  clear hnz
  have H : Hid (DecC w b D nd dp tr) := h
  have HD : Hid (DgD D nd) := hd
  have HR0 : Hid (2 ^ k ≤ pD (eD D nd) r0) := hr0
  have HR1 : Hid (∀ j, j < r0 → pD (eD D nd) j < 2 ^ k) := hr1
  have HE : Hid (∀ j, eD D nd j < 10) := fun j => eD_lt hd j
  have c800 := h.nd
  obtain ⟨z, hz⟩ : ∃ z : Nat, 2 ^ k = z := ⟨_, rfl⟩
  have hzi : (2 : Int) ^ k = (z : Int) := by rw [← hz]; simp
  have hz1 : 2 ≤ z := by
    rw [← hz]
    exact Nat.pow_le_pow_right (n := 2) (by decide) hk1
  have hz2 : z ≤ 1152921504606846976 := by
    rw [← hz]
    exact Nat.le_trans (Nat.pow_le_pow_right (n := 2) (by decide) hk2) (by decide)
  have HTOP : Hid (pD (eD D nd) r0 < 10 * z) := by
    show pD (eD D nd) r0 < 10 * z
    cases r0 with
    | zero => show 0 < _; omega
    | succ j =>
      have a1 := hr1 j (by omega)
      have a2 := eD_lt hd j
      rw [pD_succ]
      rw [hz] at a1
      omega
  have HNL : Hid (∀ i, nR (eD D nd) k r0 i < 10 * z) := by
    intro i
    rw [← hz]
    exact nR_lt _ k r0 (fun j => eD_lt hd j) (by rw [hz]; exact HTOP.out) i
  have HM : Hid (∀ n : Nat, n < 10 * z → bits .and .u64 (n : Int) ((z : Int) - 1) = ((n % z : Nat) : Int)) := by
    intro n hn
    rw [← hz]
    exact mask_pow k n hk2 (by rw [hz] at *; omega)
  have HZ : Hid (2 ^ k = z) := hz
  clear h hd hr0 hr1 hz
  go_enter Tryz.func182, Tryz.ntmps182
  go_wp2
  go_loop [4, 6] (fun r n => ∃ j : Nat, j ≤ r0 ∧ j ≤ nd ∧ r = .int .i64 j ∧ n = .int .u64 (pD (eD D nd) j : Nat)) (fun r _ => nd - (intOf r).toNat)
  case atStart => exact ⟨0, Nat.zero_le _, Nat.zero_le _, rfl, rfl⟩
  case round =>
    obtain ⟨j, hj, hjn, rfl, rfl⟩ := hrel
    by_cases hlt : j < r0
    · have hs := HR1.out j hlt
      rw [HZ.out] at hs
      by_cases hjn2 : j < nd
      · obtain ⟨d1, d2⟩ := HD.out j hjn2
        have c2 := H.out.dg j (by omega)
        have hS : Hid (pD (eD D nd) (j + 1) = pD (eD D nd) j * 10 + eD D nd j) := pD_succ _ _
        have hV : Hid (D j = (eD D nd j : Int) + 48) := eD_val HD.out j hjn2
        have hji : (j : Int) < (nd : Int) := by omega
        have hn2 := hs
        generalize pD (eD D nd) j = n at *
        have hq : (n : Int) / (z : Int) = 0 := by
          rw [show (n : Int) / (z : Int) = ((n / z : Nat) : Int) from rfl, Nat.div_eq_of_lt hs]; rfl
        clear hs
        generalize D j = c at *
        go_wp2
        go_round
        case rel => exact ⟨j + 1, by omega, by omega, by go_num, by rw [hS.out]; have := hV.out; congr 1; omega⟩
        case measure => simp [intOf]; omega
      · obtain rfl : nd = j := by omega
        have hs0 : 0 < pD (eD D nd) nd := by
          obtain ⟨x, rfl⟩ : ∃ x, nd = x + 1 := ⟨nd - 1, by omega⟩
          have h1 : 1 ≤ eD D (x + 1) 0 := by
            have h2 := eD_val HD.out 0 (by omega)
            have h3 := HNZ.out
            omega
          have h2 := pD_ge (eD D (x + 1)) h1 x
          have h3 : 0 < 10 ^ x := Nat.pow_pos (by decide)
          omega
        obtain ⟨n, hn⟩ : ∃ n, pD (eD D nd) nd = n := ⟨_, rfl⟩
        rw [hn] at hs0 hs
        have hq : (n : Int) / (z : Int) = 0 := by
          rw [show (n : Int) / (z : Int) = ((n / z : Nat) : Int) from rfl, Nat.div_eq_of_lt hs]; rfl
        have hnb : ((n : Int) == 0) = false := by simpa using (show (n : Int) ≠ 0 by omega)
        have HN : Hid (pD (eD D nd) nd = n) := hn
        have HLT1 : Hid (nd < r0) := hlt
        clear hn
        rw [HN.out]
        go_wp2
        clear hq hnb hs hs0
        go_loop [6, 4] (fun n r => ∃ x : Nat, nd ≤ x ∧ x ≤ r0 ∧ r = .int .i64 x ∧ n = .int .u64 (pD (eD D nd) x : Nat)) (fun _ r => r0 - (intOf r).toNat)
        case atStart => exact ⟨nd, Nat.le_refl _, hj, rfl, by rw [HN.out]⟩
        case round =>
          obtain ⟨x, hx1, hx2, rfl, rfl⟩ := hrel
          by_cases hxr : x < r0
          · have hs := HR1.out x hxr
            rw [HZ.out] at hs
            have hS : Hid (pD (eD D nd) (x + 1) = pD (eD D nd) x * 10) := by
              show _ = _
              rw [pD_succ, eD_out D nd x hx1, Nat.add_zero]
            generalize pD (eD D nd) x = y at *
            have hq : (y : Int) / (z : Int) = 0 := by
              rw [show (y : Int) / (z : Int) = ((y / z : Nat) : Int) from rfl, Nat.div_eq_of_lt hs]; rfl
            go_wp2
            go_round
            case rel => exact ⟨x + 1, by omega, by omega, by go_num, by rw [hS.out]; go_num⟩
            case measure => simp [intOf]; omega
          · obtain rfl : r0 = x := by omega
            have hq0 := HR0.out
            have hn2 := HTOP.out
            rw [HZ.out] at hq0
            obtain ⟨y, hy⟩ : ∃ y, pD (eD D nd) r0 = y := ⟨_, rfl⟩
            rw [hy] at hq0 hn2
            obtain ⟨q, hq⟩ : ∃ q, y / z = q := ⟨_, rfl⟩
            have hqi : (y : Int) / (z : Int) = (q : Int) := by rw [← hq]; rfl
            have hq1 : 1 ≤ q := by rw [← hq]; exact (Nat.le_div_iff_mul_le (by omega)).2 (by omega)
            have hqb : ((q : Int) == 0) = false := by simpa using (show (q : Int) ≠ 0 by omega)
            have HY : Hid (pD (eD D nd) r0 = y) := hy
            have c801 := H.out.dp
            have f801 := H.out.fz 801 (by omega)
            clear hy hq
            rw [HY.out]
            go_wp2
            have HC1 : Hid (DecC (w.setCell ⟨b, 801, none⟩ (.int .i64 (dp - ((r0 : Int) - 1)))) b D nd (dp - ((r0 : Int) - 1)) tr ∧ Keep [b] w (w.setCell ⟨b, 801, none⟩ (.int .i64 (dp - ((r0 : Int) - 1))))) := ⟨H.out.put_dp _, (Keep.refl [b] w).setCell (.inl (by simp)) _⟩
            have c8b := HC1.out.1.nd
            have hxj : (nd : Int) ≤ (r0 : Int) := by omega
            refine wp_loop_rounds 1 ?_
            rw [rounds_succ]
            go_wp2
            have HX : Hid (RLoop w (w.setCell ⟨b, 801, none⟩ (.int .i64 (dp - ((r0 : Int) - 1)))) b k r0 (eD D nd) nd dp tr 0) := ⟨D, tr, HC1.out.1, by omega, by omega, fun y hy => by omega, fun _ => rfl, fun y h1 h2 => by omega, .inl (by omega), HC1.out.2⟩
            rw [← HY.out]
            clear hqi hq1 hqb hq0 hn2 c801 f801 c8b
            go_loopw [5, 6] (fun wv n wr => ∃ i : Nat, wv = .int .i64 ((min i 800 : Nat) : Int) ∧ n = .int .u64 (nR (eD D nd) k r0 i : Nat) ∧ RLoop w wr b k r0 (eD D nd) nd dp tr i) (fun _ n _ => stZ z 62 (intOf n).toNat)
            case atStart => exact ⟨0, rfl, rfl, HX.out⟩
            case round =>
              obtain ⟨i, rfl, rfl, hl⟩ := hrel
              have HL : Hid (RLoop w wr b k r0 (eD D nd) nd dp tr i) := hl
              obtain ⟨D2, t2, hc, ha1, ha2, hdn, ht1, ht2, hlast, hkp⟩ := hl.ex
              have hnl := HNL.out i
              have hm := HM.out _ hnl
              have hS : Hid (nR (eD D nd) k r0 (i + 1) = nR (eD D nd) k r0 i % z * 10) := by
                show _ = _
                rw [nR_succ, HZ.out, eD_out D nd (r0 + i) (by omega), Nat.add_zero]
              have hQ : Hid (qR (eD D nd) k r0 i = nR (eD D nd) k r0 i / z) := by
                show _ = _
                unfold qR; rw [HZ.out]
              have hE : Hid (itZ z (nd - r0 + (k + 1) - i) (nR (eD D nd) k r0 i) = 0) := by
                rw [← HZ.out]
                exact left_end (eD D nd) k r0 (nd - r0) i (fun j hj => eD_out D nd j (by omega)) ha1 ha2
              by_cases hn0 : nR (eD D nd) k r0 i = 0
              · -- the end
                have hT : 0 < i := by
                  rcases Nat.eq_zero_or_pos i with hi | hi
                  · subst hi
                    have h1 : nR (eD D nd) k r0 0 = pD (eD D nd) r0 := rfl
                    rw [h1] at hn0
                    have h2 := HR0.out
                    rw [hn0, HZ.out] at h2
                    omega
                  · exact hi
                have hT9 : Hid (800 < i → qR (eD D nd) k r0 (i - 1) ≠ 0) := by
                  intro hi
                  rcases hlast with hl2 | hl2
                  · omega
                  · intro hq
                    unfold qR at hq
                    have h3 := Nat.div_add_mod (nR (eD D nd) k r0 (i - 1)) (2 ^ k)
                    have h4 : nR (eD D nd) k r0 (i - 1 + 1) = _ := nR_succ _ _ _ _
                    rw [show i - 1 + 1 = i by omega, hn0] at h4
                    rw [hq] at h3
                    omega
                have hT8 : Hid (800 < i → t2 = true) := fun hi => ht2 (i - 1) (by omega) (by omega) (hT9.out hi)
                have f800 := hc.fz 800 (by omega)
                have c8 := hc.nd
                have hq0 : Hid (1 ≤ qR (eD D nd) k r0 0) := qR_top _ k r0 HR0.out
                have HQ9 : Hid (∀ x, qR (eD D nd) k r0 x < 10) := fun x => by
                  show qR (eD D nd) k r0 x < 10
                  exact qR_lt _ k r0 HE.out (by rw [HZ.out]; exact HTOP.out) x
                have HK2 : Hid (Keep [b] w (wr.setCell ⟨b, 800, none⟩ (.int .i64 ((min i 800 : Nat) : Int)))) := hkp.setCell (.inl (by simp)) _
                have HTR := trim_any (wr.setCell ⟨b, 800, none⟩ (.int .i64 ((min i 800 : Nat) : Int))) b D2 (min i 800) (dp - ((r0 : Int) - 1)) t2 (hc.put_nd _) (fun x hx => by
                    rw [hdn x hx]
                    have := HQ9.out x
                    omega) (by omega) (by omega) (by
                    rw [hdn 0 (by omega)]
                    have := hq0.out
                    omega)
                have HDN : Hid ((∀ x, x < min i 800 → D2 x = (qR (eD D nd) k r0 x : Int) + 48) ∧ nR (eD D nd) k r0 i = 0 ∧ (i ≤ 800 → t2 = tr) ∧ nd - r0 ≤ i ∧ i ≤ nd - r0 + (k + 1)) := ⟨hdn, hn0, ht1, ha1, ha2⟩
                rw [hn0]
                have hm8 : min i 800 ≤ 800 := by omega
                obtain ⟨M, hM⟩ : ∃ M, min i 800 = M := ⟨_, rfl⟩
                rw [hM] at HTR HK2 hm8 ⊢
                have HMM : Hid (min i 800 = M) := hM
                clear hc hdn ht1 ht2 hlast hkp hn0 hm hnl HL hM
                go_wp2_with (first | (go_at_call 180; refine HTR.mono ?_; rintro e9 w9 ⟨rfl, hk9, hm9⟩; have HF : Hid _ := And.intro hk9 hm9; clear hk9 hm9))
                go_end0
                obtain ⟨hk9, m, g1, g2, g3, g4, g5⟩ := HF.out
                refine ⟨rfl, HK2.out.trans' hk9, ⟨i, m, D2, t2, g1, hT, HDN.out.2.2.2.1, HDN.out.2.2.2.2, HDN.out.2.1, hT9.out, HDN.out.1, g2, ?_, ?_, g5, HDN.out.2.2.1, hT8.out⟩⟩
                · rw [HMM.out]; exact g3
                · rw [HMM.out]; exact g4
              · have hlt9 : i < nd - r0 + (k + 1) := by
                  rcases Nat.lt_or_ge i (nd - r0 + (k + 1)) with h | h
                  · exact h
                  · obtain rfl : i = nd - r0 + (k + 1) := by omega
                    exact absurd (nR_end (eD D nd) k r0 (nd - r0) (fun j hj => eD_out D nd j (by omega))) hn0
                have HLT : Hid (i < nd - r0 + (k + 1)) := hlt9
                have HA1 : Hid (nd - r0 ≤ i) := ha1
                have HN0 : Hid (nR (eD D nd) k r0 i ≠ 0) := hn0
                have HLast : Hid (∀ x, x = i → nR (eD D nd) k r0 x ≠ 0) := fun x hx => by
                  show nR (eD D nd) k r0 x ≠ 0
                  rw [hx]; exact HN0.out
                have HDN : Hid ((∀ x, x < min i 800 → D2 x = (qR (eD D nd) k r0 x : Int) + 48) ∧ (i ≤ 800 → t2 = tr) ∧ (∀ x, 800 ≤ x → x < i → qR (eD D nd) k r0 x ≠ 0 → t2 = true) ∧ Keep [b] w wr) := ⟨hdn, ht1, ht2, hkp⟩
                have HSL : Hid (stZ z 62 (nR (eD D nd) k r0 i % z * 10) < stZ z 62 (nR (eD D nd) k r0 i)) := stZ_less z 62 _ _ hE.out (by omega) hn0
                have HC : Hid (DecC wr b D2 nd (dp - ((r0 : Int) - 1)) t2) := hc
                have f803 := hc.fz 803 (by omega)
                have c803 := hc.tr
                generalize nR (eD D nd) k r0 i = n at *
                obtain ⟨q, hq⟩ : ∃ q, n / z = q := ⟨_, rfl⟩
                obtain ⟨m, hm2⟩ : ∃ m, n % z = m := ⟨_, rfl⟩
                have hqi : (n : Int) / (z : Int) = (q : Int) := by rw [← hq]; rfl
                have hq10 : q < 10 := by rw [← hq]; exact (Nat.div_lt_iff_lt_mul (by omega)).2 hnl
                have hmz : m < z := by rw [← hm2]; exact Nat.mod_lt _ (by omega)
                rw [hm2] at hm hS HSL
                rw [hq] at hQ
                by_cases hi8 : i < 800
                · have hmi : min i 800 = i := by omega
                  have f2 := hc.fz i (by omega)
                  have c3 := hc.dg i (by omega)
                  rw [hmi]
                  clear hc hdn ht1 ht2 hlast hkp hq hm2 HL hl hE ha1 ha2 hlt9 hmi
                  go_wp2
                  go_roundw
                  case rel =>
                    have hd9 := HDN.out
                    rw [show min i 800 = i by omega] at hd9
                    refine ⟨i + 1, ?_, ?_, ⟨upD D2 i ((q : Int) + 48), t2, HC.out.put_d i _ hi8, ?_, ?_, fun x hx => ?_, fun _ => hd9.2.1 (by omega), fun x h1 h2 => by omega, .inr ?_, hd9.2.2.2.setCell (.inl (by simp)) _⟩⟩
                    · rw [show min (i + 1) 800 = i + 1 by omega]; go_num
                    · rw [hS.out]; go_num
                    · have := HA1.out; omega
                    · have := HLT.out; omega
                    · by_cases e : x = i
                      · rw [e, upD_same, hQ.out]
                      · rw [upD_other _ _ _ _ e]; exact hd9.1 x (by omega)
                    · exact HLast.out _ (by omega)
                  case measure =>
                    have := HSL.out
                    simp [intOf]; exact this
                · have hmi : min i 800 = 800 := by omega
                  rw [hmi]
                  have HW : Hid (∀ t3 : Bool, ∀ w3, (t3 = true ∨ t3 = t2 ∧ q = 0) → DecC w3 b D2 nd (dp - ((r0 : Int) - 1)) t3 → Keep [b] w w3 → RLoop w w3 b k r0 (eD D nd) nd dp tr (i + 1)) := by
                    intro t3 w3 ht hc3 hk3
                    refine ⟨D2, t3, hc3, by have := HA1.out; omega, by have := HLT.out; omega, fun x hx => HDN.out.1 x (by omega), fun h => by omega, fun x h1 h2 h3 => ?_, .inr (HLast.out _ (by omega)), hk3⟩
                    rcases ht with rfl | ⟨rfl, hq0⟩
                    · rfl
                    · by_cases e : x = i
                      · subst e; rw [hQ.out, hq0] at h3; exact absurd rfl h3
                      · exact HDN.out.2.2.1 x h1 (by omega) h3
                  have HI : Hid (min (i + 1) 800 = 800) := by show _ = _; omega
                  clear hc hdn ht1 ht2 hlast hkp hq hm2 HL hl hE ha1 ha2 hlt9 hmi
                  by_cases hq0 : q = 0
                  · rw [hq0] at hqi
                    go_wp2
                    go_roundw
                    case rel => exact ⟨i + 1, by rw [HI.out], by rw [hS.out]; go_num, HW.out t2 _ (.inr ⟨rfl, hq0⟩) HC.out HDN.out.2.2.2⟩
                    case measure =>
                      have := HSL.out
                      simp [intOf]; exact this
                  · have hqp : 0 < q := by omega
                    go_wp2
                    go_roundw
                    case rel => exact ⟨i + 1, by rw [HI.out], by rw [hS.out]; go_num, HW.out true _ (.inl rfl) (HC.out.put_tr true) (HDN.out.2.2.2.setCell (.inl (by simp)) _)⟩
                    case measure =>
                      have := HSL.out
                      simp [intOf]; exact this
    · obtain rfl : j = r0 := by omega
      omega
end Go.Proofs.YtnljpbpphdhnpaaGreatDoor

/- The library's rightShift halves the number that a decimal stands for. -/
namespace Go.Proofs.YtnljpbpphdhnpaaGreatDoor
open Go.RowKit Go.PlainAid

/-- a decimal in memory, without noughts at its ends, and what it tells -/
structure GD (w : World) (b B F : Nat) (st : Bool) (m : Nat) (D : Nat → Int) (nd : Nat) (dp : Int) (tr : Bool) : Prop where
  c : DecC w b D nd dp tr
  dg : DgD D nd
  n0 : 0 < nd
  n8 : nd ≤ 800
  h0 : D 0 ≠ 48
  hl : tr = false → D (nd - 1) ≠ 48
  se : Sees B F st m (pD (eD D nd) nd) nd dp tr
theorem GD.keep {w w' : World} {b B F : Nat} {st : Bool} {m : Nat} {D : Nat → Int} {nd : Nat} {dp : Int} {tr : Bool} {F2 : List Nat} (g : GD w b B F st m D nd dp tr) (k : Keep F2 w w') (hn : b ∉ F2) : GD w' b B F st m D nd dp tr :=
  ⟨g.c.keep k hn, g.dg, g.n0, g.n8, g.h0, g.hl, g.se⟩
theorem GD.e0 {w : World} {b B F : Nat} {st : Bool} {m : Nat} {D : Nat → Int} {nd : Nat} {dp : Int} {tr : Bool} (g : GD w b B F st m D nd dp tr) : 1 ≤ eD D nd 0 := by
  have h2 := eD_val g.dg 0 g.n0
  have h3 := g.h0
  omega
theorem least_of (P : Nat → Prop) [DecidablePred P] : ∀ n, P n → ∃ r, r ≤ n ∧ P r ∧ ∀ j, j < r → ¬ P j := by
  intro n
  induction n using Nat.strongRecOn with
  | _ n ih =>
    intro hn
    by_cases h : ∃ j, j < n ∧ P j
    · obtain ⟨j, hj, hp⟩ := h
      obtain ⟨r, h1, h2, h3⟩ := ih j hj hp
      exact ⟨r, by omega, h2, h3⟩
    · exact ⟨n, Nat.le_refl _, hn, fun j hj hp => h ⟨j, hj, hp⟩⟩
theorem first_at (e : Nat → Nat) (k : Nat) (h : 1 ≤ e 0) (hk : k ≤ 60) : ∃ r0, r0 ≤ 20 ∧ 1 ≤ r0 ∧ 2 ^ k ≤ pD e r0 ∧ ∀ j, j < r0 → pD e j < 2 ^ k := by
  have h1 := pD_ge e h 19
  have h2 : 2 ^ k ≤ 2 ^ 60 := Nat.pow_le_pow_right (by decide) hk
  obtain ⟨r, a1, a2, a3⟩ := least_of (fun r => 2 ^ k ≤ pD e r) 20 (Nat.le_trans h2 (Nat.le_trans (by decide) h1))
  refine ⟨r, a1, ?_, a2, fun j hj => by have := a3 j hj; omega⟩
  rcases Nat.eq_zero_or_pos r with h | h
  · subst h
    have : 0 < 2 ^ k := Nat.two_pow_pos k
    have h3 : 2 ^ k ≤ 0 := a2
    omega
  · exact h
/-- what rightShift leaves tells the same, halved -/
theorem right_tells (w : World) (b B F : Nat) (st : Bool) (m k r0 : Nat) (D : Nat → Int) (nd : Nat) (dp : Int) (tr : Bool) (hd : DgD D nd) (n8 : nd ≤ 800) (hse : Sees B F st m (pD (eD D nd) nd) nd dp tr) (hB : 2000 ≤ B) (hp1 : -1000 ≤ dp)
    (hk2 : k ≤ 60) (hm : dp + m + k ≤ 700) (hr1 : 1 ≤ r0) (hr2 : r0 ≤ 20) (hr3 : 2 ^ k ≤ pD (eD D nd) r0) (hr4 : ∀ j, j < r0 → pD (eD D nd) j < 2 ^ k) (h : RDone w b k r0 (eD D nd) nd dp tr) :
    ∃ D2 nd2 dp2 tr2, GD w b B F st (m + k) D2 nd2 dp2 tr2 ∧ dp - 20 ≤ dp2 ∧ dp2 ≤ dp := by
  obtain ⟨T, M, D2, t2, hc, hT0, hT1, hT2, hnT, hlast, hdg, hM0, hM1, hM2, hM3, ht1, ht2⟩ := h.ex
  have he := fun j => eD_lt hd j
  have hout := fun j (hj : nd ≤ j) => eD_out D nd j hj
  generalize hee : eD D nd = e at *
  have htop : pD e r0 < 10 * 2 ^ k := by
    obtain ⟨x, rfl⟩ : ∃ x, r0 = x + 1 := ⟨r0 - 1, by omega⟩
    have a1 := hr4 x (by omega)
    have a2 := he x
    rw [pD_succ]; omega
  have hq10 := fun x => qR_lt e k r0 he htop x
  have hq0 := qR_top e k r0 hr3
  -- all digits
  have hinv := nR_inv e k r0 T
  rw [hnT, Nat.add_zero] at hinv
  have hz : pD e (r0 + T) = pD e nd * 10 ^ (r0 + T - nd) := by
    have := pD_zeros e nd (r0 + T - nd) hout
    rwa [show nd + (r0 + T - nd) = r0 + T by omega] at this
  have s1 : Sees B F st (m + k) (pD (qR e k r0) T) (T : Int) (dp - ((r0 : Int) - 1)) tr := by
    refine sees_half B F st m (pD e nd) nd dp tr k _ r0 T (by omega) (by omega) (by omega) ?_ hse
    rw [hinv, hz, show ((r0 : Int) + T - nd).toNat = r0 + T - nd by omega]
  -- cut at 800
  have s2 : Sees B F st (m + k) (pD (qR e k r0) (min T 800)) ((min T 800 : Nat) : Int) (dp - ((r0 : Int) - 1)) t2 := by
    by_cases h8 : T ≤ 800
    · rw [show min T 800 = T by omega, ht1 h8]; exact s1
    · rw [show min T 800 = 800 by omega]
      have hsp := pD_split (qR e k r0) 800 (T - 800)
      rw [show 800 + (T - 800) = T by omega] at hsp
      refine sees_cut B F st (m + k) (pD (qR e k r0) 800) (T - 800) (pD (fun j => qR e k r0 (800 + j)) (T - 800)) ((800 : Nat) : Int) _ tr t2 ?_ (pD_lt _ _ fun j _ => hq10 _) (by omega) (fun h => by omega) (fun _ => ⟨ht2 (by omega), ?_, by omega⟩)
      · rw [← hsp, show ((800 : Nat) : Int) + ((T - 800 : Nat) : Int) = (T : Int) by omega]; exact s1
      · obtain ⟨y, hy⟩ : ∃ y, T - 800 = y + 1 := ⟨T - 801, by omega⟩
        rw [hy, pD_succ]
        have := hlast (by omega)
        rw [show T - 1 = 800 + y by omega] at this
        omega
  -- noughts at the end
  have hqz : pD (qR e k r0) (min T 800) = pD (eD D2 M) M * 10 ^ (min T 800 - M) := by
    have hsp := pD_split (qR e k r0) M (min T 800 - M)
    rw [show M + (min T 800 - M) = min T 800 by omega] at hsp
    rw [hsp]
    have h1 : pD (qR e k r0) M = pD (eD D2 M) M := pD_congr _ _ _ fun j hj => by
      have h2 := hdg j (by omega)
      unfold eD
      rw [if_pos hj, h2]
      omega
    have h2 : pD (fun j => qR e k r0 (M + j)) (min T 800 - M) = 0 := by
      have h3 := pD_congr (fun j => qR e k r0 (M + j)) (fun _ => 0) (min T 800 - M) fun j hj => by
        have h4 := hM2 (M + j) (by omega) (by omega)
        have h5 := hdg (M + j) (by omega)
        show qR e k r0 (M + j) = 0
        omega
      rw [h3]
      have h6 := pD_zeros (fun _ => 0) 0 (min T 800 - M) fun _ _ => rfl
      rw [Nat.zero_add] at h6
      rw [h6]
      show 0 * _ = 0
      omega
    rw [h1, h2, Nat.add_zero]
  rw [hqz] at s2
  refine ⟨D2, M, _, t2, ⟨hc, ?_, hM0, by omega, ?_, fun _ => hM3, ?_⟩, by omega, by omega⟩
  · intro j hj
    have h2 := hdg j (by omega)
    have h3 := hq10 j
    omega
  · have h2 := hdg 0 (by omega)
    omega
  · refine sees_trim B F st (m + k) (pD (eD D2 M) M) M _ t2 (min T 800 - M) (by omega) ?_
    rw [show (M : Int) + ((min T 800 - M : Nat) : Int) = ((min T 800 : Nat) : Int) by omega]
    exact s2
theorem right_g (w : World) (b B F : Nat) (st : Bool) (m k : Nat) (D : Nat → Int) (nd : Nat) (dp : Int) (tr : Bool) (g : GD w b B F st m D nd dp tr) (hB : 2000 ≤ B) (hp1 : -1000 ≤ dp) (hp2 : dp ≤ 1000) (hk1 : 1 ≤ k) (hk2 : k ≤ 60) (hm : dp + m + k ≤ 700) :
    Calls Tryz.prog 182 #[.pointer (some ⟨b, 0, none⟩), .int .u64 (k : Nat)] w fun e w' => e = .returned (.tuple #[]) ∧ Keep [b] w w' ∧ ∃ D2 nd2 dp2 tr2, GD w' b B F st (m + k) D2 nd2 dp2 tr2 ∧ dp - 20 ≤ dp2 ∧ dp2 ≤ dp := by
  obtain ⟨r0, hr2, hr1, hr3, hr4⟩ := first_at (eD D nd) k g.e0 hk2
  by_cases h : r0 ≤ nd
  · refine (right_in w b k r0 D nd dp tr g.c g.dg g.n0 g.n8 (by omega) (by omega) hk1 hk2 hr3 hr4 (by omega) h).mono ?_
    rintro e9 w9 ⟨rfl, hk, hd⟩
    exact ⟨rfl, hk, right_tells w9 b B F st m k r0 D nd dp tr g.dg g.n8 g.se hB hp1 hk2 hm hr1 hr2 hr3 hr4 hd⟩
  · refine (right_out w b k r0 D nd dp tr g.c g.dg g.n0 g.n8 (by omega) (by omega) hk1 hk2 hr3 hr4 (by omega) (by omega) g.h0).mono ?_
    rintro e9 w9 ⟨rfl, hk, hd⟩
    exact ⟨rfl, hk, right_tells w9 b B F st m k r0 D nd dp tr g.dg g.n8 g.se hB hp1 hk2 hm hr1 hr2 hr3 hr4 hd⟩
end Go.Proofs.YtnljpbpphdhnpaaGreatDoor

/- The library's prefixIsLessThan of a decimal's digits. -/
namespace Go.Proofs.YtnljpbpphdhnpaaGreatDoor
open Go.RowKit Go.PlainAid

/-- the digits of a text -/
def cD (s : ByteArray) (j : Nat) : Nat := if j < s.size then (bt s j - 48).toNat else 0
theorem dn3 (w : World) (a b c : Nat) : ∃ n, ((w.drewN a).drewN b).drewN c = w.drewN n := ⟨a + (b + c), by simp only [World.drewN, Nat.add_assoc]⟩
set_option maxRecDepth 1000000 in
theorem preLess_any (w : World) (b : Nat) (D : Nat → Int) (nd : Nat) (dp : Int) (tr : Bool) (s : ByteArray) (h : DecC w b D nd dp tr) (hd : DgD D nd) (n0 : 0 < nd) (n8 : nd ≤ 800) (hs : s.size ≤ 100) (hsd : ∀ j, j < s.size → 48 ≤ bt s j ∧ bt s j ≤ 57) (hsl : 0 < s.size) (hsz : bt s (s.size - 1) ≠ 48) :
    Calls Tryz.prog 194 #[.slice (some ⟨b, 0, none⟩) nd 800, .string s] w fun e w' => e = .returned (.bool (decide (pD (eD D nd) s.size < pD (cD s) s.size))) ∧ ∃ n, w' = w.drewN n := by
  have H : Hid (DecC w b D nd dp tr) := h
  have HD : Hid (DgD D nd) := hd
  have HS : Hid (∀ j, j < s.size → 48 ≤ bt s j ∧ bt s j ≤ 57) := hsd
  have HG : Hid (∀ i (h : i < s.size), ((s[i]'h).toNat : Int) = bt s i) := get_bt s
  have HE : Hid (∀ j, eD D nd j < 10) := eD_lt hd
  have HCD : Hid (∀ j, cD s j < 10) := by
    intro j
    unfold cD
    split
    · rename_i hj; have := hsd j hj; omega
    · decide
  have HV : Hid (∀ j, j < nd → D j = (eD D nd j : Int) + 48) := fun j hj => eD_val hd j hj
  have HCV : Hid (∀ j, j < s.size → bt s j = (cD s j : Int) + 48) := by
    intro j hj
    unfold cD
    rw [if_pos hj]
    have := hsd j hj
    omega
  have HL : Hid (cD s (s.size - 1) ≠ 0) := by
    show cD s (s.size - 1) ≠ 0
    have := HCV.out (s.size - 1) (by omega)
    omega
  obtain ⟨P, hP⟩ : ∃ P : Prop, P = (pD (eD D nd) s.size < pD (cD s) s.size) := ⟨_, rfl⟩
  have HP : Hid (P = (pD (eD D nd) s.size < pD (cD s) s.size)) := hP
  obtain ⟨B, hB⟩ : ∃ B, decide (pD (eD D nd) s.size < pD (cD s) s.size) = B := ⟨_, rfl⟩
  have HB : Hid (decide (pD (eD D nd) s.size < pD (cD s) s.size) = B) := hB
  rw [hB]
  clear h hd hsd hsz hP hB
  go_enter Tryz.func194, Tryz.ntmps194
  go_wp2
  go_loopw [5] (fun iv wr => ∃ i n : Nat, iv = .int .i64 (i : Nat) ∧ i ≤ s.size ∧ (∀ j, j < i → eD D nd j = cD s j) ∧ wr = w.drewN n) (fun iv _ => s.size - (intOf iv).toNat)
  case atStart => exact ⟨0, 0, rfl, Nat.zero_le _, fun j hj => by omega, rfl⟩
  case round =>
    obtain ⟨i, n, rfl, hi, hsame, rfl⟩ := hrel
    have HSM : Hid (∀ j, j < i → eD D nd j = cD s j) := hsame
    clear hsame
    by_cases hil : i < s.size
    · have hili : (i : Int) < (s.size : Int) := by omega
      by_cases hin : i < nd
      · have hini : (i : Int) < (nd : Int) := by omega
        have c1 : w.cell? ⟨b, i, none⟩ = some (.int .u8 (D i)) := H.out.dg i (by omega)
        obtain ⟨d1, d2⟩ := HD.out i hin
        obtain ⟨r1, r2⟩ := HS.out i hil
        have gj : ((s[i]'hil).toNat : Int) = bt s i := HG.out i hil
        have hv := HV.out i hin
        have hc := HCV.out i hil
        by_cases hx : eD D nd i = cD s i
        · have hxe : D i = bt s i := by omega
          have HX : Hid (eD D nd i = cD s i) := hx
          rw [hxe] at c1
          clear hv hc hx hxe d1 d2
          generalize bt s i = c at *
          go_wp2
          go_quiet (fail)
          go_wp2
          go_roundw
          case rel =>
            refine ⟨i + 1, _, by go_num, by omega, fun j hj => ?_, rfl⟩
            by_cases e : j = i
            · rw [e]; exact HX.out
            · exact HSM.out j (by omega)
          case measure => simp [intOf]; omega
        · have hxe : (D i == bt s i) = false := by
            simp only [beq_eq_false_iff_ne]; omega
          by_cases hlt : eD D nd i < cD s i
          · have hl2 : D i < bt s i := by omega
            have HT : Hid (B = true) := by
              show B = true
              rw [← HB.out, decide_eq_true_iff]
              exact lex_lt _ _ _ i hil HE.out HSM.out hlt
            clear hv hc hx hlt
            generalize bt s i = c at *
            generalize D i = d at *
            go_wp2
            go_quiet (fail)
            go_wp2
            go_quiet (fail)
            go_wp2
            go_ret
            exact ⟨by rw [HT.out]; rfl, dn3 _ _ _ _⟩
          · have hl2 : ¬ D i < bt s i := by omega
            have HT : Hid (B = false) := by
              show B = false
              rw [← HB.out, decide_eq_false_iff_not]
              have := lex_lt (cD s) (eD D nd) s.size i hil HCD.out (fun j hj => (HSM.out j hj).symm) (by omega)
              omega
            clear hv hc hx hlt
            generalize bt s i = c at *
            generalize D i = d at *
            go_wp2
            go_quiet (fail)
            go_wp2
            go_quiet (fail)
            go_wp2
            go_ret
            exact ⟨by rw [HT.out]; show Ending.returned (.bool (decide (d < c))) = _; rw [decide_eq_false (Int.not_lt.2 hl2)], dn3 _ _ _ _⟩
      · have hini : ¬ (i : Int) < (nd : Int) := by omega
        have HT : Hid (B = true) := by
          show B = true
          rw [← HB.out, decide_eq_true_iff]
          have h1 : pD (eD D nd) s.size = pD (eD D nd) i * 10 ^ (s.size - i) := by
            have := pD_zeros (eD D nd) i (s.size - i) fun j hj => eD_out D nd j (by omega)
            rwa [show i + (s.size - i) = s.size by omega] at this
          have h2 := pD_split (cD s) i (s.size - i)
          rw [show i + (s.size - i) = s.size by omega] at h2
          rw [h1, h2, pD_congr _ _ i HSM.out]
          obtain ⟨y, hy⟩ : ∃ y, s.size - i = y + 1 := ⟨s.size - i - 1, by omega⟩
          rw [hy, pD_succ]
          have := HL.out
          rw [show s.size - 1 = i + y by omega] at this
          omega
        go_wp2
        go_ret
        exact ⟨by rw [HT.out]; rfl, _, rfl⟩
    · obtain rfl : i = s.size := by omega
      have HT : Hid (B = false) := by
        show B = false
        rw [← HB.out, decide_eq_false_iff_not, pD_congr _ _ _ HSM.out]
        omega
      go_wp2
      go_ret
      exact ⟨by rw [HT.out]; rfl, _, rfl⟩
end Go.Proofs.YtnljpbpphdhnpaaGreatDoor

/- The library's leftShift of a decimal. -/
namespace Go.Proofs.YtnljpbpphdhnpaaGreatDoor
open Go.RowKit Go.PlainAid

/-- the row of the library's table for k, as it lies in memory -/
structure LRow (w : World) (k δ : Nat) (s : ByteArray) : Prop where
  ex : ∃ (bb o cap : Nat), w.cell? ⟨16, 0, none⟩ = some (.slice (some ⟨bb, o, none⟩) 61 cap) ∧ w.cell? ⟨bb, o + k * 2, none⟩ = some (.int .i64 (δ : Nat)) ∧ w.cell? ⟨bb, o + k * 2 + 1, none⟩ = some (.string s)
/-- what leftShift leaves: L digits of the double, cut at 800 -/
structure LDone (w : World) (b k : Nat) (e : Nat → Nat) (nd : Nat) (dp : Int) (tr : Bool) (j : Nat) : Prop where
  ex : ∃ (m : Nat) (D : Nat → Int) (t2 : Bool), DecC w b D m (dp + j) t2 ∧ (∀ x, x < min (nd + j) 800 → D x = (oL e nd k (nd + j) x : Int) + 48) ∧ 0 < m ∧ m ≤ min (nd + j) 800 ∧ (∀ x, m ≤ x → x < min (nd + j) 800 → D x = 48) ∧ D (m - 1) ≠ 48 ∧ ((∀ x, 800 ≤ x → x < nd + j → oL e nd k (nd + j) x = 0) → t2 = tr) ∧ (∀ x, 800 ≤ x → x < nd + j → oL e nd k (nd + j) x ≠ 0 → t2 = true)
/-- the loops' state, i digits done -/
structure LLoop (w0 w : World) (b k : Nat) (D : Nat → Int) (e : Nat → Nat) (nd : Nat) (dp : Int) (tr : Bool) (j i : Nat) : Prop where
  ex : ∃ (D1 : Nat → Int) (t2 : Bool), DecC w b D1 nd dp t2 ∧ i ≤ nd + j ∧ (∀ x, x < nd - i → D1 x = D x) ∧ (∀ x, x < 800 → nd + j - i ≤ x → x < nd + j → D1 x = (oL e nd k (nd + j) x : Int) + 48) ∧ ((∀ x, 800 ≤ x → nd + j - i ≤ x → x < nd + j → oL e nd k (nd + j) x = 0) → t2 = tr) ∧ (∀ x, 800 ≤ x → nd + j - i ≤ x → x < nd + j → oL e nd k (nd + j) x ≠ 0 → t2 = true) ∧ Keep [b] w0 w
theorem LLoop.put {w0 w : World} {b k : Nat} {D : Nat → Int} {e : Nat → Nat} {nd : Nat} {dp : Int} {tr : Bool} {j i : Nat} (h : LLoop w0 w b k D e nd dp tr j i) (hi : i < nd + j) (w2 : World) (hw : w2 = w) :
    (nd + j - 1 - i < 800 → LLoop w0 (w2.setCell ⟨b, nd + j - 1 - i, none⟩ (.int .u8 ((rL e nd k i : Int) + 48))) b k D e nd dp tr j (i + 1)) ∧
    (800 ≤ nd + j - 1 - i → rL e nd k i = 0 → LLoop w0 w2 b k D e nd dp tr j (i + 1)) ∧
    (800 ≤ nd + j - 1 - i → rL e nd k i ≠ 0 → LLoop w0 (w2.setCell ⟨b, 803, none⟩ (.bool true)) b k D e nd dp tr j (i + 1)) := by
  subst hw
  obtain ⟨D1, t2, hc, h1, h2, h3, h4, h5, h6⟩ := h.ex
  have ho : oL e nd k (nd + j) (nd + j - 1 - i) = rL e nd k i := by
    unfold oL
    rw [show nd + j - 1 - (nd + j - 1 - i) = i by omega]
  refine ⟨fun hp => ⟨upD D1 (nd + j - 1 - i) ((rL e nd k i : Int) + 48), t2, hc.put_d _ _ hp, by omega, fun x hx => ?_, fun x x1 x2 x3 => ?_, fun hx => h4 fun x x1 x2 x3 => hx x x1 (by omega) x3, fun x x1 x2 x3 x4 => h5 x x1 (by omega) x3 x4, h6.setCell (.inl (by simp)) _⟩,
    fun hp hr => ⟨D1, t2, hc, by omega, fun x hx => h2 x (by omega), fun x x1 x2 x3 => h3 x x1 (by omega) x3, fun hx => h4 fun x x1 x2 x3 => hx x x1 (by omega) x3, fun x x1 x2 x3 x4 => ?_, h6⟩,
    fun hp hr => ⟨D1, true, hc.put_tr true, by omega, fun x hx => h2 x (by omega), fun x x1 x2 x3 => h3 x x1 (by omega) x3, fun hx => ?_, fun _ _ _ _ _ => rfl, h6.setCell (.inl (by simp)) _⟩⟩
  · rw [upD_other _ _ _ _ (by omega)]; exact h2 x (by omega)
  · by_cases hx : x = nd + j - 1 - i
    · rw [hx, upD_same, ho]
    · rw [upD_other _ _ _ _ hx]; exact h3 x x1 (by omega) x3
  · by_cases hx : x = nd + j - 1 - i
    · rw [hx, ho] at x4; exact absurd hr x4
    · exact h5 x x1 (by omega) x3 x4
  · exact absurd (ho.symm.trans (hx _ hp (by omega) (by omega))) hr
end Go.Proofs.YtnljpbpphdhnpaaGreatDoor
