/- The library's floatBits of a decimal: a number that is no infinite one. -/
import Derived.Test.YtnljpbpphdhnpaaGreatDoorDecU
namespace Go.Proofs.YtnljpbpphdhnpaaGreatDoor
open Go.RowKit Go.PlainAid

set_option maxRecDepth 1000000 in
set_option maxHeartbeats 1500000 in
theorem bits_norm (w : World) (b F : Nat) (st : Bool) (D : Nat → Int) (nd : Nat) (dp : Int) (tr : Bool) (g : GD w b 2000 F st 200 D nd dp tr) (hT : TabD w b) (hp1 : -60 ≤ dp) (hp2 : dp ≤ 60) (hF1 : 140737488355328 ≤ F) (hF2 : F < 2 ^ 333) (M : Nat) (hM1 : 2 ^ M ≤ 2 * F) (hM2 : F < 2 ^ M) (hM0 : 1 ≤ M) (hlow : 75 ≤ M) (hbig : M < 329) (mant : Nat) (hmant : mant = F / 2 ^ (M - 24) + (if upFs F (M - 24) st = true then 1 else 0)) (hfin : (M - 75) * 8388608 + mant < 2139095040) :
    Calls Tryz.prog 160 #[.pointer (some ⟨b, 0, none⟩), .pointer (some ⟨8, 0, none⟩)] w fun e w' => e = .returned (.tuple #[.int .u64 (((M - 75) * 8388608 + mant : Nat) : Int), .bool false]) ∧ Keep [b] w w' := by
  have G0 : Hid (GD w b 2000 F st 200 D nd dp tr) := g
  have T0 : Hid (TabD w b) := hT
  have HF : Hid (140737488355328 ≤ F ∧ F < 2 ^ 333) := ⟨hF1, hF2⟩
  have HMM : Hid (2 ^ M ≤ 2 * F ∧ F < 2 ^ M) := ⟨hM1, hM2⟩
  have c800 := g.c.nd
  have c801 := g.c.dp
  have hn0 := g.n0
  have hnb : ((nd : Int) == 0) = false := by simpa using (show (nd : Int) ≠ 0 by omega)
  clear g hT hF1 hF2 hM1 hM2 hn0
  go_enter Tryz.func160, Tryz.ntmps160
  go_wp2
  refine wp_scope_to (rest := ?rr) 0 ?hf ?hb
  case hf => exact rfl
  case hb =>
    go_wp2
    clear hnb c800 c801
    go_loopw [6] (fun ev wr => ∃ (m : Nat) (D1 : Nat → Int) (nd1 : Nat) (dp1 : Int) (tr1 : Bool), ev = .int .i64 ((m : Int) - 200) ∧ 200 ≤ m ∧ m ≤ 360 ∧ GD wr b 2000 F st m D1 nd1 dp1 tr1 ∧ -60 ≤ dp1 ∧ dp1 ≤ 60 ∧ Keep [b] w wr) (fun ev _ => (400 - (intOf ev + 200)).toNat)
    case atStart => exact ⟨200, D, nd, dp, tr, rfl, by omega, by omega, G0.out, hp1, hp2, Keep.refl _ _⟩
    case round =>
      obtain ⟨m, D1, nd1, dp1, tr1, rfl, hm1, hm2, g, hd1, hd2, hk⟩ := hrel
      have c801 := g.c.dp
      have hT1 := T0.out.keep hk
      obtain ⟨pb, po, pc, hpb, hps, hpc⟩ := hT1.pt
      have HK : Hid (Keep [b] w wr ∧ TabD wr b) := ⟨hk, hT1⟩
      have HG : Hid (GD wr b 2000 F st m D1 nd1 dp1 tr1) := g
      by_cases hpos : 0 < dp1
      · have hmlt : m < 333 := by
          have h1 := g.at_least 0 (by omega) (by decide)
          have h2 := HF.out.2
          rw [Nat.pow_zero, Nat.one_mul] at h1
          exact (Nat.pow_lt_pow_iff_right (by decide : 1 < 2)).1 (Nat.lt_of_le_of_lt h1 h2)
        obtain ⟨j, rfl⟩ : ∃ j : Nat, dp1 = j := ⟨dp1.toNat, by omega⟩
        by_cases hj9 : 9 ≤ j
        · have hS : ∀ n, Calls Tryz.prog 142 #[.pointer (some ⟨b, 0, none⟩), .int .i64 (-27)] (wr.drewN n) fun e w' => e = .returned (.tuple #[]) ∧ Keep [b] (wr.drewN n) w' ∧ ∃ D2 nd2 dp2 tr2, GD w' b 2000 F st (m + 27) D2 nd2 dp2 tr2 ∧ (j : Int) - 20 ≤ dp2 ∧ dp2 ≤ j := fun n =>
            shift_down (wr.drewN n) b 2000 F st m 27 D1 nd1 j tr1 (g.keep ((Keep.refl [] wr).drewN n) (by simp)) (by decide) (by omega) (by omega) (by decide) (by decide) (by omega)
          clear hk hT1 g hpb hpc
          go_wp2
          go_quiet (fail)
          go_wp2_with (first | (go_at_call 142; refine (hS _).mono ?_; rintro e9 w9 ⟨rfl, hk9, hm9⟩; have HX : Hid _ := And.intro hk9 hm9; clear hk9 hm9))
          go_roundw
          case rel =>
            obtain ⟨hk9, D2, nd2, dp2, tr2, g2, d1, d2⟩ := HX.out
            exact ⟨m + 27, D2, nd2, dp2, tr2, by go_num, by omega, by omega, g2, by omega, by omega, (HK.out.1.drewN _).trans' hk9⟩
          case measure => simp [intOf]; omega
        · have hcj := hpc j (by omega)
          obtain ⟨k1, k2, _⟩ := powT_b j (by omega)
          have hS : ∀ n, Calls Tryz.prog 142 #[.pointer (some ⟨b, 0, none⟩), .int .i64 (-((powT j : Nat) : Int))] (wr.drewN n) fun e w' => e = .returned (.tuple #[]) ∧ Keep [b] (wr.drewN n) w' ∧ ∃ D2 nd2 dp2 tr2, GD w' b 2000 F st (m + powT j) D2 nd2 dp2 tr2 ∧ (j : Int) - 20 ≤ dp2 ∧ dp2 ≤ j := fun n =>
            shift_down (wr.drewN n) b 2000 F st m (powT j) D1 nd1 j tr1 (g.keep ((Keep.refl [] wr).drewN n) (by simp)) (by decide) (by omega) (by omega) k1 (by omega) (by omega)
          generalize powT j = k at *
          clear hk hT1 g hpb hpc
          go_wp2
          go_quiet (fail)
          go_wp2
          go_quiet (fail)
          go_wp2_with (first | (go_at_call 142; refine (hS _).mono ?_; rintro e9 w9 ⟨rfl, hk9, hm9⟩; have HX : Hid _ := And.intro hk9 hm9; clear hk9 hm9))
          go_roundw
          case rel =>
            obtain ⟨hk9, D2, nd2, dp2, tr2, g2, d1, d2⟩ := HX.out
            exact ⟨m + k, D2, nd2, dp2, tr2, by go_num, by omega, by omega, g2, by omega, by omega, (HK.out.1.drewN _).trans' hk9⟩
          case measure => simp [intOf]; omega
      · clear hk hT1 g hpb hpc hps
        go_wp2
        clear c801
        go_loopw [6] (fun ev wr => ∃ (m : Nat) (D1 : Nat → Int) (nd1 : Nat) (dp1 : Int) (tr1 : Bool), ev = .int .i64 ((m : Int) - 200) ∧ 1 ≤ m ∧ m ≤ 360 ∧ GD wr b 2000 F st m D1 nd1 dp1 tr1 ∧ -60 ≤ dp1 ∧ dp1 ≤ 0 ∧ Keep [b] w wr) (fun ev _ => (intOf ev + 200).toNat)
        case atStart => exact ⟨m, D1, nd1, dp1, tr1, rfl, by omega, by omega, HG.out, hd1, by omega, HK.out.1⟩
        case round =>
          obtain ⟨m, D1, nd1, dp1, tr1, rfl, hm1, hm2, g, hd1, hd2, hk⟩ := hrel
          have c801 := g.c.dp
          have c0 := g.c.dg 0 (by omega)
          have hT1 := T0.out.keep hk
          obtain ⟨pb, po, pc, hpb, hps, hpc⟩ := hT1.pt
          have HK : Hid (Keep [b] w wr ∧ TabD wr b) := ⟨hk, hT1⟩
          have HG : Hid (GD wr b 2000 F st m D1 nd1 dp1 tr1) := g
          by_cases hneg : dp1 < 0
          · obtain ⟨j, rfl⟩ : ∃ j : Nat, dp1 = -(j : Int) := ⟨(-dp1).toNat, by omega⟩
            have hj1 : 1 ≤ j := by omega
            have hless := g.less j (Int.le_refl _) (by decide) (by omega)
            have hF47 := HF.out.1
            by_cases hj9 : 9 ≤ j
            · obtain ⟨m', hm', hF'⟩ := up_room F m 27 j hF47 hless (Nat.le_trans (by decide : 2 ^ 27 ≤ 10 ^ 9) (Nat.pow_le_pow_right (by decide) hj9))
              subst hm'
              have hS : ∀ n, Calls Tryz.prog 142 #[.pointer (some ⟨b, 0, none⟩), .int .i64 27] (wr.drewN n) fun e w' => e = .returned (.tuple #[]) ∧ Keep [b] (wr.drewN n) w' ∧ ∃ D2 nd2 dp2 tr2, GD w' b 2000 F st m' D2 nd2 dp2 tr2 ∧ -(j : Int) ≤ dp2 ∧ dp2 ≤ -(j : Int) + 20 := fun n =>
                shift_up (wr.drewN n) b 2000 F st m' 27 (lcN 27) (lcS 27) D1 nd1 (-(j : Int)) tr1 (g.keep ((Keep.refl [] wr).drewN n) (by simp)) ((hT1.keep ((Keep.refl [b] wr).drewN n)).row 27 (by decide)) (lf_all 27 (by decide)) (by decide) (by omega) (by omega) (by decide) (by decide) (by omega)
              have hm'1 : 1 ≤ m' := room_pos F m' hF47 hF'
              have HF9 : Hid (F < 2 ^ m') := hF'
              have hj9i : (9 : Int) ≤ (j : Int) := by omega
              clear hk hT1 g hpb hpc hless hF' hF47
              go_wp2
              go_quiet (fail)
              go_wp2_with (first | (go_at_call 142; refine (hS _).mono ?_; rintro e9 w9 ⟨rfl, hk9, hm9⟩; have HX : Hid _ := And.intro hk9 hm9; clear hk9 hm9))
              go_roundw
              case rel =>
                obtain ⟨hk9, D2, nd2, dp2, tr2, g2, d1, d2⟩ := HX.out
                exact ⟨m', D2, nd2, dp2, tr2, by go_num, hm'1, by omega, g2, by omega, g2.nonpos HF9.out, (HK.out.1.drewN _).trans' hk9⟩
              case measure => simp [intOf]; omega
            · have hcj := hpc j (by omega)
              obtain ⟨k1, k2, _⟩ := powT_b j (by omega)
              have k3 := powT_c j (by omega) hj1
              have k4 := powT_kS j (by omega)
              generalize powT j = k at *
              obtain ⟨m', hm', hF'⟩ := up_room F m k j hF47 hless k3
              subst hm'
              have hS : ∀ n, Calls Tryz.prog 142 #[.pointer (some ⟨b, 0, none⟩), .int .i64 (k : Nat)] (wr.drewN n) fun e w' => e = .returned (.tuple #[]) ∧ Keep [b] (wr.drewN n) w' ∧ ∃ D2 nd2 dp2 tr2, GD w' b 2000 F st m' D2 nd2 dp2 tr2 ∧ -(j : Int) ≤ dp2 ∧ dp2 ≤ -(j : Int) + 20 := fun n =>
                shift_up (wr.drewN n) b 2000 F st m' k (lcN k) (lcS k) D1 nd1 (-(j : Int)) tr1 (g.keep ((Keep.refl [] wr).drewN n) (by simp)) ((hT1.keep ((Keep.refl [b] wr).drewN n)).row k k4) (lf_all k k4) (by decide) (by omega) (by omega) k1 (by omega) (by omega)
              have hm'1 : 1 ≤ m' := room_pos F m' hF47 hF'
              have HF9 : Hid (F < 2 ^ m') := hF'
              have hj9i : (j : Int) < 9 := by omega
              clear hk hT1 g hpb hpc hless hF' hF47 k3 k4
              go_wp2
              go_quiet (fail)
              go_wp2
              go_quiet (fail)
              go_wp2_with (first | (go_at_call 142; refine (hS _).mono ?_; rintro e9 w9 ⟨rfl, hk9, hm9⟩; have HX : Hid _ := And.intro hk9 hm9; clear hk9 hm9))
              go_roundw
              case rel =>
                obtain ⟨hk9, D2, nd2, dp2, tr2, g2, d1, d2⟩ := HX.out
                exact ⟨m', D2, nd2, dp2, tr2, by go_num, hm'1, by omega, g2, by omega, g2.nonpos HF9.out, (HK.out.1.drewN _).trans' hk9⟩
              case measure => simp [intOf]; omega
          · obtain rfl : dp1 = 0 := by omega
            obtain ⟨hh1, hh2⟩ := g.half (by decide) hm1
            by_cases h53 : D1 0 < 53
            · have hF' : F < 2 ^ (m - 1) := by
                have := hh1 h53
                rw [two_split m hm1] at this
                omega
              have hF47 := HF.out.1
              obtain ⟨m', rfl⟩ : ∃ m', m = m' + 1 := ⟨m - 1, by omega⟩
              rw [show m' + 1 - 1 = m' by omega] at hF'
              have hcj := hpc 0 (by omega)
              have hcj2 : wr.cell? ⟨pb, po, none⟩ = some (.int .i64 1) := hcj
              have hS : ∀ n, Calls Tryz.prog 142 #[.pointer (some ⟨b, 0, none⟩), .int .i64 1] (wr.drewN n) fun e w' => e = .returned (.tuple #[]) ∧ Keep [b] (wr.drewN n) w' ∧ ∃ D2 nd2 dp2 tr2, GD w' b 2000 F st m' D2 nd2 dp2 tr2 ∧ (0 : Int) ≤ dp2 ∧ dp2 ≤ (0 : Int) + 20 := fun n =>
                shift_up (wr.drewN n) b 2000 F st m' 1 (lcN 1) (lcS 1) D1 nd1 0 tr1 (g.keep ((Keep.refl [] wr).drewN n) (by simp)) ((hT1.keep ((Keep.refl [b] wr).drewN n)).row 1 (by decide)) (lf_all 1 (by decide)) (by decide) (by omega) (by omega) (by decide) (by decide) (by omega)
              have hm'1 : 1 ≤ m' := room_pos F m' hF47 hF'
              have HF9 : Hid (F < 2 ^ m') := hF'
              clear hk hT1 g hpb hpc hcj hF' hF47 hh1 hh2
              generalize D1 0 = c at *
              go_wp2
              go_quiet (fail)
              go_wp2
              go_quiet (fail)
              go_wp2_with (first | (go_at_call 142; refine (hS _).mono ?_; rintro e9 w9 ⟨rfl, hk9, hm9⟩; have HX : Hid _ := And.intro hk9 hm9; clear hk9 hm9))
              go_roundw
              case rel =>
                obtain ⟨hk9, D2, nd2, dp2, tr2, g2, d1, d2⟩ := HX.out
                exact ⟨m', D2, nd2, dp2, tr2, by go_num, hm'1, by omega, g2, by omega, g2.nonpos HF9.out, (HK.out.1.drewN _).trans' hk9⟩
              case measure => simp [intOf]; omega
            · have hless := g.less 0 (by omega) (by decide) (by omega)
              rw [Nat.pow_zero, Nat.mul_one] at hless
              have hmM : m = M := same_place F m M hm1 hM0 (hh2 (by omega)) hless HMM.out.1 HMM.out.2
              subst hmM
              have fm := hT1.mb
              have fe := hT1.eb
              have fb := hT1.bi
              clear hk hT1 hpb hpc hless hh1 hh2 g hps
              generalize D1 0 = c at *
              obtain ⟨m', rfl⟩ : ∃ m', m = m' + 24 := ⟨m - 24, by omega⟩
              have hbound : F < 2 ^ (m' + 24) := HMM.out.2
              have hbot : 2 ^ (m' + 24) ≤ 2 * F := HMM.out.1
              have hS : ∀ n, Calls Tryz.prog 142 #[.pointer (some ⟨b, 0, none⟩), .int .i64 24] (wr.drewN n) fun e w' => e = .returned (.tuple #[]) ∧ Keep [b] (wr.drewN n) w' ∧ ∃ D2 nd2 dp2 tr2, GD w' b 2000 F st m' D2 nd2 dp2 tr2 ∧ (0 : Int) ≤ dp2 ∧ dp2 ≤ (0 : Int) + 20 := fun n =>
                shift_up (wr.drewN n) b 2000 F st m' 24 (lcN 24) (lcS 24) D1 nd1 0 tr1 (HG.out.keep ((Keep.refl [] wr).drewN n) (by simp)) ((HK.out.2.keep ((Keep.refl [b] wr).drewN n)).row 24 (by decide)) (lf_all 24 (by decide)) (by decide) (by omega) (by omega) (by decide) (by decide) (by omega)
              rw [show m' + 24 - 24 = m' by omega] at hmant
              have hq1 : 8388608 ≤ F / 2 ^ m' := by
                rw [Nat.le_div_iff_mul_le (Nat.two_pow_pos _)]
                have : 2 ^ (m' + 24) = 2 * (8388608 * 2 ^ m') := by rw [Nat.pow_add]; omega
                omega
              have hq2 : F / 2 ^ m' < 16777216 := by
                rw [Nat.div_lt_iff_lt_mul (Nat.two_pow_pos _)]
                have : 2 ^ (m' + 24) = 16777216 * 2 ^ m' := by rw [Nat.pow_add, Nat.mul_comm]
                omega
              have hb1 : 8388608 ≤ mant := by omega
              have hb2 : mant ≤ 16777216 := by rw [hmant]; split <;> omega
              have HQ : Hid (mant = F / 2 ^ m' + (if upFs F m' st = true then 1 else 0)) := hmant
              have HFIN : Hid ((m' + 24 - 75) * 8388608 + mant < 2139095040) := hfin
              have HB : Hid (8388608 ≤ mant ∧ mant ≤ 16777216) := ⟨hb1, hb2⟩
              have HBD : Hid (F < 2 ^ (m' + 24) ∧ 2 ^ (m' + 24) ≤ 2 * F) := ⟨hbound, hbot⟩
              clear hmant hq1 hq2 hbound hbot hfin hb1 hb2
              go_wp2
              go_quiet (fail)
              go_wp2_with (first | (go_at_call 142; refine (hS _).mono ?_; rintro e9 w9 ⟨rfl, hk9, hm9⟩; have HX : Hid _ := And.intro hk9 hm9; clear hk9 hm9))
              have HSTEP : Hid (∀ w9, Keep [b] w w9 → ∀ D2 nd2 dp2 tr2, GD w9 b 2000 F st m' D2 nd2 dp2 tr2 → (0 : Int) ≤ dp2 → Calls Tryz.prog 191 #[.pointer (some ⟨b, 0, none⟩)] w9 fun e w' => e = .returned (.int .u64 (mant : Int)) ∧ w' = w9) := by
                intro w9 _ D2 nd2 dp2 tr2 g2 d1
                have hp8 : dp2 ≤ 8 := by
                  rcases Int.lt_or_le 8 dp2 with h | h
                  · have h1 := g2.at_least 8 h (by decide)
                    have h2 := HBD.out.1
                    rw [Nat.pow_add, Nat.mul_comm] at h2
                    have h3 : 2 ^ 24 * 2 ^ m' ≤ 10 ^ 8 * 2 ^ m' := Nat.mul_le_mul_right _ (by decide)
                    omega
                  · exact h
                obtain ⟨p, rfl⟩ : ∃ p : Nat, dp2 = p := ⟨dp2.toNat, by omega⟩
                have hr := rounded_any w9 b D2 nd2 p tr2 g2.c g2.dg g2.n8 (by omega)
                obtain ⟨r1, r2⟩ := dec_rounds 2000 F st m' D2 nd2 p tr2 (by omega) g2.dg g2.hl g2.n0 g2.n8 (by decide) g2.se
                rw [r1, r2] at hr
                have e : ((F / 2 ^ m' : Nat) : Int) + (if upFs F m' st = true then 1 else 0) = (mant : Int) := by
                  rw [HQ.out]; split <;> simp
                rw [e] at hr
                exact hr
              obtain ⟨hk9, D2, nd2, dp2, tr2, g2, d1, d2⟩ := HX.out
              have hkw : Keep [b] w w9 := (HK.out.1.drewN _).trans' hk9
              have HKW : Hid (Keep [b] w w9) := hkw
              have hR := HSTEP.out w9 hkw D2 nd2 dp2 tr2 g2 d1
              have hT9 := T0.out.keep hkw
              have gm := hT9.mb
              have ge := hT9.eb
              have gb := hT9.bi
              have cng := g2.c.ng
              obtain ⟨hb1, hb2⟩ := HB.out
              clear HX g2 hk9 d1 d2 hkw hT9
              refine hR.mono ?_
              rintro e9 w8 ⟨rfl, hw8⟩
              obtain rfl := hw8.symm
              clear hw8 hR
              by_cases hmx : mant = 16777216
              · subst hmx
                obtain ⟨v, hv⟩ : ∃ v : Nat, m' = v + 49 := ⟨m' - 49, by omega⟩
                have hfin := HFIN.out
                have hvb : v < 255 := by omega
                have hvv : (v : Int) + 49 + 24 - 200 - -127 = (v : Int) := by omega
                have hvw : (v : Int) + 49 + 24 - 200 + 127 = (v : Int) := by omega
                have a1 : bits .and .u64 8388608 8388608 = 8388608 := by decide
                have a2 : bits .and .u64 8388608 8388607 = 0 := by decide
                have a3 : bits .and .i64 (v : Int) 255 = (v : Int) := and_255 v (by omega)
                have a4 : bits .or .u64 0 ((v : Int) * 8388608) = (v : Int) * 8388608 := by
                  have := or_up 0 v (by omega) (by omega)
                  rw [Nat.zero_add] at this
                  exact this
                clear hfin
                go_wp2
                go_quiet (fail)
                go_wp2
                refine wp_goto ?_
                refine ⟨rfl, ?_⟩
                show Code.wp _ _ _ _ _
                go_wp2
                go_quiet (fail)
                go_wp2
                rw [Exit.noGoto_ret]
                go_ret2
                have hval : (((m' + 24 - 75) * 8388608 + 16777216 : Nat) : Int) = (v : Int) * 8388608 := by omega
                exact ⟨by rw [hval]; rfl, HKW.out.drewN _⟩
              · have hmb : ((mant : Int) == 16777216) = false := by simp only [beq_eq_false_iff_ne]; omega
                have a1 : bits .and .u64 (mant : Int) 8388608 = 8388608 := and_top mant hb1 (by omega)
                have a2 : bits .and .u64 (mant : Int) 8388607 = ((mant % 8388608 : Nat) : Int) := and_rest mant (by omega)
                obtain ⟨lo, hlo⟩ : ∃ lo, mant % 8388608 = lo := ⟨_, rfl⟩
                rw [hlo] at a2
                obtain ⟨v, hv⟩ : ∃ v : Nat, m' = v + 50 := ⟨m' - 50, by omega⟩
                go_wp2
                refine wp_goto ?_
                refine ⟨rfl, ?_⟩
                show Code.wp _ _ _ _ _
                go_wp2
                have hvv : (v : Int) + 50 + 24 - 200 - 1 - -127 = (v : Int) := by omega
                have hvb : v < 256 := by omega
                have a3 : bits .and .i64 (v : Int) 255 = (v : Int) := and_255 v hvb
                have a4 : bits .or .u64 (lo : Int) ((v : Int) * 8388608) = ((lo + v * 8388608 : Nat) : Int) := or_up lo v (by omega) (by omega)
                go_quiet (fail)
                go_wp2
                rw [Exit.noGoto_ret]
                go_ret2
                have hval : (((m' + 24 - 75) * 8388608 + mant : Nat) : Int) = (lo : Int) + (v : Int) * 8388608 := by omega
                exact ⟨by rw [hval]; rfl, HKW.out.drewN _⟩
end Go.Proofs.YtnljpbpphdhnpaaGreatDoor
