/- The library's decimal set by a text: digits about a point, an e, no sign and digits. -/
import Derived.Test.YtnljpbpphdhnpaaGreatDoorDecP
import Derived.RegionTactic
import Derived.BigRegion
namespace Go.Proofs.YtnljpbpphdhnpaaGreatDoor
open Go.RowKit Go.PlainAid

/-- where the digits stand in the text, and how many stand ahead of a place -/
def posD (j : Nat) : Nat := if j = 0 then 0 else j + 1
def cntD (k : Nat) : Nat := if k ≤ 1 then k else k - 1
/-- the decimal behind so many digits -/
structure SetL (w0 w : World) (b : Nat) (s : ByteArray) (c : Nat) (dp : Int) : Prop where
  ex : ∃ (D1 : Nat → Int) (t2 : Bool), DecC w b D1 (min c 800 : Nat) dp t2 ∧ (∀ j, j < min c 800 → D1 j = bt s (posD j)) ∧ ((∀ j, 800 ≤ j → j < c → bt s (posD j) = 48) → t2 = false) ∧ (∀ j, 800 ≤ j → j < c → bt s (posD j) ≠ 48 → t2 = true) ∧ Keep [b] w0 w
theorem SetL.low {w0 w : World} {b : Nat} {s : ByteArray} {c : Nat} {dp : Int} (hc : c < 800) (D1 : Nat → Int) (t2 : Bool) (h1 : DecC w b D1 (min c 800 : Nat) dp t2) (h2 : ∀ j, j < min c 800 → D1 j = bt s (posD j)) (h3 : (∀ j, 800 ≤ j → j < c → bt s (posD j) = 48) → t2 = false) (h5 : Keep [b] w0 w) (w2 : World) (x : Int) (hx : x = bt s (posD c))
    (hw : w2 = ((w.setCell ⟨b, c, none⟩ (.int .u8 x)).setCell ⟨b, 800, none⟩ (.int .i64 ((c : Int) + 1))).drew) : SetL w0 w2 b s (c + 1) dp := by
  subst hw
  have e : ((min (c + 1) 800 : Nat) : Int) = (c : Int) + 1 := by omega
  refine ⟨upD D1 c x, t2, ?_, fun j hj => ?_, fun _ => h3 fun j a1 a2 => by omega, fun j a1 a2 => by omega, ((h5.setCell (.inl (by simp)) _).setCell (.inl (by simp)) _).drew⟩
  · rw [e]; exact ((h1.put_d c x hc).put_nd _).drewN 1
  · by_cases ej : j = c
    · rw [ej, upD_same, hx]
    · rw [upD_other _ _ _ _ ej]; exact h2 j (by omega)
theorem SetL.high {w0 w : World} {b : Nat} {s : ByteArray} {c : Nat} {dp : Int} (hc : 800 ≤ c) (D1 : Nat → Int) (t2 : Bool) (h1 : DecC w b D1 (min c 800 : Nat) dp t2) (h2 : ∀ j, j < min c 800 → D1 j = bt s (posD j)) (h3 : (∀ j, 800 ≤ j → j < c → bt s (posD j) = 48) → t2 = false) (h4 : ∀ j, 800 ≤ j → j < c → bt s (posD j) ≠ 48 → t2 = true) (h5 : Keep [b] w0 w) :
    (bt s (posD c) = 48 → SetL w0 w b s (c + 1) dp) ∧ (bt s (posD c) ≠ 48 → SetL w0 (w.setCell ⟨b, 803, none⟩ (.bool true)) b s (c + 1) dp) := by
  have e : min (c + 1) 800 = min c 800 := by omega
  refine ⟨fun hx => ⟨D1, t2, by rw [e]; exact h1, fun j hj => h2 j (by omega), fun h => h3 fun j a1 a2 => h j a1 (by omega), fun j a1 a2 a3 => ?_, h5⟩, fun hx => ⟨D1, true, by rw [e]; exact h1.put_tr true, fun j hj => h2 j (by omega), fun h => absurd (h c hc (by omega)) hx, fun _ _ _ _ => rfl, h5.setCell (.inl (by simp)) _⟩⟩
  by_cases ej : j = c
  · rw [ej] at a3; exact absurd hx a3
  · exact h4 j a1 (by omega) a3
set_option maxRecDepth 1000000 in
set_option maxHeartbeats 2000000 in
theorem set_up (s : ByteArray) (a b : Nat) (E : Nat → Int) (D : Nat → Int) (w : World) (hb : DecC w b D 0 0 false) (hs : s.size ≤ 1099511627776) (h2 : 2 ≤ a) (hd0 : 49 ≤ bt s 0 ∧ bt s 0 ≤ 57) (hpt : bt s 1 = 46) (hdg : ∀ k, 2 ≤ k → k < a → 48 ≤ bt s k ∧ bt s k ≤ 57) (hea : bt s a = 101)
    (hn : a + 1 < s.size) (hE : RunE s (a + 1) s.size E) (hE0 : E (a + 1) = 0) (hEn : 0 ≤ E s.size ∧ E s.size ≤ 100) :
    Calls Tryz.prog 159 #[.pointer (some ⟨b, 0, none⟩), .string s] w fun e w' => e = .returned (.bool true) ∧ SetL w w' b s (a - 1) (1 + E s.size) := by
  have HG : Hid (∀ i (h : i < s.size), ((s[i]'h).toNat : Int) = bt s i) := get_bt s
  have HC : Hid (DecC w b D 0 0 false) := hb
  have HD0 : Hid (49 ≤ bt s 0 ∧ bt s 0 ≤ 57) := hd0
  have HPT : Hid (bt s 1 = 46) := hpt
  have HDG : Hid (∀ k, 2 ≤ k → k < a → 48 ≤ bt s k ∧ bt s k ≤ 57) := hdg
  have HEA : Hid (bt s a = 101) := hea
  have HE : Hid (RunE s (a + 1) s.size E) := hE
  have HE0 : Hid (E (a + 1) = 0) := hE0
  have HEN : Hid (0 ≤ E s.size ∧ E s.size ≤ 100) := hEn
  have HS0 : Hid (SetL w ((w.setCell ⟨b, 802, none⟩ (.bool false)).setCell ⟨b, 803, none⟩ (.bool false)) b s 0 0) := ⟨D, false, (hb.put_ng.put_tr false), fun j hj => by omega, fun _ => rfl, fun j a1 a2 => by omega, ((Keep.refl [b] w).setCell (.inl (by simp)) _).setCell (.inl (by simp)) _⟩
  have hz : 0 < s.size := by omega
  have g0 : ((s[0]'hz).toNat : Int) = bt s 0 := HG.out 0 hz
  have c802 := hb.ng
  have f802 := hb.fz 802 (by omega)
  have c803 : (w.setCell ⟨b, 802, none⟩ (.bool false)).cell? ⟨b, 803, none⟩ = some (.bool false) := hb.put_ng.tr
  have f803 : (w.setCell ⟨b, 802, none⟩ (.bool false)).frozen? ⟨b, 803, none⟩ = false := hb.put_ng.fz 803 (by omega)
  have c803' := hb.tr
  have f803' := hb.fz 803 (by omega)
  
  generalize bt s 0 = c0 at g0 hd0
  have t1 : (c0 == 43) = false := by simp; omega
  have t2 : (c0 == 45) = false := by simp; omega
  have tn : ¬ s = ByteArray.empty := by intro e; rw [e] at hz; exact absurd hz (by decide)
  clear hb hpt hdg hea hE hE0 hEn
  go_enter Tryz.func159, Tryz.ntmps159
  go_wp2
  clear tn t1 t2 g0 hd0 c802 f802 c803 f803 c803' f803' D HC
  go_loopw [5, 6, 7] (fun i sw sg wr => ∃ k : Nat, k ≤ a ∧ i = .int .i64 (k : Nat) ∧ sw = .bool (decide (2 ≤ k)) ∧ sg = .bool (decide (1 ≤ k)) ∧ SetL w wr b s (cntD k) (if k ≤ 1 then 0 else 1)) (fun i _ _ _ => a - (intOf i).toNat)
  case atStart => exact ⟨0, Nat.zero_le _, rfl, rfl, rfl, HS0.out⟩
  case round =>
    obtain ⟨k, hk, rfl, rfl, rfl, hl⟩ := hrel
    obtain ⟨D1, t2, hc, hdd, ht1, ht2, hkp⟩ := hl.ex
    have hks : k < s.size := by omega
    have hki : (k : Int) < (s.size : Int) := by omega
    have gk : ((s[k]'hks).toNat : Int) = bt s k := HG.out k hks
    have c800 := hc.nd
    have f800 := hc.fz 800 (by omega)
    by_cases hlt : k < a
    · by_cases hk1 : k = 1
      · subst hk1
        rw [HPT.out] at gk
        have c801 := hc.dp
        have f801 := hc.fz 801 (by omega)
        have HN : Hid (SetL w (wr.setCell ⟨b, 801, none⟩ (.int .i64 1)) b s 1 1) := ⟨D1, t2, hc.put_dp 1, hdd, ht1, ht2, hkp.setCell (.inl (by simp)) _⟩
        have c8 : wr.cell? ⟨b, 800, none⟩ = some (.int .i64 1) := c800
        clear hl hc hdd ht1 ht2 hkp c800
        go_wp2
        go_roundw
        case rel => exact ⟨2, by omega, by go_num, rfl, rfl, HN.out⟩
        case measure => simp [intOf]; omega
      · obtain ⟨c, hcc⟩ : ∃ c, cntD k = c := ⟨_, rfl⟩
        have hkk : posD c = k ∧ cntD (k + 1) = c + 1 ∧ c ≤ k ∧ k ≤ c + 1 := by
          rw [← hcc]
          by_cases h0 : k = 0
          · subst h0; refine ⟨rfl, rfl, Nat.le_refl _, Nat.zero_le _⟩
          · have e1 : cntD k = k - 1 := by unfold cntD; rw [if_neg (by omega)]
            have e2 : cntD (k + 1) = k := by unfold cntD; rw [if_neg (by omega)]; omega
            rw [e1, e2]
            refine ⟨?_, by omega, by omega, by omega⟩
            unfold posD; rw [if_neg (by omega)]; omega
        rw [hcc] at hc hdd ht1 ht2 c800
        obtain ⟨dpk, hdpk⟩ : ∃ dpk : Int, (if k ≤ 1 then (0 : Int) else 1) = dpk := ⟨_, rfl⟩
        have hdp2 : (if k + 1 ≤ 1 then (0 : Int) else 1) = dpk ∨ k = 0 := by
          by_cases h0 : k = 0
          · exact .inr h0
          · left; rw [← hdpk, if_neg (by omega), if_neg (by omega)]
        have hdp3 : (if k + 1 ≤ 1 then (0 : Int) else 1) = dpk := by
          rcases hdp2 with h | h
          · exact h
          · subst h; exact hdpk
        rw [hdpk] at hc
        have hby : 48 ≤ bt s k ∧ bt s k ≤ 57 ∧ (c = 0 → bt s k ≠ 48) := by
          by_cases h0 : k = 0
          · subst h0; have := HD0.out; exact ⟨by omega, by omega, fun _ => by omega⟩
          · have := HDG.out k (by omega) hlt
            exact ⟨this.1, this.2, fun h => by omega⟩
        obtain ⟨y1, y2, y3⟩ := hby
        have HPK : Hid (bt s k = bt s (posD c) ∧ cntD (k + 1) = c + 1 ∧ (if k + 1 ≤ 1 then (0 : Int) else 1) = dpk) := ⟨by rw [hkk.1], hkk.2.1, hdp3⟩
        have HDC : Hid (DecC wr b D1 (min c 800 : Nat) dpk t2 ∧ (∀ j, j < min c 800 → D1 j = bt s (posD j)) ∧ ((∀ j, 800 ≤ j → j < c → bt s (posD j) = 48) → t2 = false) ∧ (∀ j, 800 ≤ j → j < c → bt s (posD j) ≠ 48 → t2 = true) ∧ Keep [b] w wr) := ⟨hc, hdd, ht1, ht2, hkp⟩
        have HDEC : Hid (decide (2 ≤ k + 1) = decide (2 ≤ k) ∨ k = 0 ∧ decide (2 ≤ k + 1) = decide (2 ≤ k)) := by
          left
          by_cases h0 : 2 ≤ k
          · rw [decide_eq_true h0, decide_eq_true (by omega)]
          · rw [decide_eq_false h0, decide_eq_false (by omega)]
        have HSW : Hid (decide (2 ≤ k + 1) = decide (2 ≤ k)) := by
          rcases HDEC.out with h | h
          · exact h
          · exact h.2
        obtain ⟨sw, hsw⟩ : ∃ sw, decide (2 ≤ k) = sw := ⟨_, rfl⟩
        obtain ⟨sg, hsg⟩ : ∃ sg, decide (1 ≤ k) = sg := ⟨_, rfl⟩
        rw [hsw] at HSW
        rw [hsw, hsg]
        clear hl hc hdd ht1 ht2 hkp hsw hsg hdpk hdp2 hdp3 hkk HDEC hk1
        by_cases hc8 : c < 800
        · rw [show min c 800 = c by omega] at c800
          have c3 := HDC.out.1.dg c hc8
          have f3 := HDC.out.1.fz c (by omega)
          have HF : Hid (∀ w2, w2 = ((wr.setCell ⟨b, c, none⟩ (.int .u8 (bt s k))).setCell ⟨b, 800, none⟩ (.int .i64 ((c : Int) + 1))).drew → SetL w w2 b s (c + 1) dpk) := fun w2 hw2 => SetL.low hc8 D1 t2 HDC.out.1 HDC.out.2.1 HDC.out.2.2.1 HDC.out.2.2.2.2 w2 _ HPK.out.1 hw2
          by_cases h48 : bt s k = 48
          · have hc0 : ((c : Int) == 0) = false := by
              have : c ≠ 0 := fun h => y3 h h48
              simp; omega
            rw [h48] at gk HF
            clear y1 y2 y3 h48
            go_wp2
            go_region
            all_goals go_wp2
            go_roundw
            case rel => exact ⟨k + 1, by omega, by go_num, by rw [HSW.out], by simp, by rw [HPK.out.2.1, HPK.out.2.2]; exact HF.out _ rfl⟩
            case measure => simp [intOf]; omega
          · have h48b : (bt s k == 48) = false := by simpa using h48
            generalize bt s k = cc at *
            clear y3 h48
            go_wp2
            go_region
            all_goals go_wp2
            go_roundw
            case rel => exact ⟨k + 1, by omega, by go_num, by rw [HSW.out], by simp, by rw [HPK.out.2.1, HPK.out.2.2]; exact HF.out _ rfl⟩
            case measure => simp [intOf]; omega
        · rw [show min c 800 = 800 by omega] at c800
          have c803 := HDC.out.1.tr
          have f803 := HDC.out.1.fz 803 (by omega)
          have c8 : wr.cell? ⟨b, 800, none⟩ = some (.int .i64 800) := c800
          have HF : Hid _ := SetL.high (by omega) D1 t2 HDC.out.1 HDC.out.2.1 HDC.out.2.2.1 HDC.out.2.2.2.1 HDC.out.2.2.2.2
          clear c800
          by_cases h48 : bt s k = 48
          · have H48 : Hid (bt s (posD c) = 48) := by show _ = _; rw [← HPK.out.1, h48]
            rw [h48] at gk
            clear y1 y2 y3 h48
            go_wp2
            go_roundw
            case rel => exact ⟨k + 1, by omega, by go_num, by rw [HSW.out], by simp, by rw [HPK.out.2.1, HPK.out.2.2]; exact HF.out.1 H48.out⟩
            case measure => simp [intOf]; omega
          · have H48 : Hid (bt s (posD c) ≠ 48) := by show _ ≠ _; rw [← HPK.out.1]; exact h48
            have h48b : (bt s k == 48) = false := by simpa using h48
            generalize bt s k = cc at *
            clear y3 h48
            go_wp2
            go_roundw
            case rel => exact ⟨k + 1, by omega, by go_num, by rw [HSW.out], by simp, by rw [HPK.out.2.1, HPK.out.2.2]; exact HF.out.2 H48.out⟩
            case measure => simp [intOf]; omega
    · obtain rfl : k = a := by omega
      rw [HEA.out] at gk
      have hL1 : cntD k = k - 1 := by unfold cntD; rw [if_neg (by omega)]
      rw [hL1, if_neg (by omega)] at hl
      have HL : Hid (SetL w wr b s (k - 1) 1) := hl
      have c801 : wr.cell? ⟨b, 801, none⟩ = some (.int .i64 1) := by
        have := hc.dp
        rwa [if_neg (by omega)] at this
      have f801 := hc.fz 801 (by omega)
      have hsw : decide (2 ≤ k) = true := decide_eq_true h2
      have hsg : decide (1 ≤ k) = true := decide_eq_true (by omega)
      rw [hsw, hsg]
      have hlow := fun w => lower_any 101 w
      rw [show bits .or .u8 101 32 = 101 by decide] at hlow
      have he1 : k + 1 < s.size := by omega
      have ge : ((s[k + 1]'he1).toNat : Int) = bt s (k + 1) := HG.out (k + 1) he1
      obtain ⟨u1, u2, _⟩ := HE.out (k + 1) (Nat.le_refl _) he1
      have s1 : (bt s (k + 1) == 43) = false := by simp; omega
      have s2 : (bt s (k + 1) == 45) = false := by simp; omega
      have s3 : (k : Int) + 1 < (s.size : Int) := by omega
      clear hl hc hdd ht1 ht2 hkp hL1 hsw hsg c800 f800
      go_wp2_with fail
      refine (hlow _).mono ?_
      rintro e9 w9 ⟨rfl, hw9⟩
      obtain rfl := hw9.symm
      clear hw9
      go_wp2
      clear ge u1 u2 s1 s2 s3 hlow
      go_loop [5, 9] (fun i e => ∃ x : Nat, k + 1 ≤ x ∧ x ≤ s.size ∧ i = .int .i64 (x : Nat) ∧ e = .int .i64 (E x)) (fun i _ => s.size - (intOf i).toNat)
      case atStart => exact ⟨k + 1, Nat.le_refl _, by omega, by go_num, by rw [HE0.out]⟩
      case round =>
        obtain ⟨x, hx1, hx2, rfl, rfl⟩ := hrel
        by_cases hxl : x < s.size
        · have hxi : (x : Int) < (s.size : Int) := by omega
          have gx : ((s[x]'hxl).toNat : Int) = bt s x := HG.out x hxl
          obtain ⟨u1, u2, u3, u4, u5⟩ := HE.out x hx1 hxl
          have H5 : Hid (E (x + 1) = E x * 10 + bt s x - 48) := u5
          clear u5
          generalize bt s x = c at *
          generalize E x = ex at *
          go_wp2
          go_round
          case rel => exact ⟨x + 1, by omega, by omega, by go_num, by rw [H5.out]⟩
          case measure => simp [intOf]; omega
        · obtain rfl : x = s.size := by omega
          obtain ⟨n1, n2⟩ := HEN.out
          have HR : Hid (SetL w (wr.setCell ⟨b, 801, none⟩ (.int .i64 (1 + E s.size))) b s (k - 1) (1 + E s.size)) := by
            obtain ⟨D3, t3, a1, a2, a3, a4, a5⟩ := HL.out.ex
            exact ⟨D3, t3, a1.put_dp _, a2, a3, a4, a5.setCell (.inl (by simp)) _⟩
          obtain ⟨ex, hex⟩ : ∃ ex, E s.size = ex := ⟨_, rfl⟩
          have HEX : Hid (E s.size = ex) := hex
          rw [hex] at n1 n2 HR
          rw [hex]
          clear hex
          go_wp2
          go_ret
          exact ⟨rfl, by rw [HEX.out]; exact HR.out⟩
end Go.Proofs.YtnljpbpphdhnpaaGreatDoor
