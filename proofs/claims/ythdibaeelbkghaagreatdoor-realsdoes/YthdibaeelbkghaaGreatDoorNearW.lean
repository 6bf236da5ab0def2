/- The document's Nearest. -/
import Derived.Test.YthdibaeelbkghaaGreatDoorNearM
import Derived.Test.YthdibaeelbkghaaGreatDoorRefF
namespace Go.Proofs.YthdibaeelbkghaaGreatDoor
open Go.RowKit Go.PlainAid

theorem at_le (n : Nat) (h : n ≤ 2139095040) (w : World) : Calls Tryz.prog 23 #[.int .u32 (n : Int)] w fun e w' => e = .returned (.tuple #[.int .u64 (atM n : Nat), .int .i64 (atE n)]) ∧ w' = w := by
  by_cases h1 : n < 2139095040
  · exact at_any n h1 w
  · obtain rfl : n = 2139095040 := by omega
    have hM : ((atM 2139095040 : Nat) : Int) = 8388608 := by decide
    have hE : atE 2139095040 = 105 := by decide
    rw [hM, hE]
    go_enter Tryz.func23, Tryz.ntmps23
    go_wp2
    go_ret2
    exact ⟨rfl, rfl⟩
theorem at_bounds (n : Nat) (h : n ≤ 2139095040) : atM n < 16777216 ∧ -149 ≤ atE n ∧ atE n ≤ 105 := by
  unfold atM atE
  split <;> omega

/-- n is the float below A over B, or the last one -/
def LowB (A B n : Nat) : Prop := n ≤ 2139095040 ∧ valN n * B ≤ A * 2 ^ 149 ∧ (n = 2139095040 ∨ A * 2 ^ 149 < valN (n + 1) * B)
def nearB (A B n : Nat) : Nat := if n = 2139095040 then n else if upB (2 * (A * 2 ^ 149)) ((valN n + valN (n + 1)) * B) n = true then n + 1 else n

/-- how the halving stands -/
def Hal (A B lo hi : Nat) : Prop := lo < hi ∧ hi ≤ 2139095041 ∧ valN lo * B ≤ A * 2 ^ 149 ∧ (hi = 2139095041 ∨ A * 2 ^ 149 < valN hi * B)

set_option maxRecDepth 1000000 in
set_option maxHeartbeats 3200000 in
theorem nearest_any (fa fb : Value) (A B K L : Nat) (w : World) (ha : Big w fa A K) (hb : Big w fb B L) (hK : K ≤ 3000) (hL : L ≤ 3000) :
    Calls Tryz.prog 24 #[.agg #[fa, fb]] w fun r w' => ∃ n, LowB A B n ∧ r = .returned (.int .u32 ((nearB A B n : Nat) : Int)) ∧ Keep [] w w' := by
  obtain ⟨ao, na, ca, rfl⟩ := ha.sl
  obtain ⟨bo, nb, cb, rfl⟩ := hb.sl
  have hAg : ∀ (n : Nat) (wr : World), n ≤ 2139095040 → Keep [] w wr → _ := fun n wr hn kw => against_any (.slice ao na ca) (.slice bo nb cb) A B K L (atM n) (atE n) wr (ha.keep kw (Off.nil _)) (hb.keep kw (Off.nil _)) hK hL (by have := at_bounds n hn; omega) (by have := at_bounds n hn; omega) (by have := at_bounds n hn; omega)
  have hAh : ∀ (n : Nat) (wr : World), n ≤ 2139095040 → Keep [] w wr → _ := fun n wr hn kw => against_any (.slice ao na ca) (.slice bo nb cb) A B K L (2 * atM n + 1) (atE n - 1) wr (ha.keep kw (Off.nil _)) (hb.keep kw (Off.nil _)) hK hL (by have := at_bounds n hn; omega) (by have := at_bounds n hn; omega) (by have := at_bounds n hn; omega)
  simp only [against_val] at hAg
  simp only [against_half] at hAh
  have HG : Hid _ := hAg
  have HH : Hid _ := hAh
  clear hAg hAh ha hb
  go_enter Tryz.func24, Tryz.ntmps24
  go_wp2
  go_loopw [3, 4] (fun lv hv wr => ∃ lo hi : Nat, lv = .int .u32 (lo : Int) ∧ hv = .int .u32 (hi : Int) ∧ Hid (Hal A B lo hi) ∧ Hid (wr.cell? ⟨w.heap.size, 0, none⟩ = some (.slice ao na ca) ∧ wr.cell? ⟨w.heap.size, 1, none⟩ = some (.slice bo nb cb) ∧ Keep [] w wr)) (fun lv hv _ => (intOf hv - intOf lv).toNat)
  case atStart => exact ⟨0, 2139095041, rfl, rfl, (⟨by decide, Nat.le_refl _, by rw [valN_zero]; simp, .inl rfl⟩ : Hal A B 0 2139095041), (⟨by simp, by simp, Keep.alloc1 w _⟩ : _ ∧ _ ∧ _)⟩
  case round =>
    obtain ⟨lo, hi, rfl, rfl, HI, HC⟩ := hrel
    have hlh : lo < hi := HI.out.1
    have hh1 : hi ≤ 2139095041 := HI.out.2.1
    have hc0 := HC.out.1
    have hc1 := HC.out.2.1
    by_cases hd : lo + 1 < hi
    · have hdi : 1 < (hi : Int) - lo := by omega
      obtain ⟨m, hmid⟩ : ∃ m : Nat, m = lo + (hi - lo) / 2 := ⟨_, rfl⟩
      have hmle : m ≤ 2139095040 := by omega
      have hAt := at_le m hmle
      have hmz : (m : Int) = (lo : Int) + ((hi : Int) - lo) / 2 := by omega
      have HZ : Hid ((m : Int) = (lo : Int) + ((hi : Int) - lo) / 2 ∧ lo < m ∧ m < hi) := ⟨hmz, by omega, by omega⟩
      have hag := HG.out m wr hmle HC.out.2.2
      rw [hmz] at hAt
      clear hmz hmid
      have hbd := at_bounds m hmle
      have hM0 : Hid (0 ≤ (atM m : Int) ∧ (atM m : Int) ≤ 16777216) := show 0 ≤ (atM m : Int) ∧ (atM m : Int) ≤ 16777216 by omega
      by_cases hc : valN m * B ≤ A * 2 ^ 149
      · have hge : (0 : Int) ≤ cmpI ((A * 2 ^ 149 : Nat) : Int) ((valN m * B : Nat) : Int) := by unfold cmpI; split; omega; split <;> omega
        have HJ : Hid (Hal A B m hi) := (⟨HZ.out.2.2, hh1, hc, HI.out.2.2.2⟩ : Hal A B m hi)
        clear hc
        generalize cmpI ((A * 2 ^ 149 : Nat) : Int) ((valN m * B : Nat) : Int) = z at *
        generalize ((atM m : Nat) : Int) = M at *
        generalize atE m = E at *
        go_wp2_with (first
          | (go_at_call 23; refine (hAt _).mono ?_; rintro e9 w9 ⟨rfl, hw9⟩; obtain rfl := hw9.symm)
          | (go_at_call 41; refine hag.mono ?_; rintro e9 w8 ⟨rfl, hk8⟩))
        have HC2 : Hid (w8.cell? ⟨w.heap.size, 0, none⟩ = some (.slice ao na ca) ∧ w8.cell? ⟨w.heap.size, 1, none⟩ = some (.slice bo nb cb) ∧ Keep [] w w8) := ⟨hk8.cell' HC.out.1 (by simp), hk8.cell' HC.out.2.1 (by simp), HC.out.2.2.trans' hk8⟩
        clear hk8
        go_roundw
        case rel => exact ⟨m, hi, by rw [HZ.out.1], rfl, HJ, HC2⟩
        case measure => have := HZ.out; simp only [intOf]; omega
      · have hge : ¬ (0 : Int) ≤ cmpI ((A * 2 ^ 149 : Nat) : Int) ((valN m * B : Nat) : Int) := by unfold cmpI; rw [if_pos (by omega)]; decide
        have HJ : Hid (Hal A B lo m) := (⟨HZ.out.2.1, by omega, HI.out.2.2.1, .inr (by omega)⟩ : Hal A B lo m)
        clear hc
        generalize cmpI ((A * 2 ^ 149 : Nat) : Int) ((valN m * B : Nat) : Int) = z at *
        generalize ((atM m : Nat) : Int) = M at *
        generalize atE m = E at *
        go_wp2_with (first
          | (go_at_call 23; refine (hAt _).mono ?_; rintro e9 w9 ⟨rfl, hw9⟩; obtain rfl := hw9.symm)
          | (go_at_call 41; refine hag.mono ?_; rintro e9 w8 ⟨rfl, hk8⟩))
        have HC2 : Hid (w8.cell? ⟨w.heap.size, 0, none⟩ = some (.slice ao na ca) ∧ w8.cell? ⟨w.heap.size, 1, none⟩ = some (.slice bo nb cb) ∧ Keep [] w w8) := ⟨hk8.cell' HC.out.1 (by simp), hk8.cell' HC.out.2.1 (by simp), HC.out.2.2.trans' hk8⟩
        clear hk8
        go_roundw
        case rel => exact ⟨lo, m, rfl, by rw [HZ.out.1], HJ, HC2⟩
        case measure => have := HZ.out; simp only [intOf]; omega
    · have hdi : ¬ 1 < (hi : Int) - lo := by omega
      have hhi : hi = lo + 1 := by omega
      have HLow : Hid (LowB A B lo) := (⟨by omega, HI.out.2.2.1, by
        rcases HI.out.2.2.2 with h | h
        · exact .inl (by omega)
        · exact .inr (by rw [← hhi]; exact h)⟩ : LowB A B lo)
      clear HI HG hd
      by_cases ho : lo = 2139095040
      · have HN : Hid (nearB A B lo = lo) := show nearB A B lo = lo by unfold nearB; rw [if_pos ho]
        have t0 : ((lo : Int) == 2139095040) = true := by simp; omega
        clear HH hhi ho
        go_wp2
        go_ret
        exact ⟨lo, HLow.out, by rw [HN.out]; rfl, HC.out.2.2⟩
      · have hlo : lo ≤ 2139095040 := HLow.out.1
        have hAt := at_le lo hlo
        have hah := HH.out lo wr hlo HC.out.2.2
        rw [show ((2 * atM lo + 1 : Nat) : Int) = 2 * ((atM lo : Nat) : Int) + 1 by omega] at hah
        have hbd := at_bounds lo hlo
        have t0 : ((lo : Int) == 2139095040) = false := by simp; omega
        have hM0 : (0 : Int) ≤ ((atM lo : Nat) : Int) ∧ ((atM lo : Nat) : Int) < 16777216 := by omega
        have hE0 : -149 ≤ atE lo ∧ atE lo ≤ 105 := hbd.2
        have hln : (lo : Int) ≤ 2139095039 := by omega
        clear HH hhi hbd
        have hnear : nearB A B lo = if upB (2 * (A * 2 ^ 149)) ((valN lo + valN (lo + 1)) * B) lo = true then lo + 1 else lo := by unfold nearB; rw [if_neg ho]
        unfold upB at hnear
        generalize hS : (valN lo + valN (lo + 1)) * B = S at hnear hah
        generalize hV2 : 2 * (A * 2 ^ 149) = V2 at hnear hah
        have HS : Hid ((valN lo + valN (lo + 1)) * B = S ∧ 2 * (A * 2 ^ 149) = V2) := ⟨hS, hV2⟩
        clear hS hV2
        generalize ((atM lo : Nat) : Int) = M at *
        generalize atE lo = E at *
        obtain ⟨hM1, hM2⟩ := hM0
        obtain ⟨hE1, hE2⟩ := hE0
        rcases Nat.lt_trichotomy S V2 with c1 | c1 | c1
        · have hz : cmpI (V2 : Nat) (S : Nat) = 1 := by unfold cmpI; rw [if_neg (by omega), if_pos (by omega)]
          rw [hz] at hah
          have HN : Hid (((nearB A B lo : Nat) : Int) = (lo : Int) + 1) := show ((nearB A B lo : Nat) : Int) = (lo : Int) + 1 by rw [hnear, decide_eq_true c1, Bool.true_or, if_pos rfl]; omega
          clear hnear hz c1 ho
          go_wp2_with (first
            | (go_at_call 23; refine (hAt _).mono ?_; rintro e9 w9 ⟨rfl, hw9⟩; obtain rfl := hw9.symm)
            | (go_at_call 41; refine hah.mono ?_; rintro e9 w8 ⟨rfl, hk8⟩))
          go_ret
          refine ⟨lo, HLow.out, ?_, HC.out.2.2.trans' hk8⟩
          rw [HN.out]
          rfl
        · have hz : cmpI (V2 : Nat) (S : Nat) = 0 := by unfold cmpI; rw [if_neg (by omega), if_neg (by omega)]
          rw [hz] at hah
          by_cases hp : lo % 2 = 1
          · have HN : Hid (((nearB A B lo : Nat) : Int) = (lo : Int) + 1) := show ((nearB A B lo : Nat) : Int) = (lo : Int) + 1 by rw [hnear, decide_eq_true c1.symm, decide_eq_true hp, Bool.and_true, Bool.or_true, if_pos rfl]; omega
            have t1 : ((lo : Int) % 2 == 1) = true := by simp; omega
            clear hnear hz c1 ho
            go_wp2_with (first
              | (go_at_call 23; refine (hAt _).mono ?_; rintro e9 w9 ⟨rfl, hw9⟩; obtain rfl := hw9.symm)
              | (go_at_call 41; refine hah.mono ?_; rintro e9 w8 ⟨rfl, hk8⟩))
            go_ret
            refine ⟨lo, HLow.out, ?_, HC.out.2.2.trans' hk8⟩
            rw [HN.out]
            rfl
          · have HN : Hid (((nearB A B lo : Nat) : Int) = (lo : Int)) := show ((nearB A B lo : Nat) : Int) = (lo : Int) by rw [hnear, decide_eq_false hp, Bool.and_false, Bool.or_false, decide_eq_false (show ¬ S < V2 by omega), if_neg (by decide)]
            have t1 : ((lo : Int) % 2 == 1) = false := by simp; omega
            clear hnear hz c1 ho
            go_wp2_with (first
              | (go_at_call 23; refine (hAt _).mono ?_; rintro e9 w9 ⟨rfl, hw9⟩; obtain rfl := hw9.symm)
              | (go_at_call 41; refine hah.mono ?_; rintro e9 w8 ⟨rfl, hk8⟩))
            go_ret
            refine ⟨lo, HLow.out, ?_, HC.out.2.2.trans' hk8⟩
            rw [HN.out]
            rfl
        · have hz : cmpI (V2 : Nat) (S : Nat) = -1 := by unfold cmpI; rw [if_pos (by omega)]
          rw [hz] at hah
          have HN : Hid (((nearB A B lo : Nat) : Int) = (lo : Int)) := show ((nearB A B lo : Nat) : Int) = (lo : Int) by rw [hnear, decide_eq_false (show ¬ S < V2 by omega), decide_eq_false (show ¬ V2 = S by omega), Bool.false_and, Bool.or_false, if_neg (by decide)]
          clear hnear hz c1 ho
          go_wp2_with (first
            | (go_at_call 23; refine (hAt _).mono ?_; rintro e9 w9 ⟨rfl, hw9⟩; obtain rfl := hw9.symm)
            | (go_at_call 41; refine hah.mono ?_; rintro e9 w8 ⟨rfl, hk8⟩))
          go_ret
          refine ⟨lo, HLow.out, ?_, HC.out.2.2.trans' hk8⟩
          rw [HN.out]
          rfl

/-- beside a whole number -/
theorem nearest_whole (fa fb : Value) (A K L : Nat) (w : World) (ha : Big w fa A K) (hb : Big w fb 1 L) (hK : K ≤ 3000) (hL : L ≤ 3000) :
    Calls Tryz.prog 24 #[.agg #[fa, fb]] w fun r w' => r = .returned (.int .u32 ((rndR (A * 2 ^ 149) : Nat) : Int)) ∧ Keep [] w w' := by
  refine (nearest_any fa fb A 1 K L w ha hb hK hL).mono ?_
  rintro e w' ⟨n, hl, he, hk⟩
  refine ⟨?_, hk⟩
  rw [he]
  have h1 : nearB A 1 n = nearN (A * 2 ^ 149) n := by unfold nearB nearN; rw [Nat.mul_one]
  have h2 : Low (A * 2 ^ 149) n := by
    unfold LowB at hl
    rw [Nat.mul_one, Nat.mul_one] at hl
    exact hl
  rw [h1, near_rnd _ _ h2]
end Go.Proofs.YthdibaeelbkghaaGreatDoor

