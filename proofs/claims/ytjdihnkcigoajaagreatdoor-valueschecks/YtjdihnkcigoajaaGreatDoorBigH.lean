/- The document's Nearest. -/
import Derived.Test.YtjdihnkcigoajaaGreatDoorNgP
import Derived.Test.YtjdihnkcigoajaaGreatDoorQuI

namespace Go.Proofs.YtjdihnkcigoajaaGreatDoor
open Go.RowKit Go.PlainAid

theorem at_le (n : Nat) (h : n ≤ 2139095040) (w : World) : Calls Tryz.prog 71 #[.int .u32 (n : Int)] w fun e w' => e = .returned (.tuple #[.int .u64 (atM n : Nat), .int .i64 (atE n)]) ∧ w' = w := by
  by_cases h1 : n < 2139095040
  · exact at_any n h1 w
  · obtain rfl : n = 2139095040 := by omega
    have hM : ((atM 2139095040 : Nat) : Int) = 8388608 := by decide
    have hE : atE 2139095040 = 105 := by decide
    rw [hM, hE]
    go_enter Tryz.func71, Tryz.ntmps71
    go_wp2
    go_ret2
    exact ⟨rfl, rfl⟩
theorem at_bounds (n : Nat) (h : n ≤ 2139095040) : atM n < 16777216 ∧ -149 ≤ atE n ∧ atE n ≤ 105 := by
  unfold atM atE
  split <;> omega

/-- n is the float below A over B, or the last one -/
def LowB (A B n : Nat) : Prop := n ≤ 2139095040 ∧ valN n * B ≤ A * 2 ^ 149 ∧ (n = 2139095040 ∨ A * 2 ^ 149 < valN (n + 1) * B)
def nearB (A B n : Nat) : Nat := if n = 2139095040 then n else if upB (2 * (A * 2 ^ 149)) ((valN n + valN (n + 1)) * B) n = true then n + 1 else n

/-- how the halving stands -/
def Hal (A B lo hi : Nat) : Prop := lo < hi ∧ hi ≤ 2139095041 ∧ valN lo * B ≤ A * 2 ^ 149 ∧ (hi = 2139095041 ∨ A * 2 ^ 149 < valN hi * B)

set_option maxRecDepth 1000000 in
set_option maxHeartbeats 3200000 in
theorem nearest_any (fa fb : Value) (A B K L : Nat) (w : World) (ha : Big w fa A K) (hb : Big w fb B L) (hK : K ≤ 3000) (hL : L ≤ 3000) :
    Calls Tryz.prog 75 #[.agg #[fa, fb]] w fun r w' => ∃ n, LowB A B n ∧ r = .returned (.int .u32 ((nearB A B n : Nat) : Int)) ∧ Keep [] w w' := by
  obtain ⟨ao, na, ca, rfl⟩ := ha.sl
  obtain ⟨bo, nb, cb, rfl⟩ := hb.sl
  have hAg : ∀ (n : Nat) (wr : World), n ≤ 2139095040 → Keep [] w wr → _ := fun n wr hn kw => against_any (.slice ao na ca) (.slice bo nb cb) A B K L (atM n) (atE n) wr (ha.keep kw (Off.nil _)) (hb.keep kw (Off.nil _)) hK hL (by have := at_bounds n hn; omega) (by have := at_bounds n hn; omega) (by have := at_bounds n hn; omega)
  have hAh : ∀ (n : Nat) (wr : World), n ≤ 2139095040 → Keep [] w wr → _ := fun n wr hn kw => against_any (.slice ao na ca) (.slice bo nb cb) A B K L (2 * atM n + 1) (atE n - 1) wr (ha.keep kw (Off.nil _)) (hb.keep kw (Off.nil _)) hK hL (by have := at_bounds n hn; omega) (by have := at_bounds n hn; omega) (by have := at_bounds n hn; omega)
  simp only [against_val] at hAg
  simp only [against_half] at hAh
  have HG : Hid _ := hAg
  have HH : Hid _ := hAh
  clear hAg hAh ha hb
  go_enter Tryz.func75, Tryz.ntmps75
  go_wp2
  go_loopw [3, 4] (fun lv hv wr => ∃ lo hi : Nat, lv = .int .u32 (lo : Int) ∧ hv = .int .u32 (hi : Int) ∧ Hid (Hal A B lo hi) ∧ Hid (wr.cell? ⟨w.heap.size, 0, none⟩ = some (.slice ao na ca) ∧ wr.cell? ⟨w.heap.size, 1, none⟩ = some (.slice bo nb cb) ∧ Keep [] w wr)) (fun lv hv _ => (intOf hv - intOf lv).toNat)
  case atStart => exact ⟨0, 2139095041, rfl, rfl, (⟨by decide, Nat.le_refl _, by rw [valN_zero]; simp, .inl rfl⟩ : Hal A B 0 2139095041), (⟨by simp, by simp, Keep.alloc1 w _⟩ : _ ∧ _ ∧ _)⟩
  case round =>
    obtain ⟨lo, hi, rfl, rfl, HI, HC⟩ := hrel
    have hlh : lo < hi := HI.out.1
    have hh1 : hi ≤ 2139095041 := HI.out.2.1
    have hc0 := HC.out.1
    have hc1 := HC.out.2.1
    by_cases hd : lo + 1 < hi
    · have hdi : 1 < (hi : Int) - lo := by omega
      obtain ⟨m, hmid⟩ : ∃ m : Nat, m = lo + (hi - lo) / 2 := ⟨_, rfl⟩
      have hmle : m ≤ 2139095040 := by omega
      have hAt := at_le m hmle
      have hmz : (m : Int) = (lo : Int) + ((hi : Int) - lo) / 2 := by omega
      have HZ : Hid ((m : Int) = (lo : Int) + ((hi : Int) - lo) / 2 ∧ lo < m ∧ m < hi) := ⟨hmz, by omega, by omega⟩
      have hag := HG.out m wr hmle HC.out.2.2
      rw [hmz] at hAt
      clear hmz hmid
      have hbd := at_bounds m hmle
      have hM0 : Hid (0 ≤ (atM m : Int) ∧ (atM m : Int) ≤ 16777216) := show 0 ≤ (atM m : Int) ∧ (atM m : Int) ≤ 16777216 by omega
      by_cases hc : valN m * B ≤ A * 2 ^ 149
      · have hge : (0 : Int) ≤ cmpI ((A * 2 ^ 149 : Nat) : Int) ((valN m * B : Nat) : Int) := by unfold cmpI; split; omega; split <;> omega
        have HJ : Hid (Hal A B m hi) := (⟨HZ.out.2.2, hh1, hc, HI.out.2.2.2⟩ : Hal A B m hi)
        clear hc
        generalize cmpI ((A * 2 ^ 149 : Nat) : Int) ((valN m * B : Nat) : Int) = z at *
        generalize ((atM m : Nat) : Int) = M at *
        generalize atE m = E at *
        go_wp2_with (first
          | (go_at_call 71; refine (hAt _).mono ?_; rintro e9 w9 ⟨rfl, hw9⟩; obtain rfl := hw9.symm)
          | (go_at_call 72; refine hag.mono ?_; rintro e9 w8 ⟨rfl, hk8⟩))
        have HC2 : Hid (w8.cell? ⟨w.heap.size, 0, none⟩ = some (.slice ao na ca) ∧ w8.cell? ⟨w.heap.size, 1, none⟩ = some (.slice bo nb cb) ∧ Keep [] w w8) := ⟨hk8.cell' HC.out.1 (by simp), hk8.cell' HC.out.2.1 (by simp), HC.out.2.2.trans' hk8⟩
        clear hk8
        go_roundw
        case rel => exact ⟨m, hi, by rw [HZ.out.1], rfl, HJ, HC2⟩
        case measure => have := HZ.out; simp only [intOf]; omega
      · have hge : ¬ (0 : Int) ≤ cmpI ((A * 2 ^ 149 : Nat) : Int) ((valN m * B : Nat) : Int) := by unfold cmpI; rw [if_pos (by omega)]; decide
        have HJ : Hid (Hal A B lo m) := (⟨HZ.out.2.1, by omega, HI.out.2.2.1, .inr (by omega)⟩ : Hal A B lo m)
        clear hc
        generalize cmpI ((A * 2 ^ 149 : Nat) : Int) ((valN m * B : Nat) : Int) = z at *
        generalize ((atM m : Nat) : Int) = M at *
        generalize atE m = E at *
        go_wp2_with (first
          | (go_at_call 71; refine (hAt _).mono ?_; rintro e9 w9 ⟨rfl, hw9⟩; obtain rfl := hw9.symm)
          | (go_at_call 72; refine hag.mono ?_; rintro e9 w8 ⟨rfl, hk8⟩))
        have HC2 : Hid (w8.cell? ⟨w.heap.size, 0, none⟩ = some (.slice ao na ca) ∧ w8.cell? ⟨w.heap.size, 1, none⟩ = some (.slice bo nb cb) ∧ Keep [] w w8) := ⟨hk8.cell' HC.out.1 (by simp), hk8.cell' HC.out.2.1 (by simp), HC.out.2.2.trans' hk8⟩
        clear hk8
        go_roundw
        case rel => exact ⟨lo, m, rfl, by rw [HZ.out.1], HJ, HC2⟩
        case measure => have := HZ.out; simp only [intOf]; omega
    · have hdi : ¬ 1 < (hi : Int) - lo := by omega
      have hhi : hi = lo + 1 := by omega
      have HLow : Hid (LowB A B lo) := (⟨by omega, HI.out.2.2.1, by
        rcases HI.out.2.2.2 with h | h
        · exact .inl (by omega)
        · exact .inr (by rw [← hhi]; exact h)⟩ : LowB A B lo)
      clear HI HG hd
      by_cases ho : lo = 2139095040
      · have HN : Hid (nearB A B lo = lo) := show nearB A B lo = lo by unfold nearB; rw [if_pos ho]
        have t0 : ((lo : Int) == 2139095040) = true := by simp; omega
        clear HH hhi ho
        go_wp2
        go_ret
        exact ⟨lo, HLow.out, by rw [HN.out]; rfl, HC.out.2.2⟩
      · have hlo : lo ≤ 2139095040 := HLow.out.1
        have hAt := at_le lo hlo
        have hah := HH.out lo wr hlo HC.out.2.2
        rw [show ((2 * atM lo + 1 : Nat) : Int) = 2 * ((atM lo : Nat) : Int) + 1 by omega] at hah
        have hbd := at_bounds lo hlo
        have t0 : ((lo : Int) == 2139095040) = false := by simp; omega
        have hM0 : (0 : Int) ≤ ((atM lo : Nat) : Int) ∧ ((atM lo : Nat) : Int) < 16777216 := by omega
        have hE0 : -149 ≤ atE lo ∧ atE lo ≤ 105 := hbd.2
        have hln : (lo : Int) ≤ 2139095039 := by omega
        clear HH hhi hbd
        have hnear : nearB A B lo = if upB (2 * (A * 2 ^ 149)) ((valN lo + valN (lo + 1)) * B) lo = true then lo + 1 else lo := by unfold nearB; rw [if_neg ho]
        unfold upB at hnear
        generalize hS : (valN lo + valN (lo + 1)) * B = S at hnear hah
        generalize hV2 : 2 * (A * 2 ^ 149) = V2 at hnear hah
        have HS : Hid ((valN lo + valN (lo + 1)) * B = S ∧ 2 * (A * 2 ^ 149) = V2) := ⟨hS, hV2⟩
        clear hS hV2
        generalize ((atM lo : Nat) : Int) = M at *
        generalize atE lo = E at *
        obtain ⟨hM1, hM2⟩ := hM0
        obtain ⟨hE1, hE2⟩ := hE0
        rcases Nat.lt_trichotomy S V2 with c1 | c1 | c1
        · have hz : cmpI (V2 : Nat) (S : Nat) = 1 := by unfold cmpI; rw [if_neg (by omega), if_pos (by omega)]
          rw [hz] at hah
          have HN : Hid (((nearB A B lo : Nat) : Int) = (lo : Int) + 1) := show ((nearB A B lo : Nat) : Int) = (lo : Int) + 1 by rw [hnear, decide_eq_true c1, Bool.true_or, if_pos rfl]; omega
          clear hnear hz c1 ho
          go_wp2_with (first
            | (go_at_call 71; refine (hAt _).mono ?_; rintro e9 w9 ⟨rfl, hw9⟩; obtain rfl := hw9.symm)
            | (go_at_call 72; refine hah.mono ?_; rintro e9 w8 ⟨rfl, hk8⟩))
          go_ret
          refine ⟨lo, HLow.out, ?_, HC.out.2.2.trans' hk8⟩
          rw [HN.out]
          rfl
        · have hz : cmpI (V2 : Nat) (S : Nat) = 0 := by unfold cmpI; rw [if_neg (by omega), if_neg (by omega)]
          rw [hz] at hah
          by_cases hp : lo % 2 = 1
          · have HN : Hid (((nearB A B lo : Nat) : Int) = (lo : Int) + 1) := show ((nearB A B lo : Nat) : Int) = (lo : Int) + 1 by rw [hnear, decide_eq_true c1.symm, decide_eq_true hp, Bool.and_true, Bool.or_true, if_pos rfl]; omega
            have t1 : ((lo : Int) % 2 == 1) = true := by simp; omega
            clear hnear hz c1 ho
            go_wp2_with (first
              | (go_at_call 71; refine (hAt _).mono ?_; rintro e9 w9 ⟨rfl, hw9⟩; obtain rfl := hw9.symm)
              | (go_at_call 72; refine hah.mono ?_; rintro e9 w8 ⟨rfl, hk8⟩))
            go_ret
            refine ⟨lo, HLow.out, ?_, HC.out.2.2.trans' hk8⟩
            rw [HN.out]
            rfl
          · have HN : Hid (((nearB A B lo : Nat) : Int) = (lo : Int)) := show ((nearB A B lo : Nat) : Int) = (lo : Int) by rw [hnear, decide_eq_false hp, Bool.and_false, Bool.or_false, decide_eq_false (show ¬ S < V2 by omega), if_neg (by decide)]
            have t1 : ((lo : Int) % 2 == 1) = false := by simp; omega
            clear hnear hz c1 ho
            go_wp2_with (first
              | (go_at_call 71; refine (hAt _).mono ?_; rintro e9 w9 ⟨rfl, hw9⟩; obtain rfl := hw9.symm)
              | (go_at_call 72; refine hah.mono ?_; rintro e9 w8 ⟨rfl, hk8⟩))
            go_ret
            refine ⟨lo, HLow.out, ?_, HC.out.2.2.trans' hk8⟩
            rw [HN.out]
            rfl
        · have hz : cmpI (V2 : Nat) (S : Nat) = -1 := by unfold cmpI; rw [if_pos (by omega)]
          rw [hz] at hah
          have HN : Hid (((nearB A B lo : Nat) : Int) = (lo : Int)) := show ((nearB A B lo : Nat) : Int) = (lo : Int) by rw [hnear, decide_eq_false (show ¬ S < V2 by omega), decide_eq_false (show ¬ V2 = S by omega), Bool.false_and, Bool.or_false, if_neg (by decide)]
          clear hnear hz c1 ho
          go_wp2_with (first
            | (go_at_call 71; refine (hAt _).mono ?_; rintro e9 w9 ⟨rfl, hw9⟩; obtain rfl := hw9.symm)
            | (go_at_call 72; refine hah.mono ?_; rintro e9 w8 ⟨rfl, hk8⟩))
          go_ret
          refine ⟨lo, HLow.out, ?_, HC.out.2.2.trans' hk8⟩
          rw [HN.out]
          rfl

/-- beside a whole number -/
theorem nearest_whole (fa fb : Value) (A K L : Nat) (w : World) (ha : Big w fa A K) (hb : Big w fb 1 L) (hK : K ≤ 3000) (hL : L ≤ 3000) :
    Calls Tryz.prog 75 #[.agg #[fa, fb]] w fun r w' => r = .returned (.int .u32 ((rndR (A * 2 ^ 149) : Nat) : Int)) ∧ Keep [] w w' := by
  refine (nearest_any fa fb A 1 K L w ha hb hK hL).mono ?_
  rintro e w' ⟨n, hl, he, hk⟩
  refine ⟨?_, hk⟩
  rw [he]
  have h1 : nearB A 1 n = nearN (A * 2 ^ 149) n := by unfold nearB nearN; rw [Nat.mul_one]
  have h2 : Low (A * 2 ^ 149) n := by
    unfold LowB at hl
    rw [Nat.mul_one, Nat.mul_one] at hl
    exact hl
  rw [h1, near_rnd _ _ h2]
end Go.Proofs.YtjdihnkcigoajaaGreatDoor



/- The document's neighbours, in whole units. -/
namespace Go.Proofs.YtjdihnkcigoajaaGreatDoor

theorem wN_lt {a b : Nat} : wN a < wN b ↔ a < b := by
  unfold wN
  rw [Nat.mul_lt_mul_right (show 0 < Q60 by unfold Q60; exact Nat.pow_pos (by decide)), valN_iff]
theorem Q60_pos : 0 < Q60 := by unfold Q60; exact Nat.pow_pos (by decide)
theorem l2_eq (n : Nat) : l2N n = wN (n - 1) + wN n := by unfold l2N wN; rw [Nat.add_mul]
theorem h2_eq (n : Nat) : h2N n = wN n + wN (n + 1) := by unfold h2N wN; rw [Nat.add_mul]
/-- what is nearest, in these units -/
theorem near_C (n m c : Nat) (h1 : 1 ≤ n) (h2 : n < 2139095040) (hm : m ≤ 2139095040) (lo : wN m ≤ c) (hi : m = 2139095040 ∨ c < wN (m + 1)) :
    (if m = 2139095040 then m else if h2N m < 2 * c ∨ 2 * c = h2N m ∧ m % 2 = 1 then m + 1 else m) = n ↔ LiesI (l2N n) (h2N n) (n % 2) c := by
  unfold LiesI
  rw [l2_eq, h2_eq n]
  have s1 : wN n < wN (n + 1) := wN_lt.2 (by omega)
  have s0 : wN (n - 1) < wN n := wN_lt.2 (by omega)
  by_cases ht : m = 2139095040
  · rw [if_pos ht]
    subst ht
    have : wN (n + 1) ≤ wN 2139095040 := Nat.le_of_not_lt (fun g => by have := wN_lt.1 g; omega)
    constructor
    · intro e; omega
    · intro e; omega
  · rw [if_neg ht]
    have hi := hi.resolve_left ht
    rw [h2_eq m]
    rcases Nat.lt_or_ge n m with g | g
    · have g1 : wN (n + 1) ≤ wN m := Nat.le_of_not_lt (fun g => by have := wN_lt.1 g; omega)
      constructor
      · intro e
        split at e <;> omega
      · intro e
        omega
    · rcases Nat.lt_or_ge (m + 1) n with g2 | g2
      · have g1 : wN (m + 1) ≤ wN (n - 1) := Nat.le_of_not_lt (fun g => by have := wN_lt.1 g; omega)
        constructor
        · intro e
          split at e <;> omega
        · intro e
          omega
      · rcases Nat.lt_or_ge m n with g3 | g3
        · obtain rfl : n = m + 1 := by omega
          rw [Nat.add_sub_cancel] at *
          constructor
          · intro e
            split at e
            · omega
            · omega
          · intro e
            rw [if_pos (by omega)]
        · obtain rfl : n = m := by omega
          constructor
          · intro e
            split at e
            · omega
            · omega
          · intro e
            rw [if_neg (by omega)]
theorem near_iff (n A B m q P : Nat) (hB : 0 < B) (h1 : 1 ≤ n) (h2 : n < 2139095040) (hAB : A * Q60 = q * 10 ^ P * B) (hl : LowB A B m) : nearB A B m = n ↔ LiesI (l2N n) (h2N n) (n % 2) (q * tP P) := by
  obtain ⟨l1, l2, l3⟩ := hl
  have hQ := Q60_pos
  have e0 : A * 2 ^ 149 * Q60 = q * tP P * B := by
    unfold tP
    rw [show A * 2 ^ 149 * Q60 = A * Q60 * 2 ^ 149 by ac_rfl, hAB]
    ac_rfl
  have ew : ∀ k, valN k * B * Q60 = wN k * B := fun k => by unfold wN; ac_rfl
  have lo : wN m ≤ q * tP P := by
    have := Nat.mul_le_mul_right Q60 l2
    rw [e0, ew] at this
    exact Nat.le_of_mul_le_mul_right this hB
  have hi : m = 2139095040 ∨ q * tP P < wN (m + 1) := by
    rcases l3 with h | h
    · exact .inl h
    · right
      have := Nat.mul_lt_mul_of_pos_right h hQ
      rw [e0, ew] at this
      exact Nat.lt_of_mul_lt_mul_right this
  rw [← near_C n m (q * tP P) h1 h2 l1 lo hi]
  unfold nearB upB
  have eS : (valN m + valN (m + 1)) * B * Q60 = h2N m * B := by unfold h2N; ac_rfl
  have eV : 2 * (A * 2 ^ 149) * Q60 = 2 * (q * tP P) * B := by rw [Nat.mul_assoc 2, e0]; ac_rfl
  have c1 : (valN m + valN (m + 1)) * B < 2 * (A * 2 ^ 149) ↔ h2N m < 2 * (q * tP P) := by
    rw [← Nat.mul_lt_mul_right hQ, eS, eV, Nat.mul_lt_mul_right hB]
  have c2 : 2 * (A * 2 ^ 149) = (valN m + valN (m + 1)) * B ↔ 2 * (q * tP P) = h2N m := by
    constructor
    · intro h
      have : 2 * (A * 2 ^ 149) * Q60 = (valN m + valN (m + 1)) * B * Q60 := congrArg (· * Q60) h
      rw [eS, eV] at this
      exact Nat.eq_of_mul_eq_mul_right hB this
    · intro h
      have : 2 * (q * tP P) * B = h2N m * B := congrArg (· * B) h
      rw [← eS, ← eV] at this
      exact Nat.eq_of_mul_eq_mul_right hQ this
  simp only [Bool.or_eq_true, Bool.and_eq_true, decide_eq_true_eq, c1, c2]
theorem ten_scale (q P : Nat) (k : Int) (hk : k = (P : Int) - 60) : q * 10 ^ k.toNat * Q60 = q * 10 ^ P * 10 ^ (-k).toNat := by
  unfold Q60
  rw [Nat.mul_assoc, Nat.mul_assoc, ← Nat.pow_add, ← Nat.pow_add]
  congr 2
  omega
/-- how a number of tens stands to so many of a float's steps -/
theorem against_ten (n m q P : Nat) (k : Int) (hk : k = (P : Int) - 60) : cmpI ((q * 10 ^ k.toNat * 2 ^ (-(atE n)).toNat : Nat) : Int) ((m * 2 ^ (atE n).toNat * 10 ^ (-k).toNat : Nat) : Int) = cmpI ((q * tP P : Nat) : Int) ((m * ulp n * Q60 : Nat) : Int) := by
  have hE := at_lo n
  have hs : 0 < 2 ^ (149 - (-(atE n)).toNat) * Q60 := Nat.mul_pos (Nat.two_pow_pos _) Q60_pos
  have hB : 0 < 10 ^ (-k).toNat := Nat.pow_pos (by decide)
  rw [← cmp_scale _ _ _ hs, ← cmp_scale (q * tP P) _ _ hB]
  have e1 : (2 : Nat) ^ 149 = 2 ^ (-(atE n)).toNat * 2 ^ (149 - (-(atE n)).toNat) := by
    rw [← Nat.pow_add]
    congr 1
    omega
  have e2 : ulp n = 2 ^ (atE n).toNat * 2 ^ (149 - (-(atE n)).toNat) := by
    unfold ulp
    rw [← Nat.pow_add]
    congr 1
    omega
  have e3 := ten_scale q P k hk
  congr 2
  · unfold tP
    rw [e1, show q * 10 ^ k.toNat * 2 ^ (-(atE n)).toNat * (2 ^ (149 - (-(atE n)).toNat) * Q60) = q * 10 ^ k.toNat * Q60 * (2 ^ (-(atE n)).toNat * 2 ^ (149 - (-(atE n)).toNat)) by ac_rfl, e3]
    ac_rfl
  · rw [e2]
    ac_rfl
theorem against_w (n q P : Nat) (k : Int) (hk : k = (P : Int) - 60) : cmpI ((q * 10 ^ k.toNat * 2 ^ (-(atE n)).toNat : Nat) : Int) ((atM n * 2 ^ (atE n).toNat * 10 ^ (-k).toNat : Nat) : Int) = cmpI ((q * tP P : Nat) : Int) ((wN n : Nat) : Int) := by
  rw [against_ten n (atM n) q P k hk]
  unfold wN
  rw [val_ulp n]
theorem against_2w (n q P : Nat) (k : Int) (hk : k = (P : Int) - 60) : cmpI ((q * 10 ^ k.toNat * 2 ^ (-(atE n)).toNat : Nat) : Int) ((2 * atM n * 2 ^ (atE n).toNat * 10 ^ (-k).toNat : Nat) : Int) = cmpI ((q * tP P : Nat) : Int) ((2 * wN n : Nat) : Int) := by
  rw [against_ten n (2 * atM n) q P k hk]
  unfold wN
  rw [val_ulp n, Nat.mul_assoc 2, Nat.mul_assoc 2]
/-- where the document stands: s digits, the last at ten to the power P - 60, the first at K - 60 -/
structure FewI (n s P K : Nat) : Prop where
  pos : P + s = K + 1
  one : 1 ≤ s
  lo : tP K ≤ wN n
  hi : wN n < tP (K + 1)
  no : s = 1 ∨ ∀ x, ¬ LiesI (l2N n) (h2N n) (n % 2) (x * (10 * tP P))
theorem FewI.next {n s P K : Nat} (h1 : 1 ≤ n) (h2 : n < 2139095040) (h : FewI n s P K) (ha : ¬ LiesI (l2N n) (h2N n) (n % 2) (wN n / tP P * tP P)) (hb : ¬ LiesI (l2N n) (h2N n) (n % 2) ((wN n / tP P + 1) * tP P)) : 91 - jF n < P ∧ FewI n (s + 1) (P - 1) K := by
  obtain ⟨sp, _, _, hj⟩ := sp_of n h1 h2
  have hno : ∀ x, ¬ LiesI (l2N n) (h2N n) (n % 2) (x * tP P) := fun x hx => by
    rcases near_in _ _ _ _ _ x (tP_pos P) sp.ho sp.lo sp.hi hx with h | h
    · exact ha h
    · exact hb h
  have hP : 91 - jF n < P := by
    rcases Nat.lt_or_ge (91 - jF n) P with g | g
    · exact g
    · obtain ⟨x, hx⟩ := some_in n P h1 h2 g
      exact absurd hx (hno x)
  refine ⟨hP, by have := h.pos; omega, by omega, h.lo, h.hi, .inr ?_⟩
  have e : 10 * tP (P - 1) = tP P := by
    obtain ⟨r, rfl⟩ : ∃ r, P = r + 1 := ⟨P - 1, by omega⟩
    rw [Nat.add_sub_cancel, tP_add, Nat.pow_one]
  rw [e]
  exact hno
theorem ulp_le (n : Nat) (h1 : 1 ≤ n) (h2 : n < 2139095040) : wN n ≤ 16777216 * (ulp n * Q60) ∧ ulp n * Q60 ≤ h2N n - l2N n := by
  have hv := val_ulp n
  have hu := val_up n
  have hM := atM_lt n
  constructor
  · unfold wN
    rw [hv, Nat.mul_assoc]
    exact Nat.mul_le_mul_right _ (by omega)
  · rw [l2_eq, h2_eq]
    have s0 : wN (n - 1) < wN n := wN_lt.2 (by omega)
    have : wN (n + 1) = wN n + ulp n * Q60 := by unfold wN; rw [hu, Nat.add_mul]
    omega
theorem tP_lt {a b : Nat} (h : tP a < tP b) : a < b := by
  rcases Nat.lt_or_ge a b with g | g
  · exact g
  · exfalso
    obtain ⟨i, rfl⟩ : ∃ i, a = b + i := ⟨a - b, by omega⟩
    rw [tP_add] at h
    have : 1 * tP b ≤ 10 ^ i * tP b := Nat.mul_le_mul_right _ (Nat.one_le_pow _ _ (by decide))
    omega
theorem FewI.small {n s P K : Nat} (h1 : 1 ≤ n) (h2 : n < 2139095040) (h : FewI n s P K) : s ≤ 10 ∧ 91 - jF n ≤ P ∧ jF n ≤ 76 := by
  obtain ⟨sp, big, _, hj⟩ := sp_of n h1 h2
  have hp := h.pos
  have ho := h.one
  have hP : 91 - jF n ≤ P := by
    rcases h.no with g | g
    · have : tP (91 - jF n) < tP (K + 1) := Nat.lt_of_le_of_lt big h.hi
      have := tP_lt this
      omega
    · rcases Nat.lt_or_ge P (91 - jF n) with g2 | g2
      · exfalso
        obtain ⟨x, hx⟩ := some_in n (P + 1) h1 h2 (by omega)
        rw [tP_add, Nat.pow_one] at hx
        exact g x hx
      · exact g2
  refine ⟨?_, hP, hj⟩
  obtain ⟨u1, u2⟩ := ulp_le n h1 h2
  have ht := sp.thin
  have hlo := h.lo
  have : tP K < tP (91 - jF n + 9) := by
    rw [tP_add]
    have e : 10 ^ 9 * tP (91 - jF n) = 1000000000 * tP (91 - jF n) := by congr 1
    rw [e]
    omega
  have := tP_lt this
  omega
theorem K_small {n K : Nat} (h2 : n < 2139095040) (h : tP K ≤ wN n) : K ≤ 99 := by
  obtain ⟨a1, a2, _⟩ := at_facts2 n h2
  have hM := atM_lt n
  have : wN n < tP 100 := by
    unfold wN tP Q60
    rw [val_ulp]
    have hu : ulp n ≤ 2 ^ 253 := by unfold ulp; exact Nat.pow_le_pow_right (by decide) (by omega)
    have : atM n * ulp n ≤ 16777216 * 2 ^ 253 := Nat.mul_le_mul (by omega) hu
    exact Nat.lt_of_le_of_lt (Nat.mul_le_mul_right _ this) (by decide)
  have := tP_lt (Nat.lt_of_le_of_lt h this)
  omega
theorem K_start {n : Nat} (h1 : 1 ≤ n) : tP 0 ≤ wN n := by
  have : wN 0 < wN n := wN_lt.2 (by omega)
  have h : 1 ≤ valN n := valN_pos h1
  unfold wN tP Q60
  exact Nat.le_trans (by decide) (Nat.mul_le_mul_right (10 ^ 60) h)

end Go.Proofs.YtjdihnkcigoajaaGreatDoor


/- The document's powers of ten, and a number beside one. -/
namespace Go.Proofs.YtjdihnkcigoajaaGreatDoor
open Go.RowKit Go.PlainAid

set_option maxRecDepth 1000000 in
set_option maxHeartbeats 1600000 in
theorem powers_neg10 (v : Value) (k : Int) (hk : k ≤ 0) (w : World) : Calls Tryz.prog 93 #[v, .int .i64 10, .int .i64 k] w fun e w' => e = .returned v ∧ w' = w := by
  have h1 : ¬ (8 : Int) ≤ k := by omega
  have h2 : ¬ (0 : Int) < k := by omega
  go_enter Tryz.func93, Tryz.ntmps93
  go_wp2
  refine wp_loop_rounds 1 ?_
  rw [rounds_succ]
  go_wp2
  refine wp_loop_rounds 1 ?_
  rw [rounds_succ]
  go_wp2
  go_ret
  exact ⟨rfl, rfl⟩

structure PowT (w wr : World) (v nv : Value) (N K j : Nat) : Prop where
  big : Big wr nv (N * 10 ^ j) (K + j)
  own : nv = v ∨ Fresh w wr nv
  keep : Keep [] w wr

theorem PowT.next {w wr w1 : World} {v nv n1 : Value} {N K j : Nat} (h : PowT w wr v nv N K j) (d : Nat) (hd : 1 ≤ d) (g : Big w1 n1 (N * 10 ^ j * 10 ^ d) (K + j + 1) ∧ Fresh wr w1 n1) (k : Keep [] wr w1) : PowT w w1 v n1 N K (j + d) := by
  refine ⟨?_, .inr (g.2.earlier h.keep.size), h.keep.trans' k⟩
  rw [Nat.pow_add, ← Nat.mul_assoc]
  exact g.1.mono (by omega)

set_option maxRecDepth 1000000 in
set_option maxHeartbeats 3200000 in
theorem powers_ten (v : Value) (N K k : Nat) (w : World) (h : Big w v N K) (hK : K ≤ 1000) (hk : k ≤ 1000) :
    Calls Tryz.prog 93 #[v, .int .i64 10, .int .i64 (k : Int)] w fun e w' => ∃ v', e = .returned v' ∧ (Big w' v' (N * 10 ^ k) (K + k) ∧ (v' = v ∨ Fresh w w' v')) ∧ Keep [] w w' := by
  have H0 : Hid (Big w v N K) := h
  clear h
  go_enter Tryz.func93, Tryz.ntmps93
  go_wp2
  go_loopw [0, 2] (fun nv kv wr => ∃ m : Nat, kv = .int .i64 (m : Int) ∧ m ≤ k ∧ Hid (PowT w wr v nv N K (k - m))) (fun _ kv _ => (intOf kv).toNat)
  case atStart => exact ⟨k, rfl, Nat.le_refl _, (⟨by simpa using H0.out, .inl rfl, Keep.refl _ w⟩ : PowT w w v v N K (k - k))⟩
  case round =>
    obtain ⟨m, rfl, hm, HI⟩ := hrel
    by_cases h8 : 8 ≤ m
    · obtain ⟨j, rfl⟩ : ∃ j, m = j + 8 := ⟨m - 8, by omega⟩
      have hT := times_big u0 _ _ 100000000 wr HI.out.big (by omega) (by decide) (by decide)
      rw [show ((100000000 : Nat) : Int) = 100000000 from rfl] at hT
      have h8i : (8 : Int) ≤ ((j + 8 : Nat) : Int) := by omega
      go_wp2_with (go_at_call 108; refine hT.mono ?_; rintro e9 w9 ⟨v9, rfl, hb9, hk9⟩)
      have HJ : Hid (PowT w w9 v v9 N K (k - j)) := show PowT w w9 v v9 N K (k - j) by
        have := HI.out.next 8 (by decide) hb9 hk9
        rwa [show k - (j + 8) + 8 = k - j by omega] at this
      clear hb9 hk9 hT
      go_roundw
      case rel => exact ⟨j, by go_num, by omega, HJ⟩
      case measure => (simp [intOf]; try omega)
    · have h8i : ¬ (8 : Int) ≤ (m : Int) := by omega
      go_wp2
      clear H0
      go_loopw [0, 7] (fun nv iv wr => ∃ i : Nat, iv = .int .i64 (i : Int) ∧ i ≤ m ∧ Hid (PowT w wr v nv N K (k - m + i))) (fun _ iv _ => m - (intOf iv).toNat)
      case atStart => exact ⟨0, rfl, Nat.zero_le _, HI⟩
      case round =>
        clear HI
        obtain ⟨i, rfl, hi, HI⟩ := hrel
        by_cases hl : i < m
        · have hT := times_big u0 _ _ 10 wr HI.out.big (by omega) (by decide) (by decide)
          rw [show ((10 : Nat) : Int) = 10 from rfl] at hT
          have hli : (i : Int) < (m : Int) := by omega
          go_wp2_with (go_at_call 108; refine hT.mono ?_; rintro e9 w9 ⟨v9, rfl, hb9, hk9⟩)
          have HJ : Hid (PowT w w9 v v9 N K (k - m + (i + 1))) := HI.out.next 1 (by decide) hb9 hk9
          clear hb9 hk9 hT
          go_roundw
          case rel => exact ⟨i + 1, by go_num, by omega, HJ⟩
          case measure => (simp [intOf]; try omega)
        · have hli : ¬ (i : Int) < (m : Int) := by omega
          go_wp2
          go_ret
          have h1 := HI.out
          rw [show k - m + i = k by omega] at h1
          exact ⟨_, rfl, ⟨h1.big, h1.own⟩, h1.keep⟩

theorem powers_int10 (v : Value) (N K : Nat) (k : Int) (w : World) (h : Big w v N K) (hK : K ≤ 1000) (hk : k ≤ 1000) :
    Calls Tryz.prog 93 #[v, .int .i64 10, .int .i64 k] w fun e w' => ∃ v', e = .returned v' ∧ (Big w' v' (N * 10 ^ k.toNat) (K + k.toNat) ∧ (v' = v ∨ Fresh w w' v')) ∧ Keep [] w w' := by
  by_cases h0 : k ≤ 0
  · refine (powers_neg10 v k h0 w).mono ?_
    rintro e w' ⟨rfl, rfl⟩
    rw [show k.toNat = 0 by omega]
    exact ⟨v, rfl, ⟨by simpa using h, .inl rfl⟩, Keep.refl _ _⟩
  · have hc := powers_ten v N K k.toNat w h hK (by omega)
    rw [show ((k.toNat : Nat) : Int) = k by omega] at hc
    refine hc.mono ?_
    exact fun _ _ h => h

set_option maxRecDepth 1000000 in
set_option maxHeartbeats 3200000 in
theorem ten_any (m : Nat) (e : Int) (hm : m < 9223372036854775808) (he1 : -500 ≤ e) (he2 : e ≤ 500) (w : World) :
    Calls Tryz.prog 73 #[.int .i64 (m : Int), .int .i64 e] w fun r w' => ∃ va vb, r = .returned (.agg #[va, vb]) ∧ (Big w' va (m * 10 ^ e.toNat) 1000 ∧ Big w' vb (10 ^ (-e).toNat) 1000) ∧ Keep [] w w' := by
  go_enter Tryz.func73, Tryz.ntmps73
  go_wp2_with fail
  refine (number_big m (by omega) _).mono ?_
  rintro e9 w1 ⟨v1, rfl, hb1, hf1, hk1⟩
  go_wp2_with fail
  refine (powers_int10 v1 m 3 e _ hb1 (by omega) (by omega)).mono ?_
  rintro e9 w2 ⟨va, rfl, ⟨hba, hoa⟩, hka⟩
  go_wp2_with fail
  refine (powers_int10 _ 1 1 (-e) _ (Big.one w2) (by omega) (by omega)).mono ?_
  rintro e9 w3 ⟨vb, rfl, ⟨hbb, hob⟩, hkb⟩
  have K1 : Keep [] (w.alloc (Obj.cells #[Value.slice none 0 0, Value.slice none 0 0] 91)) w2 := hk1.trans' hka
  have K2 : Keep [] (w.alloc (Obj.cells #[Value.slice none 0 0, Value.slice none 0 0] 91)) w3 := (K1.alloc _).trans' hkb
  have K3 : Keep [] w2 w3 := (Keep.alloc1 w2 _).trans' hkb
  have s1 := hk1.size
  have s2 := hka.size
  simp at s1
  have HA : Hid (Big w3 va (m * 10 ^ e.toNat) 1000 ∧ Off va [w.heap.size]) := ⟨(hba.keep K3 (Off.nil _)).mono (by omega), by
    rcases hoa with rfl | h
    · exact hf1.off1
    · exact (h.earlier (w0 := w.alloc (Obj.cells #[Value.slice none 0 0, Value.slice none 0 0] 91)) (by simpa using s1)).off1⟩
  have HBb : Hid (Big w3 vb (10 ^ (-e).toNat) 1000 ∧ Off vb [w.heap.size]) := ⟨by rw [Nat.one_mul] at hbb; exact hbb.mono (by omega), by
    rcases hob with rfl | h
    · intro k hk hn
      simp [Value.ownBlock] at hk hn
      omega
    · intro k hk hn
      have := (h k hk).1
      simp at this hn
      omega⟩
  have HK : Hid (Keep [] w w3) := (show Keep [] w w3 from ((Keep.alloc1 w _).trans' K2))
  have hc0 : w3.cell? ⟨w.heap.size, 0, none⟩ = some (.slice none 0 0) := K2.cell' (by simp) (by simp)
  have hc1 : w3.cell? ⟨w.heap.size, 1, none⟩ = some (.slice none 0 0) := K2.cell' (by simp) (by simp)
  have hf0 : w3.frozen? ⟨w.heap.size, 0, none⟩ = false := (K2.frozen (by simp) (by simp)).trans (by simp)
  have hf9 : w3.frozen? ⟨w.heap.size, 1, none⟩ = false := (K2.frozen (by simp) (by simp)).trans (by simp)
  obtain ⟨ao, na, ca, rfl⟩ := hba.sl
  obtain ⟨bo, nb, cb, rfl⟩ := hbb.sl
  clear hb1 hf1 hk1 hba hoa hka hbb hob hkb K1 K2 K3 s1 s2
  have HG : Hid (w.heap.size ≤ w.heap.size) := Nat.le_refl _
  generalize hgg : w.heap.size = g at *
  have HG : Hid (w.heap.size ≤ g) := show w.heap.size ≤ g by omega
  clear hgg
  have hd1 : (w3.setCell ⟨g, 0, none⟩ (.slice ao na ca)).cell? ⟨g, 1, none⟩ = some (.slice none 0 0) := by rw [World.cell?_setCell_other _ _ _ _ (by simp)]; exact hc1
  have d1 : ((w3.setCell ⟨g, 0, none⟩ (.slice ao na ca)).setCell ⟨g, 1, none⟩ (.slice bo nb cb)).cell? ⟨g, 1, none⟩ = some (.slice bo nb cb) := World.cell?_setCell_same _ _ _ hd1
  have d0 : ((w3.setCell ⟨g, 0, none⟩ (.slice ao na ca)).setCell ⟨g, 1, none⟩ (.slice bo nb cb)).cell? ⟨g, 0, none⟩ = some (.slice ao na ca) := by
    rw [World.cell?_setCell_other _ _ _ _ (by simp)]; exact World.cell?_setCell_same _ _ _ hc0
  have KS : Keep [g] w3 ((w3.setCell ⟨g, 0, none⟩ (.slice ao na ca)).setCell ⟨g, 1, none⟩ (.slice bo nb cb)) := ((Keep.refl [g] w3).setCell (p := ⟨g, 0, none⟩) (.inl (by simp)) _).setCell (p := ⟨g, 1, none⟩) (.inl (by simp)) _
  have HR : Hid ((Big ((w3.setCell ⟨g, 0, none⟩ (.slice ao na ca)).setCell ⟨g, 1, none⟩ (.slice bo nb cb)) (.slice ao na ca) (m * 10 ^ e.toNat) 1000 ∧ Big ((w3.setCell ⟨g, 0, none⟩ (.slice ao na ca)).setCell ⟨g, 1, none⟩ (.slice bo nb cb)) (.slice bo nb cb) (10 ^ (-e).toNat) 1000) ∧ Keep [] w ((w3.setCell ⟨g, 0, none⟩ (.slice ao na ca)).setCell ⟨g, 1, none⟩ (.slice bo nb cb))) :=
    ⟨⟨HA.out.1.keep KS HA.out.2, HBb.out.1.keep KS HBb.out.2⟩, HK.out.more KS (by intro x hx; simp at hx; subst hx; exact .inr HG.out)⟩
  clear KS HA HBb HK hd1
  go_wp2
  generalize ((w3.setCell ⟨g, 0, none⟩ (.slice ao na ca)).setCell ⟨g, 1, none⟩ (.slice bo nb cb)) = W at d0 d1 HR ⊢
  refine bodyPost_ret (v := .agg #[.slice ao na ca, .slice bo nb cb]) (by simp [results, Tryz.results73, go_sem, d0, d1]) rfl ?_
  exact ⟨_, _, rfl, HR.out⟩
end Go.Proofs.YtjdihnkcigoajaaGreatDoor


