/- What a decimal set by a text of digits tells: the number that the text says. -/
import Derived.Test.YtnljpbpphdhnpaaGreatDoorDecAA
import Derived.Test.YtnljpbpphdhnpaaGreatDoorDecZ
import Derived.Test.YtnljpbpphdhnpaaGreatDoorWhM
import Derived.Test.YtnljpbpphdhnpaaGreatDoorDecR
import Derived.Test.YtnljpbpphdhnpaaGreatDoorRdJ

namespace Go.Proofs.YtnljpbpphdhnpaaGreatDoor
open Go.RowKit Go.PlainAid

theorem sees_base (N L : Nat) (dp : Int) (hdp : -1000 ≤ dp) : Sees (L + 2000) (wF (N * 10 ^ (dp - L).toNat) (10 ^ ((L : Int) - dp).toNat)) (wS (N * 10 ^ (dp - L).toNat) (10 ^ ((L : Int) - dp).toNat)) 200 N L dp false := by
  rcases Int.lt_or_le dp L with h | h
  · obtain ⟨t, ht⟩ : ∃ t, ((L : Int) - dp).toNat = t := ⟨_, rfl⟩
    have e0 : (dp - (L : Int)).toNat = 0 := by omega
    obtain ⟨c, hc⟩ : ∃ c, (dp - L + ((L + 2000 : Nat) : Int)).toNat = c := ⟨_, rfl⟩
    have eZ : 10 ^ (L + 2000) = 10 ^ t * 10 ^ c := by rw [← Nat.pow_add]; congr 1; omega
    have eX : xD (L + 2000) 200 N L dp = N * 2 ^ 200 * 10 ^ c := by
      unfold xD
      rw [hc, Nat.mul_assoc, Nat.mul_comm (10 ^ c), ← Nat.mul_assoc]
    rw [ht, e0, Nat.pow_zero, Nat.mul_one]
    refine ⟨?_, ?_⟩
    · rw [eX, eZ, Nat.mul_div_mul_right _ _ (ten_pos c)]; rfl
    · rw [eX, eZ, Nat.mul_mod_mul_right]
      unfold wS
      rw [decide_eq_false_iff_not]
      constructor
      · intro h2
        refine ⟨?_, rfl⟩
        rcases Nat.eq_zero_or_pos (N * 2 ^ 200 % 10 ^ t) with h3 | h3
        · rw [h3, Nat.zero_mul]
        · exact absurd (by omega) h2
      · intro h2 h3
        rcases Nat.mul_eq_zero.1 h2.1 with h4 | h4
        · exact h3 h4
        · exact absurd h4 (Nat.ne_of_gt (ten_pos c))
  · have e0 : ((L : Int) - dp).toNat = 0 := by omega
    obtain ⟨t, ht⟩ : ∃ t, (dp - (L : Int)).toNat = t := ⟨_, rfl⟩
    have eX : xD (L + 2000) 200 N L dp = N * 10 ^ t * 2 ^ 200 * 10 ^ (L + 2000) := by
      unfold xD
      rw [show (dp - L + ((L + 2000 : Nat) : Int)).toNat = t + (L + 2000) by omega, Nat.pow_add]
      simp only [Nat.mul_assoc, Nat.mul_left_comm, Nat.mul_comm]
    rw [e0, ht, Nat.pow_zero]
    refine ⟨?_, ?_⟩
    · rw [eX, Nat.mul_div_cancel _ (ten_pos _)]
      unfold wF; rw [Nat.div_one]
    · rw [eX, Nat.mul_mod_left]
      unfold wS
      rw [Nat.mod_one]
      simp
theorem sees_scale (B c F : Nat) (st : Bool) (m N : Nat) (nd dp : Int) (tr : Bool) (h : Sees (B + c) F st m N nd dp tr) (h0 : 0 ≤ dp - nd + B) : Sees B F st m N nd dp tr := by
  have eX : xD (B + c) m N nd dp = xD B m N nd dp * 10 ^ c := by
    unfold xD
    rw [show (dp - nd + ((B + c : Nat) : Int)).toNat = (dp - nd + (B : Int)).toNat + c by omega, Nat.pow_add]
    simp only [Nat.mul_left_comm, Nat.mul_comm]
  have h1 := h.wh
  have h2 := h.sk
  rw [eX, Nat.pow_add, Nat.mul_div_mul_right _ _ (ten_pos c)] at h1
  rw [eX, Nat.pow_add, Nat.mul_mod_mul_right] at h2
  refine ⟨h1, h2.trans ?_⟩
  constructor
  · intro h3
    refine ⟨?_, h3.2⟩
    rcases Nat.mul_eq_zero.1 h3.1 with h4 | h4
    · exact h4
    · exact absurd h4 (Nat.ne_of_gt (ten_pos c))
  · intro h3
    exact ⟨by rw [h3.1, Nat.zero_mul], h3.2⟩
theorem cut800 (B F : Nat) (st : Bool) (m : Nat) (f : Nat → Nat) (L : Nat) (dp : Int) (tr t2 : Bool) (hf : ∀ x, f x < 10) (hB : 0 ≤ dp - L + B) (hm : dp + m ≤ 800) (hse : Sees B F st m (pD f L) L dp tr)
    (ht1 : (∀ x, 800 ≤ x → x < L → f x = 0) → t2 = tr) (ht2 : ∀ x, 800 ≤ x → x < L → f x ≠ 0 → t2 = true) : Sees B F st m (pD f (min L 800)) ((min L 800 : Nat) : Int) dp t2 := by
  by_cases h8 : L ≤ 800
  · rw [show min L 800 = L by omega, ht1 (fun x x1 x2 => by omega)]; exact hse
  · rw [show min L 800 = 800 by omega]
    have hsp := pD_split f 800 (L - 800)
    rw [show 800 + (L - 800) = L by omega] at hsp
    have hse2 : Sees B F st m (pD f 800 * 10 ^ (L - 800) + pD (fun x => f (800 + x)) (L - 800)) (((800 : Nat) : Int) + ((L - 800 : Nat) : Int)) dp tr := by
      rw [← hsp, show ((800 : Nat) : Int) + ((L - 800 : Nat) : Int) = (L : Int) by omega]; exact hse
    by_cases hb : pD (fun x => f (800 + x)) (L - 800) = 0
    · rw [hb, Nat.add_zero] at hse2
      have h3 := pD_nil _ _ hb
      rw [ht1 fun x x1 x2 => by
        have := h3 (x - 800) (by omega)
        rwa [show 800 + (x - 800) = x by omega] at this]
      exact sees_trim B F st m _ _ dp tr (L - 800) (by omega) hse2
    · refine sees_cut B F st m (pD f 800) (L - 800) _ ((800 : Nat) : Int) dp tr t2 hse2 (pD_lt _ _ fun j _ => hf _) (by omega) (fun h => by omega) (fun _ => ⟨?_, hb, by omega⟩)
      rcases Classical.em (∃ x, 800 ≤ x ∧ x < L ∧ f x ≠ 0) with ⟨x, x1, x2, x3⟩ | h
      · exact ht2 x x1 x2 x3
      · refine absurd (pD_all_nil _ _ fun x hx => ?_) hb
        rcases Nat.eq_zero_or_pos (f (800 + x)) with h9 | h9
        · exact h9
        · exact absurd ⟨800 + x, by omega, by omega, by omega⟩ h
theorem set_tells (w w' : World) (b : Nat) (s : ByteArray) (f : Nat → Nat) (L : Nat) (dp : Int) (h : SetL w w' b s L dp) (hL : 0 < L) (hp1 : -60 ≤ dp) (hp2 : dp ≤ 60) (hf : ∀ x, f x < 10) (hb : ∀ j, j < L → bt s (posD j) = (f j : Int) + 48) (h1 : 1 ≤ f 0) (hz : f (L - 1) ≠ 0) :
    Keep [b] w w' ∧ ∃ D nd tr, GD w' b 2000 (wF (pD f L * 10 ^ (dp - L).toNat) (10 ^ ((L : Int) - dp).toNat)) (wS (pD f L * 10 ^ (dp - L).toNat) (10 ^ ((L : Int) - dp).toNat)) 200 D nd dp tr := by
  obtain ⟨D1, t2, hc, hd, ht1, ht2, hk⟩ := h.ex
  have e48 : ∀ j, j < L → (bt s (posD j) = 48 ↔ f j = 0) := fun j hj => by rw [hb j hj]; omega
  have hdg : ∀ j, j < min L 800 → D1 j = (f j : Int) + 48 := fun j hj => by rw [hd j hj, hb j (by omega)]
  have hs := sees_base (pD f L) L dp (by omega)
  have hs2 := cut800 (L + 2000) _ _ 200 f L dp false t2 hf (by omega) (by omega) hs (fun hx => ht1 fun j a1 a2 => (e48 j a2).2 (hx j a1 a2)) (fun x a1 a2 a3 => ht2 x a1 a2 fun h => a3 ((e48 x a2).1 h))
  rw [Nat.add_comm L 2000] at hs2
  have hs3 := sees_scale 2000 L _ _ 200 _ _ dp t2 hs2 (by omega)
  have hp : pD f (min L 800) = pD (eD D1 (min L 800)) (min L 800) := pD_congr _ _ _ fun j hj => by
    unfold eD
    rw [if_pos hj, hdg j hj]; omega
  rw [hp] at hs3
  refine ⟨hk, D1, min L 800, t2, hc, fun j hj => ?_, by omega, by omega, ?_, fun htr => ?_, hs3⟩
  · rw [hdg j hj]; have := hf j; omega
  · rw [hdg 0 (by omega)]; omega
  · rcases Nat.lt_or_ge 800 L with h8 | h8
    · have := ht2 (L - 1) (by omega) (by omega) fun h => hz ((e48 (L - 1) (by omega)).1 h)
      rw [this] at htr
      exact absurd htr (by simp)
    · rw [show min L 800 = L by omega, hdg (L - 1) (by omega)]; omega
end Go.Proofs.YtnljpbpphdhnpaaGreatDoor

/- The library's atof32 where what is cut off matters: its decimal. -/
namespace Go.Proofs.YtnljpbpphdhnpaaGreatDoor
open Go.RowKit Go.PlainAid

theorem zero168 : Tryz.zeroCells168 = Array.replicate 800 (Value.int .u8 0) ++ #[.int .i64 0, .int .i64 0, .bool false, .bool false] := by kernel_rfl
theorem dec_new (w : World) : DecC (w.alloc (.cells Tryz.zeroCells168 168)) w.heap.size (fun _ => 0) 0 0 false := by
  have h : ∀ j, (w.alloc (.cells Tryz.zeroCells168 168)).cell? ⟨w.heap.size, j, none⟩ = (Array.replicate 800 (Value.int .u8 0) ++ #[.int .i64 0, .int .i64 0, .bool false, .bool false])[j]? := fun j => by rw [World.cell?_alloc_new, zero168]
  refine ⟨fun j hj => ?_, ?_, ?_, ?_, ?_, fun j _ => World.frozen?_alloc_new w _ _ _⟩
  · rw [h, Array.getElem?_append_left (by simpa using hj), Array.getElem?_replicate, if_pos hj]
  · rw [h, Array.getElem?_append_right (by simp)]; simp
  · rw [h, Array.getElem?_append_right (by simp)]; simp
  · rw [h, Array.getElem?_append_right (by simp)]; simp
  · rw [h, Array.getElem?_append_right (by simp)]; simp
theorem Below.of_keep {b : Nat} {w w1 w2 : World} (h : Below w.heap.size w w1) (k : Keep [b] w1 w2) (hb : w.heap.size ≤ b) : Below w.heap.size w w2 :=
  h.trans ⟨k.os, k.tape, k.output, k.size, fun x hx => k.block x (Nat.lt_of_lt_of_le hx h.size) (by intro hm; simp at hm; omega)⟩
theorem TabD.below {w w' : World} {b : Nat} (h : TabD w b) (k : Below w.heap.size w w') : TabD w' b := h.keep ((Keep.ofBelow k).mono fun _ hx => by cases hx)
set_option maxRecDepth 1000000 in
set_option maxHeartbeats 1000000 in
theorem atof32_slow (s : ByteArray) (d R R1 R2 : Nat) (er er2 : Value) (p : Int) (w : World) (hd : (d : Int) ≠ 0) (hd2 : d + 1 < 18446744073709551616) (hp : -70 ≤ p ∧ p ≤ 40) (heq : (FloatKind.f32.format.order R1 R2 == some Ordering.eq) = false)
    (hS : ∀ w, Calls Tryz.prog 152 #[.string s] w fun e w' => e = .returned (.tuple #[.float .f64 0, .int .i64 0, .bool false]) ∧ w' = w)
    (hR : ∀ w, Calls Tryz.prog 153 #[.string s] w fun e w' => e = .returned (.tuple #[.int .u64 (d : Int), .int .i64 p, .bool false, .bool true, .bool false, .int .i64 (s.size : Nat), .bool true]) ∧ w' = w)
    (hQ : ∀ w', Below w.heap.size w w' → Calls Tryz.prog 158 #[.int .u64 (d : Int), .int .i64 p, .int .u32 0] w' fun e w'' => e = .returned (.tuple #[.float .f32 R1, er]) ∧ Below w'.heap.size w' w'')
    (hQ2 : ∀ w', Below w.heap.size w w' → Calls Tryz.prog 158 #[.int .u64 ((d : Int) + 1), .int .i64 p, .int .u32 0] w' fun e w'' => e = .returned (.tuple #[.float .f32 R2, er2]) ∧ Below w'.heap.size w' w'')
    (c2 : w.cell? ⟨5, 0, none⟩ = some (.bool true)) (hR9 : R ≤ 2139095040) (P : World → Nat → Prop)
    (hSet : ∀ w' b, w.heap.size ≤ b → Below w.heap.size w w' → DecC w' b (fun _ => 0) 0 0 false → Calls Tryz.prog 159 #[.pointer (some ⟨b, 0, none⟩), .string s] w' fun e w'' => e = .returned (.bool true) ∧ Keep [b] w' w'' ∧ P w'' b)
    (hBits : ∀ w' b, w.heap.size ≤ b → Below w.heap.size w w' → P w' b → Calls Tryz.prog 160 #[.pointer (some ⟨b, 0, none⟩), .pointer (some ⟨8, 0, none⟩)] w' fun e w'' => e = .returned (.tuple #[.int .u64 (R : Nat), .bool (decide (R = 2139095040))]) ∧ Keep [b] w' w'') :
    Calls Tryz.prog 124 #[.string s] w fun e w' => e = .returned (.tuple #[.float .f32 R, .int .i64 (s.size : Nat), erR R]) ∧ Below w.heap.size w w' := by
  obtain ⟨EV, hEV⟩ : ∃ EV, erR R = EV := ⟨_, rfl⟩
  have HEV : Hid (erR R = EV) := hEV
  rw [hEV]
  clear hEV
  have hd0 : ((d : Int) == 0) = false := by simpa using hd
  clear hd
  obtain ⟨hp1, hp2⟩ := hp
  have HD : Hid ((d : Int) + 1 ≤ 18446744073709551615 ∧ (0 : Int) ≤ (d : Int) + 1) := ⟨by omega, by omega⟩
  have HEQ : Hid ((FloatKind.f32.format.order R1 R2 == some Ordering.eq) = false) := heq
  clear hd2 heq
  have HQ : Hid (∀ w', Below w.heap.size w w' → Calls Tryz.prog 158 #[.int .u64 (d : Int), .int .i64 p, .int .u32 0] w' fun e w'' => e = .returned (.tuple #[.float .f32 R1, er]) ∧ Below w'.heap.size w' w'') := hQ
  have HQ2 : Hid (∀ w', Below w.heap.size w w' → Calls Tryz.prog 158 #[.int .u64 ((d : Int) + 1), .int .i64 p, .int .u32 0] w' fun e w'' => e = .returned (.tuple #[.float .f32 R2, er2]) ∧ Below w'.heap.size w' w'') := hQ2
  clear hQ hQ2
  go_enter Tryz.func124, Tryz.ntmps124
  go_wp2_with fail
  refine (hS _).mono ?_
  rintro e9 w9 ⟨rfl, hw9⟩
  obtain rfl := hw9.symm
  clear hw9
  go_wp2_with fail
  refine (hR _).mono ?_
  rintro e9 w9 ⟨rfl, hw9⟩
  obtain rfl := hw9.symm
  clear hw9
  go_wp2_with fail
  refine (bool2w_p _).mono ?_
  rintro e9 w9 ⟨rfl, hw9⟩
  obtain rfl := hw9.symm
  clear hw9
  go_wp2_with fail
  refine (HQ.out _ (Below.refl _ _)).mono ?_
  rintro e9 w9 ⟨rfl, hb⟩
  clear hd0
  obtain ⟨hd3, hd4⟩ := HD.out
  go_wp2_with fail
  refine (HQ2.out _ hb).mono ?_
  rintro e9 w8 ⟨rfl, hb2⟩
  have heq := HEQ.out
  go_wp2_with fail
  have hb8 : Below w.heap.size w (w8.alloc (.cells Tryz.zeroCells168 168)) := (hb.trans (hb2.mono hb.size)).alloc (hb.trans (hb2.mono hb.size)).size _
  have hbs : w.heap.size ≤ w8.heap.size := (hb.trans (hb2.mono hb.size)).size
  have HBS : Hid (w.heap.size ≤ w8.heap.size) := hbs
  have HB8 : Hid (Below w.heap.size w (w8.alloc (.cells Tryz.zeroCells168 168))) := hb8
  refine (hSet _ _ hbs hb8 (dec_new w8)).mono ?_
  rintro e9 w7 ⟨rfl, hk7, hP7⟩
  have hb7 : Below w.heap.size w w7 := Below.of_keep hb8 hk7 hbs
  have HB7 : Hid (Below w.heap.size w w7) := hb7
  have hBB := hBits w7 _ hbs hb7 hP7
  clear hb hb2 hb8 hbs hk7 hb7 hP7 hSet hBits hS hR c2 heq hd3 hd4
  generalize w8.heap.size = b at *
  have hfrom := run_sfrom R
  by_cases hinf : R = 2139095040
  · rw [decide_eq_true hinf] at hBB
    have he : erR R = errRange := by unfold erR; rw [if_pos hinf]
    have HE2 : Hid (EV = erR R) := HEV.out.symm
    rw [he] at HE2
    clear hinf he HEV
    go_wp2_with fail
    refine hBB.mono ?_
    rintro e9 w6 ⟨rfl, hk6⟩
    have HK6 : Hid (Keep [b] w7 w6) := hk6
    clear hBB hk6
    go_wp2
    go_ret3
    exact ⟨by rw [HE2.out]; rfl, Below.of_keep HB7.out HK6.out HBS.out⟩
  · rw [decide_eq_false hinf] at hBB
    have he : erR R = .nilIface := by unfold erR; rw [if_neg hinf]
    have HE2 : Hid (EV = erR R) := HEV.out.symm
    rw [he] at HE2
    clear hinf he HEV
    go_wp2_with fail
    refine hBB.mono ?_
    rintro e9 w6 ⟨rfl, hk6⟩
    have HK6 : Hid (Keep [b] w7 w6) := hk6
    clear hBB hk6
    go_wp2
    go_ret3
    exact ⟨by rw [HE2.out]; rfl, Below.of_keep HB7.out HK6.out HBS.out⟩
end Go.Proofs.YtnljpbpphdhnpaaGreatDoor

/- The nearest real goes with the number; it is one, however the number is written. -/
namespace Go.Proofs.YtnljpbpphdhnpaaGreatDoor
open Go.RowKit Go.PlainAid

theorem low_scale (A B c m : Nat) (hc : 0 < c) : LowB (A * c) (B * c) m ↔ LowB A B m := by
  unfold LowB
  rw [show A * c * 2 ^ 149 = A * 2 ^ 149 * c by rw [Nat.mul_assoc, Nat.mul_comm c, ← Nat.mul_assoc], ← Nat.mul_assoc, ← Nat.mul_assoc, Nat.mul_le_mul_right_iff hc, Nat.mul_lt_mul_right hc]
theorem near_scale (A B c m : Nat) (hc : 0 < c) : nearB (A * c) (B * c) m = nearB A B m := by
  unfold nearB upB
  rw [show 2 * (A * c * 2 ^ 149) = 2 * (A * 2 ^ 149) * c by rw [show A * c * 2 ^ 149 = A * 2 ^ 149 * c by rw [Nat.mul_assoc, Nat.mul_comm c, ← Nat.mul_assoc], Nat.mul_assoc 2], ← Nat.mul_assoc]
  rw [show decide ((valN m + valN (m + 1)) * B * c < 2 * (A * 2 ^ 149) * c) = decide ((valN m + valN (m + 1)) * B < 2 * (A * 2 ^ 149)) from decide_eq_decide.2 (Nat.mul_lt_mul_right hc),
    show decide (2 * (A * 2 ^ 149) * c = (valN m + valN (m + 1)) * B * c) = decide (2 * (A * 2 ^ 149) = (valN m + valN (m + 1)) * B) from decide_eq_decide.2 ⟨fun h => Nat.mul_right_cancel hc h, fun h => by rw [h]⟩]
theorem near_between (A B m : Nat) : m ≤ nearB A B m ∧ nearB A B m ≤ m + 1 := by
  unfold nearB
  split
  · omega
  · split <;> omega
theorem cross_le (a b c d : Nat) (B B' : Nat) (hB : 0 < B) (h : a * B' ≤ b * B) (hc : c * B ≤ a) (hd : d * B = c * B) : d * B' ≤ b := by
  have h1 : c * B * B' ≤ a * B' := Nat.mul_le_mul_right _ hc
  have h2 : d * B' * B ≤ b * B := by
    rw [Nat.mul_assoc, Nat.mul_comm B', ← Nat.mul_assoc, hd]; omega
  exact Nat.le_of_mul_le_mul_right h2 hB
theorem near_mono (A B A' B' m m' : Nat) (hB : 0 < B) (hB' : 0 < B') (h : A * B' ≤ A' * B) (hl : LowB A B m) (hl' : LowB A' B' m') : nearB A B m ≤ nearB A' B' m' := by
  obtain ⟨a1, a2, a3⟩ := hl
  obtain ⟨b1, b2, b3⟩ := hl'
  have h149 : A * 2 ^ 149 * B' ≤ A' * 2 ^ 149 * B := by
    have : A * B' * 2 ^ 149 ≤ A' * B * 2 ^ 149 := Nat.mul_le_mul_right _ h
    rw [Nat.mul_assoc A, Nat.mul_comm (2 ^ 149), ← Nat.mul_assoc, Nat.mul_assoc A', Nat.mul_comm (2 ^ 149), ← Nat.mul_assoc]
    exact this
  obtain ⟨X, hX⟩ : ∃ X, A * 2 ^ 149 = X := ⟨_, rfl⟩
  obtain ⟨Y, hY⟩ : ∃ Y, A' * 2 ^ 149 = Y := ⟨_, rfl⟩
  rw [hX] at a2 a3 h149
  rw [hY] at b2 b3 h149
  have hmm : m ≤ m' := by
    rcases b3 with b3 | b3
    · omega
    · rcases Nat.lt_or_ge m' m with hlt | hge
      · have h1 : valN m * B' ≤ Y := cross_le X Y (valN m) (valN m) B B' hB h149 a2 rfl
        have h2 : valN (m' + 1) ≤ valN m := by
          rcases Nat.lt_or_ge (m' + 1) m with h9 | h9
          · exact Nat.le_of_lt (valN_lt h9)
          · rw [show m' + 1 = m by omega]; exact Nat.le_refl _
        have h3 : valN (m' + 1) * B' ≤ valN m * B' := Nat.mul_le_mul_right _ h2
        omega
      · exact hge
  have e1 := near_between A B m
  have e2 := near_between A' B' m'
  rcases Nat.lt_or_ge m m' with hlt | hge
  · omega
  · obtain rfl : m = m' := by omega
    by_cases hinf : m = 2139095040
    · have : nearB A B m = m := by unfold nearB; rw [if_pos hinf]
      omega
    · by_cases hu : upB (2 * X) ((valN m + valN (m + 1)) * B) m = true
      · have hu2 : upB (2 * Y) ((valN m + valN (m + 1)) * B') m = true := by
          have h2 : 2 * X * B' ≤ 2 * Y * B := by rw [Nat.mul_assoc, Nat.mul_assoc]; omega
          obtain ⟨S, hS⟩ : ∃ S, valN m + valN (m + 1) = S := ⟨_, rfl⟩
          rw [hS] at hu ⊢
          rcases Nat.lt_trichotomy (2 * X) (S * B) with h3 | h3 | h3
          · rw [upB_less _ _ _ h3] at hu; exact absurd hu (by simp)
          · rw [upB_half _ _ _ h3] at hu
            have h4 : S * B' ≤ 2 * Y := cross_le (2 * X) (2 * Y) S S B B' hB h2 (by omega) rfl
            rcases Nat.lt_or_ge (S * B') (2 * Y) with h5 | h5
            · exact upB_more _ _ _ h5
            · rw [upB_half _ _ _ (by omega)]; exact hu
          · refine upB_more _ _ _ ?_
            have h4 : S * B * B' < 2 * X * B' := Nat.mul_lt_mul_of_pos_right h3 hB'
            have h5 : S * B' * B < 2 * Y * B := by rw [Nat.mul_assoc, Nat.mul_comm B', ← Nat.mul_assoc]; omega
            exact Nat.lt_of_mul_lt_mul_right h5
        have : nearB A' B' m = m + 1 := by unfold nearB; rw [if_neg hinf, hY, if_pos hu2]
        omega
      · have : nearB A B m = m := by unfold nearB; rw [if_neg hinf, hX, if_neg hu]
        omega
end Go.Proofs.YtnljpbpphdhnpaaGreatDoor

/- A row of digits, however many: the number, its first nineteen digits, where it lies. -/
namespace Go.Proofs.YtnljpbpphdhnpaaGreatDoor
open Go.RowKit Go.PlainAid

def fL (l : List UInt8) (j : Nat) : Nat := (l.getD j 0).toNat - 48
theorem fL_take (l : List UInt8) : ∀ k, k ≤ l.length → pD (fL l) k = dvL (l.take k) := by
  intro k
  induction k with
  | zero => intro _; rfl
  | succ k ih =>
    intro hk
    rw [pD_succ, ih (by omega), List.take_succ_eq_append_getElem (by omega), dv_snoc]
    unfold fL
    rw [List.getD_eq_getElem?_getD, List.getElem?_eq_getElem (by omega)]
    rfl
theorem fL_all (l : List UInt8) : pD (fL l) l.length = dvL l := by rw [fL_take l _ (Nat.le_refl _), List.take_length]
theorem fL_lt (l : List UInt8) (h : Dig l) (j : Nat) : fL l j < 10 := by
  unfold fL
  rcases Nat.lt_or_ge j l.length with hj | hj
  · rw [List.getD_eq_getElem?_getD, List.getElem?_eq_getElem hj]
    have := h (l[j]) (List.getElem_mem hj)
    show (l[j]).toNat - 48 < 10
    omega
  · rw [List.getD_eq_getElem?_getD, List.getElem?_eq_none hj]
    decide
theorem low_ex (A B : Nat) : ∃ m, LowB A B m := by
  have key : ∀ t k, k + t = 2139095040 → valN k * B ≤ A * 2 ^ 149 → ∃ m, LowB A B m := by
    intro t
    induction t with
    | zero => intro k hk hv; exact ⟨k, by omega, hv, .inl (by omega)⟩
    | succ t ih =>
      intro k hk hv
      by_cases h : valN (k + 1) * B ≤ A * 2 ^ 149
      · exact ih (k + 1) (by omega) h
      · exact ⟨k, by omega, hv, .inr (by omega)⟩
  refine key 2139095040 0 (by omega) ?_
  rw [show valN 0 = 0 by decide]
  omega
/-- the same number, written with more noughts -/
theorem nearZ_shift (d : Nat) (p : Int) (t m : Nat) : (LowB (d * 10 ^ t * 10 ^ (p - t).toNat) (10 ^ ((t : Int) - p).toNat) m ↔ LowB (d * 10 ^ p.toNat) (10 ^ (-p).toNat) m) ∧ nearB (d * 10 ^ t * 10 ^ (p - t).toNat) (10 ^ ((t : Int) - p).toNat) m = nearB (d * 10 ^ p.toNat) (10 ^ (-p).toNat) m := by
  rcases Int.lt_or_le p t with h | h
  · have e0 : (p - (t : Int)).toNat = 0 := by omega
    rw [e0, Nat.pow_zero, Nat.mul_one]
    rcases Int.lt_or_le p 0 with h2 | h2
    · have e1 : p.toNat = 0 := by omega
      have e2 : ((t : Int) - p).toNat = (-p).toNat + t := by omega
      rw [e1, e2, Nat.pow_zero, Nat.mul_one, Nat.pow_add]
      exact ⟨low_scale _ _ _ m (ten_pos t), near_scale _ _ _ m (ten_pos t)⟩
    · obtain ⟨c, hc⟩ : ∃ c, ((t : Int) - p).toNat = c := ⟨_, rfl⟩
      have e1 : (-p).toNat = 0 := by omega
      have e2 : d * 10 ^ t = d * 10 ^ p.toNat * 10 ^ c := by rw [Nat.mul_assoc, ← Nat.pow_add]; congr 2; omega
      have e3 : 10 ^ c = 10 ^ 0 * 10 ^ c := by rw [Nat.pow_zero, Nat.one_mul]
      rw [hc, e1, e2]
      constructor
      · rw [show LowB (d * 10 ^ p.toNat * 10 ^ c) (10 ^ c) m = LowB (d * 10 ^ p.toNat * 10 ^ c) (10 ^ 0 * 10 ^ c) m by rw [Nat.pow_zero, Nat.one_mul]]
        exact low_scale _ _ _ m (ten_pos c)
      · rw [show nearB (d * 10 ^ p.toNat * 10 ^ c) (10 ^ c) m = nearB (d * 10 ^ p.toNat * 10 ^ c) (10 ^ 0 * 10 ^ c) m by rw [Nat.pow_zero, Nat.one_mul]]
        exact near_scale _ _ _ m (ten_pos c)
  · have e1 : ((t : Int) - p).toNat = 0 := by omega
    have e2 : (-p).toNat = 0 := by omega
    have e3 : d * 10 ^ t * 10 ^ (p - t).toNat = d * 10 ^ p.toNat := by rw [Nat.mul_assoc, ← Nat.pow_add]; congr 2; omega
    rw [e1, e2, e3]
    exact ⟨Iff.rfl, rfl⟩
theorem pow_split (a b c : Nat) (h : a = b + c) : 2 ^ a = 2 ^ b * 2 ^ c := by subst h; exact Nat.pow_add _ _ _
/-- where the number lies -/
theorem wF_range (N len : Nat) (e : Int) (h1 : 10 ^ len ≤ N) (h2 : N < 10 ^ (len + 1)) (he1 : -46 ≤ e) (he2 : e ≤ 38) :
    140737488355328 ≤ wF (N * 10 ^ (e - len).toNat) (10 ^ ((len : Int) - e).toNat) ∧ wF (N * 10 ^ (e - len).toNat) (10 ^ ((len : Int) - e).toNat) < 2 ^ 333 := by
  obtain ⟨a, ha⟩ : ∃ a, (e - (len : Int)).toNat = a := ⟨_, rfl⟩
  obtain ⟨b, hb⟩ : ∃ b, ((len : Int) - e).toNat = b := ⟨_, rfl⟩
  rw [ha, hb]
  unfold wF
  have l1 : 10 ^ len * 10 ^ a ≤ N * 10 ^ a := Nat.mul_le_mul_right _ h1
  have l2 : N * 10 ^ a < 10 ^ (len + 1) * 10 ^ a := Nat.mul_lt_mul_of_pos_right h2 (ten_pos a)
  rw [← Nat.pow_add] at l1 l2
  constructor
  · rw [Nat.le_div_iff_mul_le (ten_pos b)]
    have h3 : 10 ^ b ≤ 10 ^ (len + a) * 10 ^ 46 := by rw [← Nat.pow_add]; exact Nat.pow_le_pow_right (by decide) (by omega)
    have h4 : 10 ^ (len + a) * 10 ^ 46 ≤ N * 10 ^ a * 10 ^ 46 := Nat.mul_le_mul_right _ l1
    have h5 : 140737488355328 * 10 ^ b ≤ 140737488355328 * (N * 10 ^ a * 10 ^ 46) := Nat.mul_le_mul_left _ (Nat.le_trans h3 h4)
    have h6 : 140737488355328 * (N * 10 ^ a * 10 ^ 46) ≤ N * 10 ^ a * 2 ^ 200 := by
      rw [Nat.mul_left_comm]
      exact Nat.mul_le_mul_left _ (by decide)
    omega
  · have key : ∀ Z, Z = 2 ^ 133 * 2 ^ 200 → N * 10 ^ a * 2 ^ 200 / 10 ^ b < Z := by
      intro Z hZ
      rw [Nat.div_lt_iff_lt_mul (ten_pos b), hZ]
      have h3 : 10 ^ (len + 1 + a) ≤ 10 ^ 39 * 10 ^ b := by rw [← Nat.pow_add]; exact Nat.pow_le_pow_right (by decide) (by omega)
      have h4 : N * 10 ^ a < 10 ^ 39 * 10 ^ b := Nat.lt_of_lt_of_le l2 h3
      have h5 : N * 10 ^ a * 2 ^ 200 < 10 ^ 39 * 10 ^ b * 2 ^ 200 := Nat.mul_lt_mul_of_pos_right h4 (Nat.two_pow_pos _)
      have h6 : 10 ^ 39 * 10 ^ b * 2 ^ 200 ≤ 2 ^ 133 * 10 ^ b * 2 ^ 200 := Nat.mul_le_mul_right _ (Nat.mul_le_mul_right _ (by decide))
      rw [Nat.mul_assoc (2 ^ 133) (2 ^ 200), Nat.mul_comm (2 ^ 200) (10 ^ b), ← Nat.mul_assoc]
      exact Nat.lt_of_lt_of_le h5 h6
    exact key _ (pow_split 333 133 200 rfl)
end Go.Proofs.YtnljpbpphdhnpaaGreatDoor

/- The library's atof32 of any digits at all: the document's nearest real. -/
namespace Go.Proofs.YtnljpbpphdhnpaaGreatDoor
open Go.RowKit Go.PlainAid

theorem cutL_zero (cs : List UInt8) (h : cutOff cs = false) (c0 : UInt8) : ∀ x, 19 ≤ x → fL (c0 :: cs) x = 0 := by
  intro x hx
  unfold fL
  rcases Nat.lt_or_ge x (c0 :: cs).length with hj | hj
  · obtain ⟨y, rfl⟩ : ∃ y, x = y + 1 := ⟨x - 1, by omega⟩
    have hy : y < cs.length := by simpa using hj
    have e : (c0 :: cs).getD (y + 1) 0 = cs[y] := by
      rw [List.getD_eq_getElem?_getD, List.getElem?_cons_succ, List.getElem?_eq_getElem hy]; rfl
    rw [e]
    have hm : cs[y] ∈ cs.drop 18 := by
      rw [List.mem_iff_getElem]
      exact ⟨y - 18, by simp; omega, by rw [List.getElem_drop]; congr 1; omega⟩
    unfold cutOff at h
    have h2 := List.any_eq_false.1 h _ hm
    simp at h2
    omega
  · rw [List.getD_eq_getElem?_getD, List.getElem?_eq_none hj]
    decide
theorem ord_ne (a b : Nat) (ha : a ≤ 2139095040) (hb : b ≤ 2139095040) (h : a ≠ b) : (FloatKind.f32.format.order a b == some Ordering.eq) = false := by
  rw [(ord_facts a b (nan_pos a ha) (nan_pos b hb)).2.2]
  have e : ∀ x, x ≤ 2139095040 → svalZ x = valN x := fun x hx => sval_pos x (by omega)
  rw [e a ha, e b hb]
  refine decide_eq_false ?_
  intro h2
  rcases Nat.lt_trichotomy a b with h3 | h3 | h3
  · have := valN_lt h3; omega
  · exact h h3
  · have := valN_lt h3; omega
theorem nearB_le (A B m : Nat) (h : m ≤ 2139095040) : nearB A B m ≤ 2139095040 := by
  unfold nearB; split
  · omega
  · split <;> omega
set_option maxHeartbeats 1000000 in
theorem atof_all (s : ByteArray) (c0 : UInt8) (cs : List UInt8) (e : Int) (m : Nat) (w : World) (h0 : 49 ≤ c0.toNat ∧ c0.toNat ≤ 57) (hc : Dig cs) (he1 : -46 ≤ e) (he2 : e ≤ 38)
    (hlast : cutOff cs = true → fL (c0 :: cs) cs.length ≠ 0) (hlw : LowB (dvL (c0 :: cs) * 10 ^ (e - cs.length).toNat) (10 ^ ((cs.length : Int) - e).toNat) m) (hT : TabB w) (hTD : ∀ b, w.heap.size ≤ b → TabD w b)
    (hS : ∀ w, Calls Tryz.prog 152 #[.string s] w fun e w' => e = .returned (.tuple #[.float .f64 0, .int .i64 0, .bool false]) ∧ w' = w)
    (hR : ∀ w, Calls Tryz.prog 153 #[.string s] w fun r w' => r = .returned (.tuple #[.int .u64 (dvL (c0 :: cs.take 18) : Int), .int .i64 (e - ((min cs.length 18 : Nat) : Int)), .bool false, .bool (cutOff cs), .bool false, .int .i64 (s.size : Nat), .bool true]) ∧ w' = w)
    (hSet : ∀ w' b, DecC w' b (fun _ => 0) 0 0 false → Calls Tryz.prog 159 #[.pointer (some ⟨b, 0, none⟩), .string s] w' fun r w'' => r = .returned (.bool true) ∧ SetL w' w'' b s (cs.length + 1) (1 + e))
    (hbt : ∀ j, j < cs.length + 1 → bt s (posD j) = (fL (c0 :: cs) j : Int) + 48) :
    Calls Tryz.prog 124 #[.string s] w fun r w' => r = .returned (.tuple #[.float .f32 (nearB (dvL (c0 :: cs) * 10 ^ (e - cs.length).toNat) (10 ^ ((cs.length : Int) - e).toNat) m), .int .i64 (s.size : Nat), erR (nearB (dvL (c0 :: cs) * 10 ^ (e - cs.length).toNat) (10 ^ ((cs.length : Int) - e).toNat) m)]) ∧ Below w.heap.size w w' := by
  obtain ⟨d0, d1⟩ := dv_19 c0 cs h0 hc
  have hD : Dig (c0 :: cs) := by
    intro x hx
    rcases List.mem_cons.1 hx with rfl | hx
    · omega
    · exact hc x hx
  have hN : pD (fL (c0 :: cs)) (cs.length + 1) = dvL (c0 :: cs) := fL_all (c0 :: cs)
  have hf0 : 1 ≤ fL (c0 :: cs) 0 := by unfold fL; show 1 ≤ c0.toNat - 48; omega
  by_cases h18 : cs.length ≤ 18
  · -- no more than nineteen digits
    have ht : cs.take 18 = cs := List.take_of_length_le h18
    have hz : cutOff cs = false := by
      unfold cutOff; rw [List.drop_eq_nil_of_le h18]; rfl
    rw [show min cs.length 18 = cs.length by omega, ht, hz] at hR
    rw [ht] at d0 d1
    rw [show ((cs.length : Int) - e) = -(e - cs.length) by omega] at hlw ⊢
    exact atof32_any s _ m (e - cs.length) w d0 (by omega) (by omega) (by omega) hlw hT hS hR
  · obtain ⟨t, ht⟩ : ∃ t, cs.length = 18 + t := ⟨cs.length - 18, by omega⟩
    have hmin : min cs.length 18 = 18 := by omega
    rw [hmin] at hR
    have hd19 : pD (fL (c0 :: cs)) 19 = dvL (c0 :: cs.take 18) := fL_take (c0 :: cs) 19 (by simp; omega)
    have hsp := pD_split (fL (c0 :: cs)) 19 t
    rw [show 19 + t = cs.length + 1 by omega, hN, hd19] at hsp
    have hrl := pD_lt (fun j => fL (c0 :: cs) (19 + j)) t fun j _ => fL_lt _ hD _
    generalize hdd : dvL (c0 :: cs.take 18) = d at *
    generalize hrr : pD (fun j => fL (c0 :: cs) (19 + j)) t = r at *
    have hpe : e - (cs.length : Int) = e - ((18 : Nat) : Int) - (t : Int) := by omega
    have hpe2 : (cs.length : Int) - e = (t : Int) - (e - ((18 : Nat) : Int)) := by omega
    generalize hp : e - ((18 : Nat) : Int) = p at *
    rw [hpe, hpe2] at hlw ⊢
    have hp1 : -70 ≤ p := by omega
    have hp2 : p ≤ 40 := by omega
    by_cases hz : cutOff cs = false
    · rw [hz] at hR
      have hr0 : r = 0 := by rw [← hrr]; exact pD_all_nil _ _ fun x _ => cutL_zero cs hz c0 _ (by omega)
      rw [hr0, Nat.add_zero] at hsp
      rw [hsp] at hlw ⊢
      obtain ⟨z1, z2⟩ := nearZ_shift d p t m
      rw [z2]
      exact atof32_any s d m p w d0 (by omega) hp1 hp2 (z1.1 hlw) hT hS hR
    · have hz1 : cutOff cs = true := by simpa using hz
      rw [hz1] at hR
      obtain ⟨m1, hl1⟩ := low_ex (d * 10 ^ p.toNat) (10 ^ (-p).toNat)
      obtain ⟨m2, hl2⟩ := low_ex ((d + 1) * 10 ^ p.toNat) (10 ^ (-p).toNat)
      obtain ⟨z1, z2⟩ := nearZ_shift d p t m1
      obtain ⟨y1, y2⟩ := nearZ_shift (d + 1) p t m2
      have hb0 : 0 < 10 ^ ((t : Int) - p).toNat := ten_pos _
      have mono1 := near_mono (d * 10 ^ t * 10 ^ (p - t).toNat) (10 ^ ((t : Int) - p).toNat) (dvL (c0 :: cs) * 10 ^ (p - t).toNat) (10 ^ ((t : Int) - p).toNat) m1 m hb0 hb0 (Nat.mul_le_mul_right _ (Nat.mul_le_mul_right _ (by omega))) (z1.2 hl1) hlw
      have mono2 := near_mono (dvL (c0 :: cs) * 10 ^ (p - t).toNat) (10 ^ ((t : Int) - p).toNat) ((d + 1) * 10 ^ t * 10 ^ (p - t).toNat) (10 ^ ((t : Int) - p).toNat) m m2 hb0 hb0 (Nat.mul_le_mul_right _ (Nat.mul_le_mul_right _ (by rw [Nat.add_mul]; omega))) hlw (y1.2 hl2)
      rw [z2] at mono1
      rw [y2] at mono2
      have hQ : ∀ w', Below w.heap.size w w' → _ := fun w' hb => parse32_all d m1 p w' d0 (by omega) hp1 hp2 ((hT.below hb).pw p hp1 hp2) hl1
      have hQ2 : ∀ w', Below w.heap.size w w' → _ := fun w' hb => parse32_all (d + 1) m2 p w' (by omega) (by omega) hp1 hp2 ((hT.below hb).pw p hp1 hp2) hl2
      have le1 := nearB_le (d * 10 ^ p.toNat) (10 ^ (-p).toNat) m1 hl1.1
      have le2 := nearB_le ((d + 1) * 10 ^ p.toNat) (10 ^ (-p).toNat) m2 hl2.1
      generalize hR1 : nearB (d * 10 ^ p.toNat) (10 ^ (-p).toNat) m1 = R1 at *
      generalize hR2 : nearB ((d + 1) * 10 ^ p.toNat) (10 ^ (-p).toNat) m2 = R2 at *
      have hi1 : ((d + 1 : Nat) : Int) = (d : Int) + 1 := by omega
      rw [hi1] at hQ2
      have hRb := hsp
      generalize hRR : nearB (dvL (c0 :: cs) * 10 ^ (p - t).toNat) (10 ^ ((t : Int) - p).toNat) m = R at *
      by_cases heq : R1 = R2
      · subst heq
        obtain rfl : R = R1 := by omega
        exact atof32_same s d R (erR R) (erR R) p w (by omega) (by omega) ⟨hp1, hp2⟩ (order_same R le1) hS hR hQ hQ2 hT.opt
      · have h10 : 10 ^ cs.length ≤ dvL (c0 :: cs) := by rw [← hN]; exact pD_ge _ hf0 _
        have h11 : dvL (c0 :: cs) < 10 ^ (cs.length + 1) := by rw [← hN]; exact pD_lt _ _ fun j _ => fL_lt _ hD j
        obtain ⟨g1, g2⟩ := wF_range (dvL (c0 :: cs)) cs.length e h10 h11 he1 he2
        rw [hpe, hpe2] at g1 g2
        refine atof32_slow s d R R1 R2 (erR R1) (erR R2) p w (by omega) (by omega) ⟨hp1, hp2⟩ (ord_ne R1 R2 le1 le2 heq) hS hR hQ hQ2 hT.opt (by omega)
          (fun w' b => Below w.heap.size w w' → ∃ D nd tr, GD w' b 2000 (wF (dvL (c0 :: cs) * 10 ^ (p - t).toNat) (10 ^ ((t : Int) - p).toNat)) (wS (dvL (c0 :: cs) * 10 ^ (p - t).toNat) (10 ^ ((t : Int) - p).toNat)) 200 D nd (1 + e) tr)
          (fun w' b hb hbw hz0 => ?_) (fun w' b hb hbw hP => ?_)
        · refine (hSet w' b hz0).mono ?_
          rintro r9 w9 ⟨rfl, hl⟩
          obtain ⟨k1, k2⟩ := set_tells w' w9 b s (fL (c0 :: cs)) (cs.length + 1) (1 + e) hl (by omega) (by omega) (by omega) (fL_lt _ hD) hbt hf0 (by rw [Nat.add_sub_cancel]; exact hlast hz1)
          refine ⟨rfl, k1, fun _ => ?_⟩
          rw [hN, show (1 + e - ((cs.length + 1 : Nat) : Int)) = p - t by omega, show (((cs.length + 1 : Nat) : Int) - (1 + e)) = (t : Int) - p by omega] at k2
          exact k2
        · obtain ⟨D, nd, tr, g⟩ := hP hbw
          have hTb : TabD w' b := (hTD b hb).below hbw
          have := bits_any w' b (dvL (c0 :: cs) * 10 ^ (p - t).toNat) (10 ^ ((t : Int) - p).toNat) m D nd (1 + e) tr g hTb (by omega) (by omega) g1 g2 (ten_pos _) hlw
          rw [hRR] at this
          exact this
end Go.Proofs.YtnljpbpphdhnpaaGreatDoor

/- The program's nearest of any digits at all: the document's nearest real, and whether there is one. -/
namespace Go.Proofs.YtnljpbpphdhnpaaGreatDoor
open Go.RowKit Go.PlainAid

theorem num_digit (c0 : UInt8) (cs es : List UInt8) (j : Nat) (hj : j < cs.length + 1) (h0 : 48 ≤ c0.toNat) (hc : Dig cs) : bt (bl (numT c0 cs es)) (posD j) = (fL (c0 :: cs) j : Int) + 48 := by
  have hlen := num_len c0 cs es
  rcases Nat.eq_zero_or_pos j with h | h
  · subst h
    rw [show posD 0 = 0 from rfl, num_at c0 cs es 0 (by omega)]
    show (c0.toNat : Int) = ((c0.toNat - 48 : Nat) : Int) + 48
    omega
  · obtain ⟨i, rfl⟩ : ∃ i, j = i + 1 := ⟨j - 1, by omega⟩
    have hi : i < cs.length := by omega
    rw [show posD (i + 1) = i + 2 by unfold posD; rw [if_neg (by omega)], num_at c0 cs es _ (by omega)]
    have e : (numT c0 cs es)[i + 2]'(by omega) = cs[i] := by
      unfold numT
      simp only [List.getElem_cons_succ]
      exact List.getElem_append_left hi
    rw [e]
    have hd := hc cs[i] (List.getElem_mem hi)
    have e2 : fL (c0 :: cs) (i + 1) = cs[i].toNat - 48 := by
      unfold fL
      rw [List.getD_eq_getElem?_getD, List.getElem?_cons_succ, List.getElem?_eq_getElem hi]
      rfl
    rw [e2]
    omega
theorem num_dig (c0 : UInt8) (cs es : List UInt8) (hc : Dig cs) (k : Nat) (h1 : 2 ≤ k) (h2 : k < 2 + cs.length) : 48 ≤ bt (bl (numT c0 cs es)) k ∧ bt (bl (numT c0 cs es)) k ≤ 57 := by
  have hlen := num_len c0 cs es
  obtain ⟨i, rfl⟩ : ∃ i, k = i + 2 := ⟨k - 2, by omega⟩
  have hi : i < cs.length := by omega
  rw [num_at c0 cs es _ (by omega)]
  have e : (numT c0 cs es)[i + 2]'(by omega) = cs[i] := by
    unfold numT
    simp only [List.getElem_cons_succ]
    exact List.getElem_append_left hi
  rw [e]
  have hd := hc cs[i] (List.getElem_mem hi)
  omega
/-- the real nearest to digits, the first of them at ten to e -/
abbrev nearE (c0 : UInt8) (cs : List UInt8) (e : Int) (m : Nat) : Nat := nearB (dvL (c0 :: cs) * 10 ^ (e - cs.length).toNat) (10 ^ ((cs.length : Int) - e).toNat) m
abbrev LowE (c0 : UInt8) (cs : List UInt8) (e : Int) (m : Nat) : Prop := LowB (dvL (c0 :: cs) * 10 ^ (e - cs.length).toNat) (10 ^ ((cs.length : Int) - e).toNat) m
def noEnd (c0 : UInt8) (cs : List UInt8) : Prop := cutOff cs = true → fL (c0 :: cs) cs.length ≠ 0
theorem set_upL (c0 : UInt8) (cs es : List UInt8) (h0 : 49 ≤ c0.toNat ∧ c0.toNat ≤ 57) (hc : Dig cs) (hl : cs.length ≤ 1099511627000) (he : Dig es) (hle : es.length ≤ 2) (hes : 0 < es.length) (w : World) (b : Nat) (hz : DecC w b (fun _ => 0) 0 0 false) :
    Calls Tryz.prog 159 #[.pointer (some ⟨b, 0, none⟩), .string (bl (numT c0 cs es))] w fun r w' => r = .returned (.bool true) ∧ SetL w w' b (bl (numT c0 cs es)) (cs.length + 1) (1 + (dvL es : Int)) := by
  have hlen := num_len c0 cs es
  
  have hdv := dv_two es he hle
  have h := set_up (bl (numT c0 cs es)) (2 + cs.length) b _ _ w hz (by rw [bl_size]; omega) (by omega)
      (by rw [num_at c0 cs es 0 (by omega)]; show 49 ≤ (c0.toNat : Int) ∧ (c0.toNat : Int) ≤ 57; omega)
      (by rw [num_at c0 cs es 1 (by omega)]; rfl)
      (fun k k1 k2 => num_dig c0 cs es hc k k1 k2)
      (by rw [num_at c0 cs es _ (by omega), num_e c0 cs es (by omega)]; rfl)
      (by rw [bl_size]; omega) (run_e c0 cs es he hle) (by simp [dvL])
      (by
        rw [bl_size, hlen, show cs.length + es.length + 3 - (2 + cs.length + 1) = es.length by omega, List.take_length]
        omega)
  rw [bl_size, hlen, show cs.length + es.length + 3 - (2 + cs.length + 1) = es.length by omega, List.take_length, show 2 + cs.length - 1 = cs.length + 1 by omega] at h
  exact h
theorem atof_upA (c0 : UInt8) (cs es : List UInt8) (m : Nat) (h0 : 49 ≤ c0.toNat ∧ c0.toNat ≤ 57) (hc : Dig cs) (hl : cs.length ≤ 1099511627000) (he : Dig es) (hle : es.length ≤ 2) (hes : 0 < es.length) (hk : dvL es ≤ 38) (hz : noEnd c0 cs)
    (hlw : LowE c0 cs ((dvL es : Int)) m) (w : World) (hT : TabB w) (hTD : ∀ b, w.heap.size ≤ b → TabD w b) :
    Calls Tryz.prog 124 #[.string (bl (numT c0 cs es))] w fun r w' => r = .returned (.tuple #[.float .f32 (nearE c0 cs ((dvL es : Int)) m), .int .i64 ((bl (numT c0 cs es)).size : Nat), erR (nearE c0 cs ((dvL es : Int)) m)]) ∧ Below w.heap.size w w' :=
  atof_all _ c0 cs ((dvL es : Int)) m w h0 hc (by omega) (by omega) hz hlw hT hTD (special_num c0 cs es h0) (fun w => read_up c0 cs es h0 hc hl he hle hes w) (fun w' b hzb => set_upL c0 cs es h0 hc hl he hle hes w' b hzb) (fun j hj => num_digit c0 cs es j hj (by omega) hc)
theorem nearest_upA (c0 : UInt8) (cs : List UInt8) (k m : Nat) (h0 : 49 ≤ c0.toNat ∧ c0.toNat ≤ 57) (hc : Dig cs) (hl : cs.length ≤ 1099511626000) (hk : k ≤ 38) (hz : noEnd c0 cs)
    (hlw : LowE c0 cs (k : Int) m) (w : World) (hT : TabB w) (hTD : ∀ b, w.heap.size ≤ b → TabD w b) (hV : ErV w) :
    Calls Tryz.prog 29 #[.agg #[.string (bl (c0 :: cs)), .int .i64 (k : Int)]] w fun e w' => e = .returned (.tuple #[.float .f32 (nearE c0 cs (k : Int) m), .bool (decide (nearE c0 cs (k : Int) m < 2139095040))]) ∧ Below w.heap.size w w' := by
  obtain ⟨hes, hes0, hes2⟩ := two_digits k (by omega)
  have hF : ∀ w', Below w.heap.size w w' → Calls Tryz.prog 56 #[.int .i64 k, .int .i64 10] w' fun e w'' => e = .returned (.string (bl (Lib.decDigits k))) ∧ Below w'.heap.size w' w'' := fun w' _ =>
    (Tryz.strconv_FormatInt_10_small k (by omega) w').mono (by rintro e w1 ⟨rfl, rfl⟩; exact ⟨rfl, Below.refl _ _⟩)
  have hsp := bl_extract [c0] cs
  have hlen := num_len c0 cs (Lib.decDigits k)
  
  have hA := fun w' (hb : Below w.heap.size w w') => atof_upA c0 cs (Lib.decDigits k) m h0 hc (by omega) hes hes2 hes0 (by rw [dv_dec]; exact hk) hz (by rw [dv_dec]; exact hlw) w' (hT.below hb) (fun b hb2 => (hTD b (Nat.le_trans hb.size hb2)).below hb)
  rw [dv_dec] at hA
  have hle : nearE c0 cs (k : Int) m ≤ 2139095040 := nearB_le (dvL (c0 :: cs) * 10 ^ ((k : Int) - cs.length).toNat) (10 ^ ((cs.length : Int) - (k : Int)).toNat) m hlw.1
  have h101 : bl (c0 :: 46 :: cs) ++ ⟨#[101]⟩ = bl (c0 :: 46 :: (cs ++ [101])) := bl_app (c0 :: 46 :: cs) [101]
  have hend : bl (c0 :: 46 :: (cs ++ [101])) ++ bl (Lib.decDigits k) = bl (numT c0 cs (Lib.decDigits k)) := by
    have := bl_app (c0 :: 46 :: (cs ++ [101])) (Lib.decDigits k)
    simpa [numT] using this
  by_cases hr : nearE c0 cs (k : Int) m < 2139095040
  · rw [decide_eq_true hr]
    exact nearest_rawZ (bl (c0 :: cs)) (bl [c0]) (bl cs) (bl [c0, 46]) (bl (c0 :: 46 :: cs)) (bl (c0 :: 46 :: (cs ++ [101]))) (bl (numT c0 cs (Lib.decDigits k))) (bl (Lib.decDigits k)) (k : Int) _ _ w (by omega) (by omega) (by rw [bl_size]; simp) (by rw [bl_size]; simp; omega) (nil_false _ (by simp)) hsp.1 (by rw [bl_size]; exact hsp.2) rfl (by rw [bl_size]; omega) (by rw [bl_size]; omega) (bl_app [c0] [46]) (bl_app [c0, 46] cs) h101 hend rfl (by rw [bl_size]; simp; omega) (by rw [bl_size]; simp; omega) hF (fun w' hb => pf_of _ _ w' hr (hA w' hb)) (fun w => run_convert_float_float w 80 22 .f64 .f32 _ _ (by kernel_rfl) Tryz.underlying22 (fD_end _ (by omega)))
  · rw [decide_eq_false hr]
    have hinf : nearE c0 cs (k : Int) m = 2139095040 := by omega
    rw [hinf] at hA ⊢
    exact nearest_rawE (bl (c0 :: cs)) (bl [c0]) (bl cs) (bl [c0, 46]) (bl (c0 :: 46 :: cs)) (bl (c0 :: 46 :: (cs ++ [101]))) (bl (numT c0 cs (Lib.decDigits k))) (bl (Lib.decDigits k)) (k : Int) _ _ w (by omega) (by omega) (by rw [bl_size]; simp) (by rw [bl_size]; simp; omega) (nil_false _ (by simp)) hsp.1 (by rw [bl_size]; exact hsp.2) rfl (by rw [bl_size]; omega) (by rw [bl_size]; omega) (bl_app [c0] [46]) (bl_app [c0, 46] cs) h101 hend rfl (by rw [bl_size]; simp; omega) (by rw [bl_size]; simp; omega) hF (fun w' hb => pf_inf _ w' (by rw [bl_size]; omega) (hV.below hb) (hA w' hb)) (fun w => run_convert_float_float w 80 22 .f64 .f32 _ _ (by kernel_rfl) Tryz.underlying22 (by decide))
theorem set_downL (c0 : UInt8) (cs es : List UInt8) (h0 : 49 ≤ c0.toNat ∧ c0.toNat ≤ 57) (hc : Dig cs) (hl : cs.length ≤ 1099511627000) (he : Dig es) (hle : es.length ≤ 2) (hes : 0 < es.length) (w : World) (b : Nat) (hz : DecC w b (fun _ => 0) 0 0 false) :
    Calls Tryz.prog 159 #[.pointer (some ⟨b, 0, none⟩), .string (bl (numT c0 cs (45 :: es)))] w fun r w' => r = .returned (.bool true) ∧ SetL w w' b (bl (numT c0 cs (45 :: es))) (cs.length + 1) (1 + -(dvL es : Int)) := by
  have hlen := num_len c0 cs (45 :: es)
  rw [List.length_cons] at hlen
  have hdv := dv_two es he hle
  have h := set_down (bl (numT c0 cs (45 :: es))) (2 + cs.length) b _ _ w hz (by rw [bl_size]; omega) (by omega)
      (by rw [num_at c0 cs (45 :: es) 0 (by omega)]; show 49 ≤ (c0.toNat : Int) ∧ (c0.toNat : Int) ≤ 57; omega)
      (by rw [num_at c0 cs (45 :: es) 1 (by omega)]; rfl)
      (fun k k1 k2 => num_dig c0 cs (45 :: es) hc k k1 k2)
      (by rw [num_at c0 cs (45 :: es) _ (by omega), num_e c0 cs (45 :: es) (by omega)]; rfl)
      (by
        rw [num_at c0 cs (45 :: es) _ (by omega)]
        have e : (numT c0 cs (45 :: es))[2 + cs.length + 1]'(by omega) = 45 := by
          unfold numT
          simp only [show 2 + cs.length + 1 = (cs.length + 1) + 1 + 1 by omega, List.getElem_cons_succ]
          rw [List.getElem_append_right (by omega)]
          simp
        rw [e]; rfl)
      (by rw [bl_size]; omega) (run_down c0 cs es he hle) (by simp [dvL])
      (by
        rw [bl_size, hlen, show cs.length + (es.length + 1) + 3 - (2 + cs.length + 2) = es.length by omega, List.take_length]
        omega)
  rw [bl_size, hlen, show cs.length + (es.length + 1) + 3 - (2 + cs.length + 2) = es.length by omega, List.take_length, show 2 + cs.length - 1 = cs.length + 1 by omega] at h
  exact h
theorem atof_downA (c0 : UInt8) (cs es : List UInt8) (m : Nat) (h0 : 49 ≤ c0.toNat ∧ c0.toNat ≤ 57) (hc : Dig cs) (hl : cs.length ≤ 1099511627000) (he : Dig es) (hle : es.length ≤ 2) (hes : 0 < es.length) (hk : dvL es ≤ 46) (hz : noEnd c0 cs)
    (hlw : LowE c0 cs (-(dvL es : Int)) m) (w : World) (hT : TabB w) (hTD : ∀ b, w.heap.size ≤ b → TabD w b) :
    Calls Tryz.prog 124 #[.string (bl (numT c0 cs (45 :: es)))] w fun r w' => r = .returned (.tuple #[.float .f32 (nearE c0 cs (-(dvL es : Int)) m), .int .i64 ((bl (numT c0 cs (45 :: es))).size : Nat), erR (nearE c0 cs (-(dvL es : Int)) m)]) ∧ Below w.heap.size w w' :=
  atof_all _ c0 cs (-(dvL es : Int)) m w h0 hc (by omega) (by omega) hz hlw hT hTD (special_num c0 cs (45 :: es) h0) (fun w => read_down c0 cs es h0 hc hl he hle hes w) (fun w' b hzb => set_downL c0 cs es h0 hc hl he hle hes w' b hzb) (fun j hj => num_digit c0 cs (45 :: es) j hj (by omega) hc)
theorem nearest_downA (c0 : UInt8) (cs : List UInt8) (k m : Nat) (h0 : 49 ≤ c0.toNat ∧ c0.toNat ≤ 57) (hc : Dig cs) (hl : cs.length ≤ 1099511626000) (hk : k ≤ 46) (hz : noEnd c0 cs)
    (hlw : LowE c0 cs (-(k : Int)) m) (w : World) (hT : TabB w) (hTD : ∀ b, w.heap.size ≤ b → TabD w b) (hV : ErV w)
    (hF : ∀ w', Below w.heap.size w w' → Calls Tryz.prog 56 #[.int .i64 (-(k : Int)), .int .i64 10] w' fun e w'' => e = .returned (.string (bl (45 :: Lib.decDigits k))) ∧ Below w'.heap.size w' w'') :
    Calls Tryz.prog 29 #[.agg #[.string (bl (c0 :: cs)), .int .i64 (-(k : Int))]] w fun e w' => e = .returned (.tuple #[.float .f32 (nearE c0 cs (-(k : Int)) m), .bool (decide (nearE c0 cs (-(k : Int)) m < 2139095040))]) ∧ Below w.heap.size w w' := by
  obtain ⟨hes, hes0, hes2⟩ := two_digits k (by omega)
  have hsp := bl_extract [c0] cs
  have hlen := num_len c0 cs (45 :: Lib.decDigits k)
  rw [List.length_cons] at hlen
  have hA := fun w' (hb : Below w.heap.size w w') => atof_downA c0 cs (Lib.decDigits k) m h0 hc (by omega) hes hes2 hes0 (by rw [dv_dec]; exact hk) hz (by rw [dv_dec]; exact hlw) w' (hT.below hb) (fun b hb2 => (hTD b (Nat.le_trans hb.size hb2)).below hb)
  rw [dv_dec] at hA
  have hle : nearE c0 cs (-(k : Int)) m ≤ 2139095040 := nearB_le (dvL (c0 :: cs) * 10 ^ ((-(k : Int)) - cs.length).toNat) (10 ^ ((cs.length : Int) - (-(k : Int))).toNat) m hlw.1
  have h101 : bl (c0 :: 46 :: cs) ++ ⟨#[101]⟩ = bl (c0 :: 46 :: (cs ++ [101])) := bl_app (c0 :: 46 :: cs) [101]
  have hend : bl (c0 :: 46 :: (cs ++ [101])) ++ bl (45 :: Lib.decDigits k) = bl (numT c0 cs (45 :: Lib.decDigits k)) := by
    have := bl_app (c0 :: 46 :: (cs ++ [101])) (45 :: Lib.decDigits k)
    simpa [numT] using this
  by_cases hr : nearE c0 cs (-(k : Int)) m < 2139095040
  · rw [decide_eq_true hr]
    exact nearest_rawZ (bl (c0 :: cs)) (bl [c0]) (bl cs) (bl [c0, 46]) (bl (c0 :: 46 :: cs)) (bl (c0 :: 46 :: (cs ++ [101]))) (bl (numT c0 cs (45 :: Lib.decDigits k))) (bl (45 :: Lib.decDigits k)) (-(k : Int)) _ _ w (by omega) (by omega) (by rw [bl_size]; simp) (by rw [bl_size]; simp; omega) (nil_false _ (by simp)) hsp.1 (by rw [bl_size]; exact hsp.2) rfl (by rw [bl_size]; omega) (by rw [bl_size, List.length_cons]; omega) (bl_app [c0] [46]) (bl_app [c0, 46] cs) h101 hend rfl (by rw [bl_size]; simp; omega) (by rw [bl_size]; simp; omega) hF (fun w' hb => pf_of _ _ w' hr (hA w' hb)) (fun w => run_convert_float_float w 80 22 .f64 .f32 _ _ (by kernel_rfl) Tryz.underlying22 (fD_end _ (by omega)))
  · rw [decide_eq_false hr]
    have hinf : nearE c0 cs (-(k : Int)) m = 2139095040 := by omega
    rw [hinf] at hA ⊢
    exact nearest_rawE (bl (c0 :: cs)) (bl [c0]) (bl cs) (bl [c0, 46]) (bl (c0 :: 46 :: cs)) (bl (c0 :: 46 :: (cs ++ [101]))) (bl (numT c0 cs (45 :: Lib.decDigits k))) (bl (45 :: Lib.decDigits k)) (-(k : Int)) _ _ w (by omega) (by omega) (by rw [bl_size]; simp) (by rw [bl_size]; simp; omega) (nil_false _ (by simp)) hsp.1 (by rw [bl_size]; exact hsp.2) rfl (by rw [bl_size]; omega) (by rw [bl_size, List.length_cons]; omega) (bl_app [c0] [46]) (bl_app [c0, 46] cs) h101 hend rfl (by rw [bl_size]; simp; omega) (by rw [bl_size]; simp; omega) hF (fun w' hb => pf_inf _ w' (by rw [bl_size]; omega) (hV.below hb) (hA w' hb)) (fun w => run_convert_float_float w 80 22 .f64 .f32 _ _ (by kernel_rfl) Tryz.underlying22 (by decide))
end Go.Proofs.YtnljpbpphdhnpaaGreatDoor

/- The program's cut of any text: what it asks of the library, told on rows of bytes. -/
namespace Go.Proofs.YtnljpbpphdhnpaaGreatDoor
open Go.RowKit Go.PlainAid

/-- up to a byte, and behind it -/
def hdL (l : List UInt8) (c : UInt8) : List UInt8 := l.takeWhile (fun x => x != c)
def tlL (l : List UInt8) (c : UInt8) : List UInt8 := (l.dropWhile (fun x => x != c)).drop 1
theorem hd_tl (l : List UInt8) (c : UInt8) (h : c ∈ l) : l = hdL l c ++ c :: tlL l c ∧ ∀ x ∈ hdL l c, x ≠ c := by
  unfold hdL tlL
  induction l with
  | nil => cases h
  | cons y l ih =>
    by_cases e : y = c
    · subst e; simp
    · have h2 : c ∈ l := by
        rcases List.mem_cons.1 h with h3 | h3
        · exact absurd h3.symm e
        · exact h3
      obtain ⟨i1, i2⟩ := ih h2
      rw [List.takeWhile_cons_of_pos (by simpa using e), List.dropWhile_cons_of_pos (by simpa using e)]
      refine ⟨by rw [List.cons_append, ← i1], fun x hx => ?_⟩
      rcases List.mem_cons.1 hx with rfl | hx
      · exact e
      · exact i2 x hx
theorem hd_none (l : List UInt8) (c : UInt8) (h : c ∉ l) : hdL l c = l ∧ tlL l c = [] := by
  unfold hdL tlL
  induction l with
  | nil => exact ⟨rfl, rfl⟩
  | cons y l ih =>
    have e : y ≠ c := fun e => h (e ▸ List.mem_cons_self ..)
    obtain ⟨i1, i2⟩ := ih fun h2 => h (List.mem_cons_of_mem _ h2)
    rw [List.takeWhile_cons_of_pos (by simpa using e), List.dropWhile_cons_of_pos (by simpa using e), i1]
    exact ⟨rfl, i2⟩
theorem hd_len (l : List UInt8) (c : UInt8) : (hdL l c).length ≤ l.length ∧ (tlL l c).length ≤ l.length := by
  by_cases h : c ∈ l
  · have e := congrArg List.length (hd_tl l c h).1
    rw [List.length_append, List.length_cons] at e
    omega
  · rw [(hd_none l c h).1, (hd_none l c h).2]; simp
/-- the library's Cut at one byte -/
theorem cutL (l : List UInt8) (c : UInt8) (hl : l.length ≤ 1000000000) (w : World) : Calls Tryz.prog 50 #[.string (bl l), .string ⟨#[c]⟩] w fun e w' => e = .returned (.tuple #[.string (bl (hdL l c)), .string (bl (tlL l c)), .bool (decide (c ∈ l))]) ∧ ∃ n, w' = w.drewN n := by
  by_cases h : c ∈ l
  · obtain ⟨e1, e2⟩ := hd_tl l c h
    rw [decide_eq_true h]
    have hi := index_some (hdL l c) (tlL l c) c e2
    have hlen := congrArg List.length e1
    rw [List.length_append, List.length_cons] at hlen
    have hc := cut_at (bl l) c (hdL l c).length (by rw [bl_size]; omega) (by rw [bl_size]; unfold maxLen; omega) (by rw [bl_data, ← hi, ← e1]) w
    have x1 := bl_extract (hdL l c) (c :: tlL l c)
    rw [← e1] at x1
    have x2 := bl_extract (hdL l c ++ [c]) (tlL l c)
    rw [List.append_assoc, List.singleton_append, ← e1, List.length_append, List.length_singleton, ← bl_size l] at x2
    rw [x1.1, x2.2] at hc
    exact hc
  · obtain ⟨e1, e2⟩ := hd_none l c h
    rw [decide_eq_false h, e1, e2]
    refine (cut_none (bl l) c (by rw [bl_data]; exact index_none l c (fun x hx e => h (e ▸ hx))) w).mono ?_
    rintro e w' ⟨rfl, rfl⟩
    exact ⟨rfl, 0, rfl⟩
/-- a minus ahead -/
def minL (l : List UInt8) : Bool := l.head? == some 45
def offL (l : List UInt8) : List UInt8 := if minL l = true then l.drop 1 else l
theorem prefL (l : List UInt8) (w : World) : Calls Tryz.prog 25 #[.string (bl l), .string ⟨#[45]⟩] w fun e w' => e = .returned (.tuple #[.string (bl (offL l)), .bool (minL l)]) ∧ w' = w := by
  have h := Tryz.strings_CutPrefix (bl l) ⟨#[45]⟩ w
  have e0 : (⟨#[45]⟩ : ByteArray).data.toList = [45] := rfl
  rw [bl_data, e0] at h
  have e1 : Lib.hasPrefix l [45] = minL l := by
    unfold minL
    cases l with
    | nil => rfl
    | cons x l =>
      by_cases hx : x = 45
      · subst hx; simp [Lib.hasPrefix]
      · have h1 : ((45 : UInt8) == x) = false := by simpa using fun e => hx e.symm
        have h2 : (x == (45 : UInt8)) = false := by simpa using hx
        simp [Lib.hasPrefix, List.isPrefixOf, h1, h2]
  have e2 : (⟨(Lib.trimPrefix l [45]).toArray⟩ : ByteArray) = bl (offL l) := by
    unfold Lib.trimPrefix offL
    rw [e1]
    split <;> rfl
  rw [e1, e2] at h
  exact h
/-- digits, and at least one -/
def digB (l : List UInt8) : Bool := decide (l ≠ []) && l.all fun c => decide (48 ≤ c.toNat ∧ c.toNat ≤ 57)
theorem digB_yes (l : List UInt8) : digB l = true ↔ Dig l ∧ l ≠ [] := by
  unfold digB Dig
  simp only [Bool.and_eq_true, decide_eq_true_eq, List.all_eq_true]
  exact And.comm
set_option maxRecDepth 1000000 in
theorem digits_no (s : ByteArray) (k0 : Nat) (hk : k0 < s.size) (hall : ∀ j, j < k0 → 48 ≤ bt s j ∧ bt s j ≤ 57) (hno : ¬ (48 ≤ bt s k0 ∧ bt s k0 ≤ 57)) (hs : s.size ≤ 1000000000) (w : World) : Calls Tryz.prog 51 #[.string s] w fun e w' => e = .returned (.bool false) ∧ w' = w := by
  have HG : Hid (∀ i (h : i < s.size), ((s[i]'h).toNat : Int) = bt s i) := get_bt s
  have HA : Hid (∀ j, j < k0 → 48 ≤ bt s j ∧ bt s j ≤ 57) := hall
  have HN : Hid (¬ (48 ≤ bt s k0 ∧ bt s k0 ≤ 57)) := hno
  clear hall hno
  go_enter Tryz.func51, Tryz.ntmps51
  go_wp2
  go_loop [6] (fun i => ∃ k : Nat, k ≤ k0 ∧ i = .int .i64 k) (fun i => k0 - (intOf i).toNat)
  case atStart => exact ⟨0, Nat.zero_le _, rfl⟩
  case round =>
    obtain ⟨k, hk2, rfl⟩ := hrel
    have hks : k < s.size := by omega
    have hki : (k : Int) < (s.size : Int) := by omega
    have gk : ((s[k]'hks).toNat : Int) = bt s k := HG.out k hks
    by_cases hlt : k < k0
    · obtain ⟨r1, r2⟩ := HA.out k hlt
      generalize bt s k = c at *
      go_wp2
      go_round
      case rel => exact ⟨k + 1, by omega, by go_num⟩
      case measure => simp [intOf]; omega
    · obtain rfl : k = k0 := by omega
      have hn := HN.out
      generalize bt s k = c at *
      by_cases h48 : c < 48
      · clear hn
        go_wp2
        go_ret
        exact ⟨rfl, rfl⟩
      · have h57 : 57 < c := by omega
        clear hn
        go_wp2
        go_ret
        exact ⟨rfl, rfl⟩
set_option maxRecDepth 1000000 in
theorem digits_empty (w : World) : Calls Tryz.prog 51 #[.string ⟨#[]⟩] w fun e w' => e = .returned (.bool false) ∧ w' = w := by
  go_enter Tryz.func51, Tryz.ntmps51
  go_wp2
  refine wp_loop_rounds 1 ?_
  rw [rounds_succ]
  go_wp2
  go_ret
  exact ⟨rfl, rfl⟩
theorem digitsL (l : List UInt8) (hl : l.length ≤ 1000000000) (w : World) : Calls Tryz.prog 51 #[.string (bl l)] w fun e w' => e = .returned (.bool (digB l)) ∧ w' = w := by
  by_cases hn : l = []
  · subst hn; exact digits_empty w
  · by_cases hd : Dig l
    · rw [(digB_yes l).2 ⟨hd, hn⟩]
      refine allDigits_yes (bl l) (by rw [bl_size]; exact List.length_pos_iff.2 hn) (fun j hj => ?_) (by rw [bl_size]; unfold maxLen; omega) w
      rw [bl_size] at hj
      rw [bl_bt l j hj]
      have := hd l[j] (List.getElem_mem hj)
      omega
    · have hf : digB l = false := by
        rcases Bool.eq_false_or_eq_true (digB l) with h | h
        · exact absurd ((digB_yes l).1 h).1 hd
        · exact h
      rw [hf]
      have hex : ∃ n, n < l.length ∧ ¬ (48 ≤ (l.getD n 0).toNat ∧ (l.getD n 0).toNat ≤ 57) := by
        refine Classical.byContradiction fun hc => hd fun c hc2 => ?_
        obtain ⟨n, hn2, rfl⟩ := List.mem_iff_getElem.1 hc2
        refine Classical.byContradiction fun h3 => hc ⟨n, hn2, ?_⟩
        rw [List.getD_eq_getElem?_getD, List.getElem?_eq_getElem hn2]
        exact h3
      obtain ⟨n, hn2, hn3⟩ := hex
      obtain ⟨k, hk1, hk2, hk3⟩ := least_of (fun n => ¬ (48 ≤ (l.getD n 0).toNat ∧ (l.getD n 0).toNat ≤ 57)) n hn3
      have hb : ∀ j, j < l.length → bt (bl l) j = ((l.getD j 0).toNat : Int) := fun j hj => by
        rw [bl_bt l j hj, List.getD_eq_getElem?_getD, List.getElem?_eq_getElem hj]; rfl
      refine digits_no (bl l) k (by rw [bl_size]; omega) (fun j hj => ?_) ?_ (by rw [bl_size]; exact hl) w
      · rw [hb j (by omega)]
        have := Classical.not_not.1 (hk3 j hj)
        omega
      · rw [hb k (by omega)]
        omega
end Go.Proofs.YtnljpbpphdhnpaaGreatDoor
