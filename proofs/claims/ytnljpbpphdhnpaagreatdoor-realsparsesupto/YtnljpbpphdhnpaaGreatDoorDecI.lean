/- The library's leftShift doubles the number that a decimal stands for. -/
import Derived.Test.YtnljpbpphdhnpaaGreatDoorDecK

namespace Go.Proofs.YtnljpbpphdhnpaaGreatDoor
open Go.RowKit Go.PlainAid

theorem pD_nil (f : Nat → Nat) : ∀ t, pD f t = 0 → ∀ x, x < t → f x = 0 := by
  intro t
  induction t with
  | zero => intro _ x hx; omega
  | succ t ih =>
    intro h x hx
    rw [pD_succ] at h
    by_cases e : x = t
    · rw [e]; omega
    · exact ih (by omega) x (by omega)
theorem pD_all_nil (f : Nat → Nat) : ∀ t, (∀ x, x < t → f x = 0) → pD f t = 0 := by
  intro t
  induction t with
  | zero => intro _; rfl
  | succ t ih =>
    intro h
    rw [pD_succ, ih fun x hx => h x (by omega), h t (by omega)]
/-- L digits, cut at 800, without the noughts at the end: what they tell -/
theorem cut_tells (w : World) (b B F : Nat) (st : Bool) (m : Nat) (f : Nat → Nat) (L M : Nat) (D2 : Nat → Int) (dp : Int) (tr t2 : Bool) (hf : ∀ x, f x < 10) (h1 : 1 ≤ f 0) (hB : 2000 ≤ B) (hL : L ≤ 900) (hp : -1000 ≤ dp) (hm : dp + m ≤ 800)
    (hse : Sees B F st m (pD f L) L dp tr) (hc : DecC w b D2 M dp t2) (hdg : ∀ x, x < min L 800 → D2 x = (f x : Int) + 48) (hM0 : 0 < M) (hM1 : M ≤ min L 800) (hM2 : ∀ x, M ≤ x → x < min L 800 → D2 x = 48) (hM3 : D2 (M - 1) ≠ 48)
    (ht1 : (∀ x, 800 ≤ x → x < L → f x = 0) → t2 = tr) (ht2 : ∀ x, 800 ≤ x → x < L → f x ≠ 0 → t2 = true) : GD w b B F st m D2 M dp t2 := by
  have s2 : Sees B F st m (pD f (min L 800)) ((min L 800 : Nat) : Int) dp t2 := by
    by_cases h8 : L ≤ 800
    · rw [show min L 800 = L by omega, ht1 (fun x x1 x2 => by omega)]; exact hse
    · rw [show min L 800 = 800 by omega]
      have hsp := pD_split f 800 (L - 800)
      rw [show 800 + (L - 800) = L by omega] at hsp
      have hse2 : Sees B F st m (pD f 800 * 10 ^ (L - 800) + pD (fun x => f (800 + x)) (L - 800)) (((800 : Nat) : Int) + ((L - 800 : Nat) : Int)) dp tr := by
        rw [← hsp, show ((800 : Nat) : Int) + ((L - 800 : Nat) : Int) = (L : Int) by omega]; exact hse
      by_cases hb : pD (fun x => f (800 + x)) (L - 800) = 0
      · rw [hb, Nat.add_zero] at hse2
        have h3 := pD_nil _ _ hb
        rw [ht1 fun x x1 x2 => by
          have := h3 (x - 800) (by omega)
          rwa [show 800 + (x - 800) = x by omega] at this]
        exact sees_trim B F st m _ _ dp tr (L - 800) (by omega) hse2
      · refine sees_cut B F st m (pD f 800) (L - 800) _ ((800 : Nat) : Int) dp tr t2 hse2 (pD_lt _ _ fun j _ => hf _) (by omega) (fun h => by omega) (fun _ => ⟨?_, hb, by omega⟩)
        rcases Classical.em (∃ x, 800 ≤ x ∧ x < L ∧ f x ≠ 0) with ⟨x, x1, x2, x3⟩ | h
        · exact ht2 x x1 x2 x3
        · refine absurd (pD_all_nil _ _ fun x hx => ?_) hb
          rcases Nat.eq_zero_or_pos (f (800 + x)) with h9 | h9
          · exact h9
          · exact absurd ⟨800 + x, by omega, by omega, by omega⟩ h
  have hqz : pD f (min L 800) = pD (eD D2 M) M * 10 ^ (min L 800 - M) := by
    have hsp := pD_split f M (min L 800 - M)
    rw [show M + (min L 800 - M) = min L 800 by omega] at hsp
    rw [hsp]
    have h1 : pD f M = pD (eD D2 M) M := pD_congr _ _ _ fun j hj => by
      have h2 := hdg j (by omega)
      unfold eD
      rw [if_pos hj, h2]
      omega
    have h2 : pD (fun j => f (M + j)) (min L 800 - M) = 0 := pD_all_nil _ _ fun j hj => by
      have h4 := hM2 (M + j) (by omega) (by omega)
      have h5 := hdg (M + j) (by omega)
      omega
    rw [h1, h2, Nat.add_zero]
  rw [hqz] at s2
  refine ⟨hc, fun j hj => ?_, hM0, by omega, ?_, fun _ => hM3, ?_⟩
  · have h2 := hdg j (by omega)
    have h3 := hf j
    omega
  · have h2 := hdg 0 (by omega)
    omega
  · refine sees_trim B F st m (pD (eD D2 M) M) M dp t2 (min L 800 - M) (by omega) ?_
    rw [show (M : Int) + ((min L 800 - M : Nat) : Int) = ((min L 800 : Nat) : Int) by omega]
    exact s2
/-- a row of the library's table -/
structure LFact (k δ : Nat) (s : ByteArray) : Prop where
  sz : s.size ≤ 100
  dg : ∀ j, j < s.size → 48 ≤ bt s j ∧ bt s j ≤ 57
  s0 : 0 < s.size
  sl : bt s (s.size - 1) ≠ 48
  five : pD (cD s) s.size = 5 ^ k
  len : δ + s.size = k + 1
  d1 : 1 ≤ δ
  d2 : δ ≤ 20
  c1 : 2 ^ k ≤ 10 ^ δ
  c2 : 10 ^ (δ - 1) ≤ 2 ^ k
theorem left_g (w : World) (b B F : Nat) (st : Bool) (m k δ : Nat) (s : ByteArray) (D : Nat → Int) (nd : Nat) (dp : Int) (tr : Bool) (g : GD w b B F st (m + k) D nd dp tr) (hr : LRow w k δ s) (hf : LFact k δ s) (hB : 2000 ≤ B) (hp1 : -900 ≤ dp) (hp2 : dp ≤ 1000) (hk1 : 1 ≤ k) (hk2 : k ≤ 60) (hm : dp + m ≤ 700) :
    Calls Tryz.prog 181 #[.pointer (some ⟨b, 0, none⟩), .int .u64 (k : Nat)] w fun e w' => e = .returned (.tuple #[]) ∧ Keep [b] w w' ∧ ∃ D2 nd2 dp2 tr2, GD w' b B F st m D2 nd2 dp2 tr2 ∧ dp ≤ dp2 ∧ dp2 ≤ dp + 20 := by
  have he := fun j => eD_lt g.dg j
  have hz := fun j (hj : nd ≤ j) => eD_out D nd j hj
  obtain ⟨a1, a2⟩ := ahead_is (eD D nd) nd k δ s.size he hz g.e0 g.n0 hf.len hf.d1 hf.c1 hf.c2
  have hd2 := hf.d2
  have hd1 := hf.d1
  obtain ⟨j, hj⟩ : ∃ j, j = if pD (eD D nd) s.size < pD (cD s) s.size then δ - 1 else δ := ⟨_, rfl⟩
  have hjj : pD (eD D nd) nd * 2 ^ k < 10 ^ (nd + j) ∧ (0 < j → 10 ^ (nd + j - 1) ≤ pD (eD D nd) nd * 2 ^ k) ∧ j ≤ 20 := by
    rw [hj, hf.five]
    split
    · rename_i h
      obtain ⟨b1, b2⟩ := a1 h
      refine ⟨by rw [Nat.add_comm nd]; exact b1, fun h2 => ?_, by omega⟩
      rw [show nd + (δ - 1) - 1 = δ - 2 + nd by omega]
      exact b2 (by omega)
    · rename_i h
      obtain ⟨b1, b2⟩ := a2 (by omega)
      refine ⟨by rw [Nat.add_comm nd]; exact b1, fun h2 => ?_, by omega⟩
      rw [show nd + δ - 1 = δ - 1 + nd by omega]
      exact b2
  obtain ⟨j1, j2, j3⟩ := hjj
  have n0 := g.n0
  have n8 := g.n8
  have hend : tL (eD D nd) nd k (nd + j) = 0 := by rw [tL_div]; exact Nat.div_eq_of_lt j1
  have hmid : ∀ i, nd ≤ i → i < nd + j → tL (eD D nd) nd k i ≠ 0 := by
    intro i i1 i2
    obtain ⟨x, rfl⟩ : ∃ x, i = nd + x := ⟨i - nd, by omega⟩
    rw [tL_div]
    have h1 : 10 ^ (nd + x) ≤ 10 ^ (nd + j - 1) := Nat.pow_le_pow_right (by decide) (by omega)
    have h2 := j2 (by omega)
    have h3 : 1 ≤ pD (eD D nd) nd * 2 ^ k / 10 ^ (nd + x) := (Nat.le_div_iff_mul_le (ten_pos _)).2 (by omega)
    omega
  have hnum := oL_num (eD D nd) nd k j hend
  have htop : 1 ≤ oL (eD D nd) nd k (nd + j) 0 := by
    refine first_pos _ (nd + j - 1) (fun x => oL_lt _ _ _ _ x) ?_
    rw [show nd + j - 1 + 1 = nd + j by omega, hnum]
    rcases Nat.eq_zero_or_pos j with h | h
    · subst h
      have h1 := pD_ge (eD D nd) g.e0 (nd - 1)
      rw [show nd - 1 + 1 = nd by omega] at h1
      rw [Nat.add_zero]
      have h2 : pD (eD D nd) nd ≤ pD (eD D nd) nd * 2 ^ k := Nat.le_mul_of_pos_right _ (Nat.two_pow_pos k)
      omega
    · exact j2 h
  refine (left_walk w b k δ j s D nd dp tr g.c g.dg n0 n8 (by omega) (by omega) hk1 hk2 hr hf.sz hf.dg hf.s0 hf.sl hd1 hd2 hj hend hmid htop).mono ?_
  rintro e9 w9 ⟨rfl, hk, hd⟩
  refine ⟨rfl, hk, ?_⟩
  obtain ⟨M, D2, t2, hc, hdg, hM0, hM1, hM2, hM3, ht1, ht2⟩ := hd.ex
  have hs1 := sees_double B F st m _ nd dp tr k j g.se
  rw [← hnum, show (nd : Int) + (j : Int) = ((nd + j : Nat) : Int) by omega] at hs1
  exact ⟨D2, M, dp + j, t2, cut_tells w9 b B F st m (oL (eD D nd) nd k (nd + j)) (nd + j) M D2 (dp + j) tr t2 (fun x => oL_lt _ _ _ _ x) htop hB (by omega) (by omega) (by omega) hs1 hc hdg hM0 hM1 hM2 hM3 ht1 ht2, by omega, by omega⟩
end Go.Proofs.YtnljpbpphdhnpaaGreatDoor

/- The library's Shift, shouldRoundUp and RoundedInteger of a decimal. -/
namespace Go.Proofs.YtnljpbpphdhnpaaGreatDoor
open Go.RowKit Go.PlainAid

set_option maxRecDepth 1000000 in
theorem shift_down (w : World) (b B F : Nat) (st : Bool) (m k : Nat) (D : Nat → Int) (nd : Nat) (dp : Int) (tr : Bool) (g : GD w b B F st m D nd dp tr) (hB : 2000 ≤ B) (hp1 : -1000 ≤ dp) (hp2 : dp ≤ 1000) (hk1 : 1 ≤ k) (hk2 : k ≤ 60) (hm : dp + m + k ≤ 700) :
    Calls Tryz.prog 142 #[.pointer (some ⟨b, 0, none⟩), .int .i64 (-(k : Int))] w fun e w' => e = .returned (.tuple #[]) ∧ Keep [b] w w' ∧ ∃ D2 nd2 dp2 tr2, GD w' b B F st (m + k) D2 nd2 dp2 tr2 ∧ dp - 20 ≤ dp2 ∧ dp2 ≤ dp := by
  have hR := right_g w b B F st m k D nd dp tr g hB hp1 hp2 hk1 hk2 hm
  have c800 := g.c.nd
  have n0 := g.n0
  have hnb : ((nd : Int) == 0) = false := by simpa using (show (nd : Int) ≠ 0 by omega)
  clear g
  go_enter Tryz.func142, Tryz.ntmps142
  go_wp2
  refine wp_loop_rounds 1 ?_
  rw [rounds_succ]
  go_wp2_with (first | (go_at_call 182; refine hR.mono ?_; rintro e9 w9 ⟨rfl, hk9, hm9⟩; have HF : Hid _ := And.intro hk9 hm9; clear hk9 hm9))
  go_end0
  exact ⟨rfl, HF.out.1, HF.out.2⟩
set_option maxRecDepth 1000000 in
theorem shift_up (w : World) (b B F : Nat) (st : Bool) (m k δ : Nat) (s : ByteArray) (D : Nat → Int) (nd : Nat) (dp : Int) (tr : Bool) (g : GD w b B F st (m + k) D nd dp tr) (hr : LRow w k δ s) (hf : LFact k δ s) (hB : 2000 ≤ B) (hp1 : -900 ≤ dp) (hp2 : dp ≤ 1000) (hk1 : 1 ≤ k) (hk2 : k ≤ 60) (hm : dp + m ≤ 700) :
    Calls Tryz.prog 142 #[.pointer (some ⟨b, 0, none⟩), .int .i64 (k : Nat)] w fun e w' => e = .returned (.tuple #[]) ∧ Keep [b] w w' ∧ ∃ D2 nd2 dp2 tr2, GD w' b B F st m D2 nd2 dp2 tr2 ∧ dp ≤ dp2 ∧ dp2 ≤ dp + 20 := by
  have hR := left_g w b B F st m k δ s D nd dp tr g hr hf hB hp1 hp2 hk1 hk2 hm
  have c800 := g.c.nd
  have n0 := g.n0
  have hnb : ((nd : Int) == 0) = false := by simpa using (show (nd : Int) ≠ 0 by omega)
  clear g
  go_enter Tryz.func142, Tryz.ntmps142
  go_wp2
  refine wp_loop_rounds 1 ?_
  rw [rounds_succ]
  go_wp2_with (first | (go_at_call 181; refine hR.mono ?_; rintro e9 w9 ⟨rfl, hk9, hm9⟩; have HF : Hid _ := And.intro hk9 hm9; clear hk9 hm9))
  go_end0
  exact ⟨rfl, HF.out.1, HF.out.2⟩
/-- whether a row of digits is rounded up behind its first p -/
def upDec (D : Nat → Int) (nd p : Nat) (tr : Bool) : Bool :=
  if nd ≤ p then false else if D p = 53 ∧ p + 1 = nd then (if tr = true then true else decide (0 < p ∧ (D (p - 1) - 48) % 2 = 1)) else decide (53 ≤ D p)
set_option maxRecDepth 1000000 in
theorem should_any (w : World) (b : Nat) (D : Nat → Int) (nd p : Nat) (dp : Int) (tr : Bool) (h : DecC w b D nd dp tr) (hd : DgD D nd) (n8 : nd ≤ 800) (hp : p ≤ 20) :
    Calls Tryz.prog 183 #[.pointer (some ⟨b, 0, none⟩), .int .i64 (p : Nat)] w fun e w' => e = .returned (.bool (upDec D nd p tr)) ∧ w' = w := by
  have c800 := h.nd
  have c803 := h.tr
  by_cases h1 : nd ≤ p
  · have e : upDec D nd p tr = false := by unfold upDec; rw [if_pos h1]
    rw [e]
    clear e
    go_enter Tryz.func183, Tryz.ntmps183
    go_wp2
    go_ret
    exact ⟨rfl, rfl⟩
  · have hlt : (p : Int) < (nd : Int) := by omega
    obtain ⟨d1, d2⟩ := hd p (by omega)
    have cp := h.dg p (by omega)
    by_cases h2 : D p = 53
    · rw [h2] at cp
      by_cases h3 : p + 1 = nd
      · have e3 : (p : Int) + 1 = (nd : Int) := by omega
        cases tr with
        | true =>
          have e : upDec D nd p true = true := by unfold upDec; rw [if_neg h1, if_pos ⟨h2, h3⟩, if_pos rfl]
          rw [e]
          clear e
          go_enter Tryz.func183, Tryz.ntmps183
          go_wp2
          go_ret
          exact ⟨rfl, rfl⟩
        | false =>
          by_cases h4 : p = 0
          · subst h4
            have e : upDec D nd 0 false = false := by unfold upDec; rw [if_neg h1, if_pos ⟨h2, h3⟩, if_neg (by simp)]; simp
            rw [e]
            obtain rfl : nd = 1 := by omega
            have c8 : w.cell? ⟨b, 800, none⟩ = some (.int .i64 1) := c800
            have hv : Calls Tryz.prog 183 #[.pointer (some ⟨b, 0, none⟩), .int .i64 0] w fun e w' => e = .returned (.bool false) ∧ w' = w := by
              clear e h hd e3 hlt c800 d1 d2
              go_enter Tryz.func183, Tryz.ntmps183
              go_wp2
              go_ret
              exact ⟨rfl, rfl⟩
            exact hv
          · obtain ⟨q, rfl⟩ : ∃ q, p = q + 1 := ⟨p - 1, by omega⟩
            have e : upDec D nd (q + 1) false = decide ((D q - 48) % 2 = 1) := by
              unfold upDec
              rw [if_neg h1, if_pos ⟨h2, h3⟩, if_neg (by simp)]
              simp
            obtain ⟨f1, f2⟩ := hd q (by omega)
            have cq := h.dg q (by omega)
            have e9 : ((q + 1 : Nat) : Int) = (q : Int) + 1 := by omega
            rw [e]
            clear e h hd d1 d2 h2
            generalize D q = c at *
            by_cases h5 : (c - 48) % 2 = 1
            · have hb : (((c - 48) % 2 : Int) != 0) = true := by rw [h5]; rfl
              rw [e9] at *
              go_enter Tryz.func183, Tryz.ntmps183
              go_wp2
              go_ret
              exact ⟨rfl, rfl⟩
            · have h6 : (c - 48) % 2 = 0 := by omega
              rw [e9] at *
              go_enter Tryz.func183, Tryz.ntmps183
              go_wp2
              go_ret
              exact ⟨rfl, rfl⟩
      · have e3 : ((p : Int) + 1 == (nd : Int)) = false := by simp only [beq_eq_false_iff_ne]; omega
        have e : upDec D nd p tr = true := by
          unfold upDec
          rw [if_neg h1, if_neg (fun h => h3 h.2), h2]
          rfl
        rw [e]
        clear e
        go_enter Tryz.func183, Tryz.ntmps183
        go_wp2
        go_ret
        exact ⟨rfl, rfl⟩
    · have e2 : (D p == 53) = false := by simpa using h2
      have e : upDec D nd p tr = decide (53 ≤ D p) := by
        unfold upDec
        rw [if_neg h1, if_neg (fun h => h2 h.1)]
      rw [e]
      clear e h hd h2
      generalize D p = c at *
      go_enter Tryz.func183, Tryz.ntmps183
      go_wp2
      go_ret
      exact ⟨rfl, rfl⟩
set_option maxRecDepth 1000000 in
theorem rounded_any (w : World) (b : Nat) (D : Nat → Int) (nd p : Nat) (tr : Bool) (h : DecC w b D nd p tr) (hd : DgD D nd) (n8 : nd ≤ 800) (hp : p ≤ 10) :
    Calls Tryz.prog 191 #[.pointer (some ⟨b, 0, none⟩)] w fun e w' => e = .returned (.int .u64 ((pD (eD D nd) p : Int) + (if upDec D nd p tr = true then 1 else 0))) ∧ w' = w := by
  obtain ⟨R, hR⟩ : ∃ R : Int, ((pD (eD D nd) p : Int) + (if upDec D nd p tr = true then 1 else 0)) = R := ⟨_, rfl⟩
  have HR : Hid (((pD (eD D nd) p : Int) + (if upDec D nd p tr = true then 1 else 0)) = R) := hR
  rw [hR]
  clear hR
  have H : Hid (DecC w b D nd p tr) := h
  have HD : Hid (DgD D nd) := hd
  have hS := should_any w b D nd p p tr h hd n8 (by omega)
  have c800 := h.nd
  have c801 := h.dp
  have HB : Hid (∀ i, i ≤ 10 → pD (eD D nd) i < 10000000000) := fun i hi => by
    show pD (eD D nd) i < 10000000000
    have h1 := pD_lt (eD D nd) i fun j _ => eD_lt hd j
    have h2 : 10 ^ i ≤ 10 ^ 10 := Nat.pow_le_pow_right (by decide) hi
    omega
  clear h hd
  go_enter Tryz.func191, Tryz.ntmps191
  go_wp2
  go_loop [3, 4] (fun i n => ∃ j : Nat, j ≤ p ∧ j ≤ nd ∧ i = .int .i64 (j : Nat) ∧ n = .int .u64 (pD (eD D nd) j : Nat)) (fun i _ => p - (intOf i).toNat)
  case atStart => exact ⟨0, Nat.zero_le _, Nat.zero_le _, rfl, rfl⟩
  case round =>
    obtain ⟨j, hj, hjn, rfl, rfl⟩ := hrel
    have hb := HB.out j (by omega)
    by_cases hlt : j < p ∧ j < nd
    · obtain ⟨h1, h2⟩ := hlt
      have h1i : (j : Int) < (p : Int) := by omega
      have h2i : (j : Int) < (nd : Int) := by omega
      obtain ⟨d1, d2⟩ := HD.out j h2
      have cj := H.out.dg j (by omega)
      have hv := eD_val HD.out j h2
      have he9 := eD_lt HD.out j
      rw [hv] at cj
      have hS1 : Hid (pD (eD D nd) (j + 1) = pD (eD D nd) j * 10 + eD D nd j) := pD_succ _ _
      clear d1 d2 hv hS
      generalize eD D nd j = e at *
      generalize pD (eD D nd) j = n at *
      go_wp2
      go_round
      case rel => exact ⟨j + 1, by omega, by omega, by go_num, by rw [hS1.out]; go_num⟩
      case measure => simp [intOf]; omega
    · have hor : Hid (j = p ∨ j = nd) := by show j = p ∨ j = nd; omega
      have hcase : (¬ (j : Int) < (p : Int)) ∨ ((j : Int) < (p : Int) ∧ ¬ (j : Int) < (nd : Int)) := by omega
      rcases hcase with hc1 | ⟨hc1, hc2⟩
      · clear hlt
        go_wp2
        go_loop [3, 4] (fun i n => ∃ x : Nat, j ≤ x ∧ x ≤ p ∧ i = .int .i64 (x : Nat) ∧ n = .int .u64 (pD (eD D nd) x : Nat)) (fun i _ => p - (intOf i).toNat)
        case atStart => exact ⟨j, Nat.le_refl _, hj, rfl, rfl⟩
        case round =>
          obtain ⟨x, hx1, hx2, rfl, rfl⟩ := hrel
          have hb2 := HB.out x (by omega)
          by_cases hxp : x < p
          · omega
          · obtain rfl : x = p := by omega
            generalize pD (eD D nd) x = n at *
            generalize upDec D nd x tr = u at *
            cases u with
            | true =>
              go_wp2_with fail
              refine hS.mono ?_
              rintro e9 w9 ⟨rfl, hw9⟩
              obtain rfl := hw9.symm
              clear hw9
              go_wp2
              go_ret
              exact ⟨by rw [← HR.out]; rfl, rfl⟩
            | false =>
              go_wp2_with fail
              refine hS.mono ?_
              rintro e9 w9 ⟨rfl, hw9⟩
              obtain rfl := hw9.symm
              clear hw9
              go_wp2
              go_ret
              exact ⟨by rw [← HR.out, if_neg (by simp), Int.add_zero]; rfl, rfl⟩
      · clear hlt
        go_wp2
        go_loop [3, 4] (fun i n => ∃ x : Nat, j ≤ x ∧ x ≤ p ∧ i = .int .i64 (x : Nat) ∧ n = .int .u64 (pD (eD D nd) x : Nat)) (fun i _ => p - (intOf i).toNat)
        case atStart => exact ⟨j, Nat.le_refl _, hj, rfl, rfl⟩
        case round =>
          obtain ⟨x, hx1, hx2, rfl, rfl⟩ := hrel
          have hb2 := HB.out x (by omega)
          by_cases hxp : x < p
          · have hxi : (x : Int) < (p : Int) := by omega
            have hS1 : Hid (pD (eD D nd) (x + 1) = pD (eD D nd) x * 10) := by
              show _ = _
              have hnd : nd ≤ x := by rcases hor.out with h | h <;> omega
              rw [pD_succ, eD_out D nd x hnd, Nat.add_zero]
            clear hS
            generalize pD (eD D nd) x = n at *
            go_wp2
            go_round
            case rel => exact ⟨x + 1, by omega, by omega, by go_num, by rw [hS1.out]; go_num⟩
            case measure => simp [intOf]; omega
          · obtain rfl : x = p := by omega
            generalize pD (eD D nd) x = n at *
            generalize upDec D nd x tr = u at *
            cases u with
            | true =>
              go_wp2_with fail
              refine hS.mono ?_
              rintro e9 w9 ⟨rfl, hw9⟩
              obtain rfl := hw9.symm
              clear hw9
              go_wp2
              go_ret
              exact ⟨by rw [← HR.out]; rfl, rfl⟩
            | false =>
              go_wp2_with fail
              refine hS.mono ?_
              rintro e9 w9 ⟨rfl, hw9⟩
              obtain rfl := hw9.symm
              clear hw9
              go_wp2
              go_ret
              exact ⟨by rw [← HR.out, if_neg (by simp), Int.add_zero]; rfl, rfl⟩
end Go.Proofs.YtnljpbpphdhnpaaGreatDoor
