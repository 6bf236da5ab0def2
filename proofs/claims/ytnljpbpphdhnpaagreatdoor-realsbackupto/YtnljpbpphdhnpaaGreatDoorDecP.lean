/- The library's leftShift doubles the number that a decimal stands for. -/
import Derived.Test.YtnljpbpphdhnpaaGreatDoorDecK
import Derived.ScopeJumps

namespace Go.Proofs.YtnljpbpphdhnpaaGreatDoor
open Go.RowKit Go.PlainAid

theorem pD_nil (f : Nat → Nat) : ∀ t, pD f t = 0 → ∀ x, x < t → f x = 0 := by
  intro t
  induction t with
  | zero => intro _ x hx; omega
  | succ t ih =>
    intro h x hx
    rw [pD_succ] at h
    by_cases e : x = t
    · rw [e]; omega
    · exact ih (by omega) x (by omega)
theorem pD_all_nil (f : Nat → Nat) : ∀ t, (∀ x, x < t → f x = 0) → pD f t = 0 := by
  intro t
  induction t with
  | zero => intro _; rfl
  | succ t ih =>
    intro h
    rw [pD_succ, ih fun x hx => h x (by omega), h t (by omega)]
/-- L digits, cut at 800, without the noughts at the end: what they tell -/
theorem cut_tells (w : World) (b B F : Nat) (st : Bool) (m : Nat) (f : Nat → Nat) (L M : Nat) (D2 : Nat → Int) (dp : Int) (tr t2 : Bool) (hf : ∀ x, f x < 10) (h1 : 1 ≤ f 0) (hB : 2000 ≤ B) (hL : L ≤ 900) (hp : -1000 ≤ dp) (hm : dp + m ≤ 800)
    (hse : Sees B F st m (pD f L) L dp tr) (hc : DecC w b D2 M dp t2) (hdg : ∀ x, x < min L 800 → D2 x = (f x : Int) + 48) (hM0 : 0 < M) (hM1 : M ≤ min L 800) (hM2 : ∀ x, M ≤ x → x < min L 800 → D2 x = 48) (hM3 : D2 (M - 1) ≠ 48)
    (ht1 : (∀ x, 800 ≤ x → x < L → f x = 0) → t2 = tr) (ht2 : ∀ x, 800 ≤ x → x < L → f x ≠ 0 → t2 = true) : GD w b B F st m D2 M dp t2 := by
  have s2 : Sees B F st m (pD f (min L 800)) ((min L 800 : Nat) : Int) dp t2 := by
    by_cases h8 : L ≤ 800
    · rw [show min L 800 = L by omega, ht1 (fun x x1 x2 => by omega)]; exact hse
    · rw [show min L 800 = 800 by omega]
      have hsp := pD_split f 800 (L - 800)
      rw [show 800 + (L - 800) = L by omega] at hsp
      have hse2 : Sees B F st m (pD f 800 * 10 ^ (L - 800) + pD (fun x => f (800 + x)) (L - 800)) (((800 : Nat) : Int) + ((L - 800 : Nat) : Int)) dp tr := by
        rw [← hsp, show ((800 : Nat) : Int) + ((L - 800 : Nat) : Int) = (L : Int) by omega]; exact hse
      by_cases hb : pD (fun x => f (800 + x)) (L - 800) = 0
      · rw [hb, Nat.add_zero] at hse2
        have h3 := pD_nil _ _ hb
        rw [ht1 fun x x1 x2 => by
          have := h3 (x - 800) (by omega)
          rwa [show 800 + (x - 800) = x by omega] at this]
        exact sees_trim B F st m _ _ dp tr (L - 800) (by omega) hse2
      · refine sees_cut B F st m (pD f 800) (L - 800) _ ((800 : Nat) : Int) dp tr t2 hse2 (pD_lt _ _ fun j _ => hf _) (by omega) (fun h => by omega) (fun _ => ⟨?_, hb, by omega⟩)
        rcases Classical.em (∃ x, 800 ≤ x ∧ x < L ∧ f x ≠ 0) with ⟨x, x1, x2, x3⟩ | h
        · exact ht2 x x1 x2 x3
        · refine absurd (pD_all_nil _ _ fun x hx => ?_) hb
          rcases Nat.eq_zero_or_pos (f (800 + x)) with h9 | h9
          · exact h9
          · exact absurd ⟨800 + x, by omega, by omega, by omega⟩ h
  have hqz : pD f (min L 800) = pD (eD D2 M) M * 10 ^ (min L 800 - M) := by
    have hsp := pD_split f M (min L 800 - M)
    rw [show M + (min L 800 - M) = min L 800 by omega] at hsp
    rw [hsp]
    have h1 : pD f M = pD (eD D2 M) M := pD_congr _ _ _ fun j hj => by
      have h2 := hdg j (by omega)
      unfold eD
      rw [if_pos hj, h2]
      omega
    have h2 : pD (fun j => f (M + j)) (min L 800 - M) = 0 := pD_all_nil _ _ fun j hj => by
      have h4 := hM2 (M + j) (by omega) (by omega)
      have h5 := hdg (M + j) (by omega)
      omega
    rw [h1, h2, Nat.add_zero]
  rw [hqz] at s2
  refine ⟨hc, fun j hj => ?_, hM0, by omega, ?_, fun _ => hM3, ?_⟩
  · have h2 := hdg j (by omega)
    have h3 := hf j
    omega
  · have h2 := hdg 0 (by omega)
    omega
  · refine sees_trim B F st m (pD (eD D2 M) M) M dp t2 (min L 800 - M) (by omega) ?_
    rw [show (M : Int) + ((min L 800 - M : Nat) : Int) = ((min L 800 : Nat) : Int) by omega]
    exact s2
/-- a row of the library's table -/
structure LFact (k δ : Nat) (s : ByteArray) : Prop where
  sz : s.size ≤ 100
  dg : ∀ j, j < s.size → 48 ≤ bt s j ∧ bt s j ≤ 57
  s0 : 0 < s.size
  sl : bt s (s.size - 1) ≠ 48
  five : pD (cD s) s.size = 5 ^ k
  len : δ + s.size = k + 1
  d1 : 1 ≤ δ
  d2 : δ ≤ 20
  c1 : 2 ^ k ≤ 10 ^ δ
  c2 : 10 ^ (δ - 1) ≤ 2 ^ k
theorem left_g (w : World) (b B F : Nat) (st : Bool) (m k δ : Nat) (s : ByteArray) (D : Nat → Int) (nd : Nat) (dp : Int) (tr : Bool) (g : GD w b B F st (m + k) D nd dp tr) (hr : LRow w k δ s) (hf : LFact k δ s) (hB : 2000 ≤ B) (hp1 : -900 ≤ dp) (hp2 : dp ≤ 1000) (hk1 : 1 ≤ k) (hk2 : k ≤ 60) (hm : dp + m ≤ 700) :
    Calls Tryz.prog 181 #[.pointer (some ⟨b, 0, none⟩), .int .u64 (k : Nat)] w fun e w' => e = .returned (.tuple #[]) ∧ Keep [b] w w' ∧ ∃ D2 nd2 dp2 tr2, GD w' b B F st m D2 nd2 dp2 tr2 ∧ dp ≤ dp2 ∧ dp2 ≤ dp + 20 := by
  have he := fun j => eD_lt g.dg j
  have hz := fun j (hj : nd ≤ j) => eD_out D nd j hj
  obtain ⟨a1, a2⟩ := ahead_is (eD D nd) nd k δ s.size he hz g.e0 g.n0 hf.len hf.d1 hf.c1 hf.c2
  have hd2 := hf.d2
  have hd1 := hf.d1
  obtain ⟨j, hj⟩ : ∃ j, j = if pD (eD D nd) s.size < pD (cD s) s.size then δ - 1 else δ := ⟨_, rfl⟩
  have hjj : pD (eD D nd) nd * 2 ^ k < 10 ^ (nd + j) ∧ (0 < j → 10 ^ (nd + j - 1) ≤ pD (eD D nd) nd * 2 ^ k) ∧ j ≤ 20 := by
    rw [hj, hf.five]
    split
    · rename_i h
      obtain ⟨b1, b2⟩ := a1 h
      refine ⟨by rw [Nat.add_comm nd]; exact b1, fun h2 => ?_, by omega⟩
      rw [show nd + (δ - 1) - 1 = δ - 2 + nd by omega]
      exact b2 (by omega)
    · rename_i h
      obtain ⟨b1, b2⟩ := a2 (by omega)
      refine ⟨by rw [Nat.add_comm nd]; exact b1, fun h2 => ?_, by omega⟩
      rw [show nd + δ - 1 = δ - 1 + nd by omega]
      exact b2
  obtain ⟨j1, j2, j3⟩ := hjj
  have n0 := g.n0
  have n8 := g.n8
  have hend : tL (eD D nd) nd k (nd + j) = 0 := by rw [tL_div]; exact Nat.div_eq_of_lt j1
  have hmid : ∀ i, nd ≤ i → i < nd + j → tL (eD D nd) nd k i ≠ 0 := by
    intro i i1 i2
    obtain ⟨x, rfl⟩ : ∃ x, i = nd + x := ⟨i - nd, by omega⟩
    rw [tL_div]
    have h1 : 10 ^ (nd + x) ≤ 10 ^ (nd + j - 1) := Nat.pow_le_pow_right (by decide) (by omega)
    have h2 := j2 (by omega)
    have h3 : 1 ≤ pD (eD D nd) nd * 2 ^ k / 10 ^ (nd + x) := (Nat.le_div_iff_mul_le (ten_pos _)).2 (by omega)
    omega
  have hnum := oL_num (eD D nd) nd k j hend
  have htop : 1 ≤ oL (eD D nd) nd k (nd + j) 0 := by
    refine first_pos _ (nd + j - 1) (fun x => oL_lt _ _ _ _ x) ?_
    rw [show nd + j - 1 + 1 = nd + j by omega, hnum]
    rcases Nat.eq_zero_or_pos j with h | h
    · subst h
      have h1 := pD_ge (eD D nd) g.e0 (nd - 1)
      rw [show nd - 1 + 1 = nd by omega] at h1
      rw [Nat.add_zero]
      have h2 : pD (eD D nd) nd ≤ pD (eD D nd) nd * 2 ^ k := Nat.le_mul_of_pos_right _ (Nat.two_pow_pos k)
      omega
    · exact j2 h
  refine (left_walk w b k δ j s D nd dp tr g.c g.dg n0 n8 (by omega) (by omega) hk1 hk2 hr hf.sz hf.dg hf.s0 hf.sl hd1 hd2 hj hend hmid htop).mono ?_
  rintro e9 w9 ⟨rfl, hk, hd⟩
  refine ⟨rfl, hk, ?_⟩
  obtain ⟨M, D2, t2, hc, hdg, hM0, hM1, hM2, hM3, ht1, ht2⟩ := hd.ex
  have hs1 := sees_double B F st m _ nd dp tr k j g.se
  rw [← hnum, show (nd : Int) + (j : Int) = ((nd + j : Nat) : Int) by omega] at hs1
  exact ⟨D2, M, dp + j, t2, cut_tells w9 b B F st m (oL (eD D nd) nd k (nd + j)) (nd + j) M D2 (dp + j) tr t2 (fun x => oL_lt _ _ _ _ x) htop hB (by omega) (by omega) (by omega) hs1 hc hdg hM0 hM1 hM2 hM3 ht1 ht2, by omega, by omega⟩
end Go.Proofs.YtnljpbpphdhnpaaGreatDoor

/- The library's Shift, shouldRoundUp and RoundedInteger of a decimal. -/
namespace Go.Proofs.YtnljpbpphdhnpaaGreatDoor
open Go.RowKit Go.PlainAid

set_option maxRecDepth 1000000 in
theorem shift_down (w : World) (b B F : Nat) (st : Bool) (m k : Nat) (D : Nat → Int) (nd : Nat) (dp : Int) (tr : Bool) (g : GD w b B F st m D nd dp tr) (hB : 2000 ≤ B) (hp1 : -1000 ≤ dp) (hp2 : dp ≤ 1000) (hk1 : 1 ≤ k) (hk2 : k ≤ 60) (hm : dp + m + k ≤ 700) :
    Calls Tryz.prog 142 #[.pointer (some ⟨b, 0, none⟩), .int .i64 (-(k : Int))] w fun e w' => e = .returned (.tuple #[]) ∧ Keep [b] w w' ∧ ∃ D2 nd2 dp2 tr2, GD w' b B F st (m + k) D2 nd2 dp2 tr2 ∧ dp - 20 ≤ dp2 ∧ dp2 ≤ dp := by
  have hR := right_g w b B F st m k D nd dp tr g hB hp1 hp2 hk1 hk2 hm
  have c800 := g.c.nd
  have n0 := g.n0
  have hnb : ((nd : Int) == 0) = false := by simpa using (show (nd : Int) ≠ 0 by omega)
  clear g
  go_enter Tryz.func142, Tryz.ntmps142
  go_wp2
  refine wp_loop_rounds 1 ?_
  rw [rounds_succ]
  go_wp2_with (first | (go_at_call 182; refine hR.mono ?_; rintro e9 w9 ⟨rfl, hk9, hm9⟩; have HF : Hid _ := And.intro hk9 hm9; clear hk9 hm9))
  go_end0
  exact ⟨rfl, HF.out.1, HF.out.2⟩
set_option maxRecDepth 1000000 in
theorem shift_up (w : World) (b B F : Nat) (st : Bool) (m k δ : Nat) (s : ByteArray) (D : Nat → Int) (nd : Nat) (dp : Int) (tr : Bool) (g : GD w b B F st (m + k) D nd dp tr) (hr : LRow w k δ s) (hf : LFact k δ s) (hB : 2000 ≤ B) (hp1 : -900 ≤ dp) (hp2 : dp ≤ 1000) (hk1 : 1 ≤ k) (hk2 : k ≤ 60) (hm : dp + m ≤ 700) :
    Calls Tryz.prog 142 #[.pointer (some ⟨b, 0, none⟩), .int .i64 (k : Nat)] w fun e w' => e = .returned (.tuple #[]) ∧ Keep [b] w w' ∧ ∃ D2 nd2 dp2 tr2, GD w' b B F st m D2 nd2 dp2 tr2 ∧ dp ≤ dp2 ∧ dp2 ≤ dp + 20 := by
  have hR := left_g w b B F st m k δ s D nd dp tr g hr hf hB hp1 hp2 hk1 hk2 hm
  have c800 := g.c.nd
  have n0 := g.n0
  have hnb : ((nd : Int) == 0) = false := by simpa using (show (nd : Int) ≠ 0 by omega)
  clear g
  go_enter Tryz.func142, Tryz.ntmps142
  go_wp2
  refine wp_loop_rounds 1 ?_
  rw [rounds_succ]
  go_wp2_with (first | (go_at_call 181; refine hR.mono ?_; rintro e9 w9 ⟨rfl, hk9, hm9⟩; have HF : Hid _ := And.intro hk9 hm9; clear hk9 hm9))
  go_end0
  exact ⟨rfl, HF.out.1, HF.out.2⟩
/-- whether a row of digits is rounded up behind its first p -/
def upDec (D : Nat → Int) (nd p : Nat) (tr : Bool) : Bool :=
  if nd ≤ p then false else if D p = 53 ∧ p + 1 = nd then (if tr = true then true else decide (0 < p ∧ (D (p - 1) - 48) % 2 = 1)) else decide (53 ≤ D p)
set_option maxRecDepth 1000000 in
theorem should_any (w : World) (b : Nat) (D : Nat → Int) (nd p : Nat) (dp : Int) (tr : Bool) (h : DecC w b D nd dp tr) (hd : DgD D nd) (n8 : nd ≤ 800) (hp : p ≤ 20) :
    Calls Tryz.prog 183 #[.pointer (some ⟨b, 0, none⟩), .int .i64 (p : Nat)] w fun e w' => e = .returned (.bool (upDec D nd p tr)) ∧ w' = w := by
  have c800 := h.nd
  have c803 := h.tr
  by_cases h1 : nd ≤ p
  · have e : upDec D nd p tr = false := by unfold upDec; rw [if_pos h1]
    rw [e]
    clear e
    go_enter Tryz.func183, Tryz.ntmps183
    go_wp2
    go_ret
    exact ⟨rfl, rfl⟩
  · have hlt : (p : Int) < (nd : Int) := by omega
    obtain ⟨d1, d2⟩ := hd p (by omega)
    have cp := h.dg p (by omega)
    by_cases h2 : D p = 53
    · rw [h2] at cp
      by_cases h3 : p + 1 = nd
      · have e3 : (p : Int) + 1 = (nd : Int) := by omega
        cases tr with
        | true =>
          have e : upDec D nd p true = true := by unfold upDec; rw [if_neg h1, if_pos ⟨h2, h3⟩, if_pos rfl]
          rw [e]
          clear e
          go_enter Tryz.func183, Tryz.ntmps183
          go_wp2
          go_ret
          exact ⟨rfl, rfl⟩
        | false =>
          by_cases h4 : p = 0
          · subst h4
            have e : upDec D nd 0 false = false := by unfold upDec; rw [if_neg h1, if_pos ⟨h2, h3⟩, if_neg (by simp)]; simp
            rw [e]
            obtain rfl : nd = 1 := by omega
            have c8 : w.cell? ⟨b, 800, none⟩ = some (.int .i64 1) := c800
            have hv : Calls Tryz.prog 183 #[.pointer (some ⟨b, 0, none⟩), .int .i64 0] w fun e w' => e = .returned (.bool false) ∧ w' = w := by
              clear e h hd e3 hlt c800 d1 d2
              go_enter Tryz.func183, Tryz.ntmps183
              go_wp2
              go_ret
              exact ⟨rfl, rfl⟩
            exact hv
          · obtain ⟨q, rfl⟩ : ∃ q, p = q + 1 := ⟨p - 1, by omega⟩
            have e : upDec D nd (q + 1) false = decide ((D q - 48) % 2 = 1) := by
              unfold upDec
              rw [if_neg h1, if_pos ⟨h2, h3⟩, if_neg (by simp)]
              simp
            obtain ⟨f1, f2⟩ := hd q (by omega)
            have cq := h.dg q (by omega)
            have e9 : ((q + 1 : Nat) : Int) = (q : Int) + 1 := by omega
            rw [e]
            clear e h hd d1 d2 h2
            generalize D q = c at *
            by_cases h5 : (c - 48) % 2 = 1
            · have hb : (((c - 48) % 2 : Int) != 0) = true := by rw [h5]; rfl
              rw [e9] at *
              go_enter Tryz.func183, Tryz.ntmps183
              go_wp2
              go_ret
              exact ⟨rfl, rfl⟩
            · have h6 : (c - 48) % 2 = 0 := by omega
              rw [e9] at *
              go_enter Tryz.func183, Tryz.ntmps183
              go_wp2
              go_ret
              exact ⟨rfl, rfl⟩
      · have e3 : ((p : Int) + 1 == (nd : Int)) = false := by simp only [beq_eq_false_iff_ne]; omega
        have e : upDec D nd p tr = true := by
          unfold upDec
          rw [if_neg h1, if_neg (fun h => h3 h.2), h2]
          rfl
        rw [e]
        clear e
        go_enter Tryz.func183, Tryz.ntmps183
        go_wp2
        go_ret
        exact ⟨rfl, rfl⟩
    · have e2 : (D p == 53) = false := by simpa using h2
      have e : upDec D nd p tr = decide (53 ≤ D p) := by
        unfold upDec
        rw [if_neg h1, if_neg (fun h => h2 h.1)]
      rw [e]
      clear e h hd h2
      generalize D p = c at *
      go_enter Tryz.func183, Tryz.ntmps183
      go_wp2
      go_ret
      exact ⟨rfl, rfl⟩
set_option maxRecDepth 1000000 in
theorem rounded_any (w : World) (b : Nat) (D : Nat → Int) (nd p : Nat) (tr : Bool) (h : DecC w b D nd p tr) (hd : DgD D nd) (n8 : nd ≤ 800) (hp : p ≤ 10) :
    Calls Tryz.prog 191 #[.pointer (some ⟨b, 0, none⟩)] w fun e w' => e = .returned (.int .u64 ((pD (eD D nd) p : Int) + (if upDec D nd p tr = true then 1 else 0))) ∧ w' = w := by
  obtain ⟨R, hR⟩ : ∃ R : Int, ((pD (eD D nd) p : Int) + (if upDec D nd p tr = true then 1 else 0)) = R := ⟨_, rfl⟩
  have HR : Hid (((pD (eD D nd) p : Int) + (if upDec D nd p tr = true then 1 else 0)) = R) := hR
  rw [hR]
  clear hR
  have H : Hid (DecC w b D nd p tr) := h
  have HD : Hid (DgD D nd) := hd
  have hS := should_any w b D nd p p tr h hd n8 (by omega)
  have c800 := h.nd
  have c801 := h.dp
  have HB : Hid (∀ i, i ≤ 10 → pD (eD D nd) i < 10000000000) := fun i hi => by
    show pD (eD D nd) i < 10000000000
    have h1 := pD_lt (eD D nd) i fun j _ => eD_lt hd j
    have h2 : 10 ^ i ≤ 10 ^ 10 := Nat.pow_le_pow_right (by decide) hi
    omega
  clear h hd
  go_enter Tryz.func191, Tryz.ntmps191
  go_wp2
  go_loop [3, 4] (fun i n => ∃ j : Nat, j ≤ p ∧ j ≤ nd ∧ i = .int .i64 (j : Nat) ∧ n = .int .u64 (pD (eD D nd) j : Nat)) (fun i _ => p - (intOf i).toNat)
  case atStart => exact ⟨0, Nat.zero_le _, Nat.zero_le _, rfl, rfl⟩
  case round =>
    obtain ⟨j, hj, hjn, rfl, rfl⟩ := hrel
    have hb := HB.out j (by omega)
    by_cases hlt : j < p ∧ j < nd
    · obtain ⟨h1, h2⟩ := hlt
      have h1i : (j : Int) < (p : Int) := by omega
      have h2i : (j : Int) < (nd : Int) := by omega
      obtain ⟨d1, d2⟩ := HD.out j h2
      have cj := H.out.dg j (by omega)
      have hv := eD_val HD.out j h2
      have he9 := eD_lt HD.out j
      rw [hv] at cj
      have hS1 : Hid (pD (eD D nd) (j + 1) = pD (eD D nd) j * 10 + eD D nd j) := pD_succ _ _
      clear d1 d2 hv hS
      generalize eD D nd j = e at *
      generalize pD (eD D nd) j = n at *
      go_wp2
      go_round
      case rel => exact ⟨j + 1, by omega, by omega, by go_num, by rw [hS1.out]; go_num⟩
      case measure => simp [intOf]; omega
    · have hor : Hid (j = p ∨ j = nd) := by show j = p ∨ j = nd; omega
      have hcase : (¬ (j : Int) < (p : Int)) ∨ ((j : Int) < (p : Int) ∧ ¬ (j : Int) < (nd : Int)) := by omega
      rcases hcase with hc1 | ⟨hc1, hc2⟩
      · clear hlt
        go_wp2
        go_loop [3, 4] (fun i n => ∃ x : Nat, j ≤ x ∧ x ≤ p ∧ i = .int .i64 (x : Nat) ∧ n = .int .u64 (pD (eD D nd) x : Nat)) (fun i _ => p - (intOf i).toNat)
        case atStart => exact ⟨j, Nat.le_refl _, hj, rfl, rfl⟩
        case round =>
          obtain ⟨x, hx1, hx2, rfl, rfl⟩ := hrel
          have hb2 := HB.out x (by omega)
          by_cases hxp : x < p
          · omega
          · obtain rfl : x = p := by omega
            generalize pD (eD D nd) x = n at *
            generalize upDec D nd x tr = u at *
            cases u with
            | true =>
              go_wp2_with fail
              refine hS.mono ?_
              rintro e9 w9 ⟨rfl, hw9⟩
              obtain rfl := hw9.symm
              clear hw9
              go_wp2
              go_ret
              exact ⟨by rw [← HR.out]; rfl, rfl⟩
            | false =>
              go_wp2_with fail
              refine hS.mono ?_
              rintro e9 w9 ⟨rfl, hw9⟩
              obtain rfl := hw9.symm
              clear hw9
              go_wp2
              go_ret
              exact ⟨by rw [← HR.out, if_neg (by simp), Int.add_zero]; rfl, rfl⟩
      · clear hlt
        go_wp2
        go_loop [3, 4] (fun i n => ∃ x : Nat, j ≤ x ∧ x ≤ p ∧ i = .int .i64 (x : Nat) ∧ n = .int .u64 (pD (eD D nd) x : Nat)) (fun i _ => p - (intOf i).toNat)
        case atStart => exact ⟨j, Nat.le_refl _, hj, rfl, rfl⟩
        case round =>
          obtain ⟨x, hx1, hx2, rfl, rfl⟩ := hrel
          have hb2 := HB.out x (by omega)
          by_cases hxp : x < p
          · have hxi : (x : Int) < (p : Int) := by omega
            have hS1 : Hid (pD (eD D nd) (x + 1) = pD (eD D nd) x * 10) := by
              show _ = _
              have hnd : nd ≤ x := by rcases hor.out with h | h <;> omega
              rw [pD_succ, eD_out D nd x hnd, Nat.add_zero]
            clear hS
            generalize pD (eD D nd) x = n at *
            go_wp2
            go_round
            case rel => exact ⟨x + 1, by omega, by omega, by go_num, by rw [hS1.out]; go_num⟩
            case measure => simp [intOf]; omega
          · obtain rfl : x = p := by omega
            generalize pD (eD D nd) x = n at *
            generalize upDec D nd x tr = u at *
            cases u with
            | true =>
              go_wp2_with fail
              refine hS.mono ?_
              rintro e9 w9 ⟨rfl, hw9⟩
              obtain rfl := hw9.symm
              clear hw9
              go_wp2
              go_ret
              exact ⟨by rw [← HR.out]; rfl, rfl⟩
            | false =>
              go_wp2_with fail
              refine hS.mono ?_
              rintro e9 w9 ⟨rfl, hw9⟩
              obtain rfl := hw9.symm
              clear hw9
              go_wp2
              go_ret
              exact ⟨by rw [← HR.out, if_neg (by simp), Int.add_zero]; rfl, rfl⟩
end Go.Proofs.YtnljpbpphdhnpaaGreatDoor

/- The rounding of a decimal's digits is the rounding of the number that it stands for. -/
namespace Go.Proofs.YtnljpbpphdhnpaaGreatDoor
open Go.RowKit Go.PlainAid

/-- whether a number, told by what is whole of 2^m times it and whether more is left, is rounded up to a whole one -/
def upFs (F m : Nat) (st : Bool) : Bool :=
  decide ((2 * (F / 2 ^ m) + 1) * 2 ^ (m - 1) < F) || (decide (F = (2 * (F / 2 ^ m) + 1) * 2 ^ (m - 1)) && (st || decide (F / 2 ^ m % 2 = 1)))
theorem upFs_more (F m : Nat) (st : Bool) (h : (2 * (F / 2 ^ m) + 1) * 2 ^ (m - 1) < F ∨ (F = (2 * (F / 2 ^ m) + 1) * 2 ^ (m - 1) ∧ st = true)) : upFs F m st = true := by
  unfold upFs
  rcases h with h | ⟨h, rfl⟩
  · rw [decide_eq_true h]; rfl
  · rw [decide_eq_true h]; simp
theorem upFs_half (F m : Nat) (st : Bool) (h : F = (2 * (F / 2 ^ m) + 1) * 2 ^ (m - 1)) : upFs F m st = (st || decide (F / 2 ^ m % 2 = 1)) := by
  unfold upFs
  rw [decide_eq_true h, decide_eq_false (by omega)]
  simp
theorem upFs_less (F m : Nat) (st : Bool) (h : F < (2 * (F / 2 ^ m) + 1) * 2 ^ (m - 1)) : upFs F m st = false := by
  unfold upFs
  rw [decide_eq_false (by omega), decide_eq_false (by omega)]
  rfl
theorem two_split (m : Nat) (hm : 1 ≤ m) : 2 ^ m = 2 * 2 ^ (m - 1) := by
  obtain ⟨x, rfl⟩ : ∃ x, m = x + 1 := ⟨m - 1, by omega⟩
  rw [Nat.pow_succ, show x + 1 - 1 = x by omega, Nat.mul_comm]
/-- the part behind the point against one half -/
theorem half_cases (Z g r h tU : Nat) (e : Z * g + r = tU) (hr : r < Z) :
    (h * Z < tU → h < g ∨ (g = h ∧ r ≠ 0)) ∧ (tU = h * Z → g = h ∧ r = 0) ∧ (tU < h * Z → g < h) := by
  refine ⟨fun h1 => ?_, fun h1 => ?_, fun h1 => ?_⟩
  · rcases Nat.lt_trichotomy g h with h2 | h2 | h2
    · have : (g + 1) * Z ≤ h * Z := Nat.mul_le_mul_right _ h2
      rw [Nat.add_mul, Nat.one_mul, Nat.mul_comm g Z] at this
      omega
    · subst h2
      rw [Nat.mul_comm g Z] at h1
      exact .inr ⟨rfl, by omega⟩
    · exact .inl h2
  · rcases Nat.lt_trichotomy g h with h2 | h2 | h2
    · have : (g + 1) * Z ≤ h * Z := Nat.mul_le_mul_right _ h2
      rw [Nat.add_mul, Nat.one_mul, Nat.mul_comm g Z] at this
      omega
    · subst h2
      rw [Nat.mul_comm g Z] at h1
      exact ⟨rfl, by omega⟩
    · have : (h + 1) * Z ≤ g * Z := Nat.mul_le_mul_right _ h2
      rw [Nat.add_mul, Nat.one_mul, Nat.mul_comm g Z] at this
      omega
  · rcases Nat.lt_or_ge g h with h2 | h2
    · exact h2
    · have : h * Z ≤ g * Z := Nat.mul_le_mul_right _ h2
      rw [Nat.mul_comm g Z] at this
      omega
theorem odd_digit (D : Nat → Int) (nd p : Nat) (dg : DgD D nd) (h : p + 1 ≤ nd) : decide (0 < p ∧ (D (p - 1) - 48) % 2 = 1) = decide (pD (eD D nd) p % 2 = 1) := by
  rcases Nat.eq_zero_or_pos p with hp | hp
  · subst hp; simp [pD]
  · obtain ⟨q, rfl⟩ : ∃ q, p = q + 1 := ⟨p - 1, by omega⟩
    have h2 := eD_val dg q (by omega)
    rw [pD_succ, show q + 1 - 1 = q by omega]
    by_cases h3 : (D q - 48) % 2 = 1
    · rw [decide_eq_true ⟨hp, h3⟩, decide_eq_true (by omega)]
    · rw [decide_eq_false (fun h => h3 h.2), decide_eq_false (by omega)]
theorem dec_rounds (B F : Nat) (st : Bool) (m : Nat) (D : Nat → Int) (nd p : Nat) (tr : Bool) (hm : 1 ≤ m) (dg : DgD D nd) (hl : tr = false → D (nd - 1) ≠ 48) (n0 : 0 < nd) (n8 : nd ≤ 800) (hB : 2000 ≤ B)
    (se : Sees B F st m (pD (eD D nd) nd) nd (p : Nat) tr) : pD (eD D nd) p = F / 2 ^ m ∧ upDec D nd p tr = upFs F m st := by
  have he := fun j => eD_lt dg j
  have hW : 10 ^ B * 2 ^ m = 2 * 2 ^ (m - 1) * 10 ^ B := by
    rw [Nat.mul_comm, two_split m hm]
  have hwh := se.wh
  have hsk := se.sk
  by_cases hp : nd ≤ p
  · have hz : pD (eD D nd) p = pD (eD D nd) nd * 10 ^ (p - nd) := by
      have := pD_zeros (eD D nd) nd (p - nd) fun j hj => eD_out D nd j hj
      rwa [show nd + (p - nd) = p by omega] at this
    have hX : xD B m (pD (eD D nd) nd) nd (p : Nat) = pD (eD D nd) p * 2 ^ m * 10 ^ B := by
      unfold xD
      rw [show (((p : Nat) : Int) - nd + (B : Int)).toNat = (p - nd) + B by omega, Nat.pow_add, hz]
      simp only [Nat.mul_assoc, Nat.mul_left_comm, Nat.mul_comm]
    rw [hX, Nat.mul_div_cancel _ (ten_pos B)] at hwh
    have hq : pD (eD D nd) p = F / 2 ^ m := by rw [← hwh, Nat.mul_div_cancel _ (Nat.two_pow_pos m)]
    refine ⟨hq, ?_⟩
    unfold upDec
    rw [if_pos hp]
    refine (upFs_less F m st ?_).symm
    rw [← hq]
    have h2 : pD (eD D nd) p * 2 ^ m = 2 * pD (eD D nd) p * 2 ^ (m - 1) := by
      rw [two_split m hm, ← Nat.mul_assoc, Nat.mul_comm _ 2]
    rw [← hwh, h2, Nat.add_mul, Nat.one_mul]
    have : 0 < 2 ^ (m - 1) := Nat.two_pow_pos _
    omega
  · obtain ⟨t, ht⟩ : ∃ t, nd = p + (t + 1) := ⟨nd - p - 1, by omega⟩
    have hsp := pD_split (eD D nd) p (t + 1)
    rw [← ht] at hsp
    have htl := pD_lt (fun j => eD D nd (p + j)) (t + 1) fun j _ => he _
    have htail := pD_split (fun j => eD D nd (p + j)) 1 t
    rw [Nat.add_comm 1 t] at htail
    have h1 : pD (fun j => eD D nd (p + j)) 1 = eD D nd p := by simp [pD]
    rw [h1] at htail
    have ht2 := pD_lt (fun j => eD D nd (p + (1 + j))) t fun j _ => he _
    have hlast : tr = false → t ≠ 0 → pD (fun j => eD D nd (p + (1 + j))) t ≠ 0 := by
      intro htr h0
      have hl := hl htr
      obtain ⟨y, rfl⟩ : ∃ y, t = y + 1 := ⟨t - 1, by omega⟩
      rw [pD_succ]
      have h3 := eD_val dg (nd - 1) (by omega)
      rw [show p + (1 + y) = nd - 1 by omega]
      omega
    have hpv := eD_val dg p (by omega)
    have hpr := dg p (by omega)
    generalize htt : pD (fun j => eD D nd (p + j)) (t + 1) = tail at *
    generalize htz : pD (fun j => eD D nd (p + (1 + j))) t = tail2 at *
    have hodd := odd_digit D nd p dg (by omega)
    obtain ⟨U, hU⟩ : ∃ U, 10 ^ (((p : Nat) : Int) - nd + (B : Int)).toNat * 2 ^ m = U := ⟨_, rfl⟩
    have hU2 : 10 ^ (t + 1) * U = 2 * 2 ^ (m - 1) * 10 ^ B := by
      rw [← hW, ← hU, ← Nat.mul_assoc, ← Nat.pow_add, show t + 1 + (((p : Nat) : Int) - nd + (B : Int)).toNat = B by omega]
    have hU0 : 0 < U := by rw [← hU]; exact Nat.mul_pos (ten_pos _) (Nat.two_pow_pos m)
    have hX : xD B m (pD (eD D nd) nd) nd (p : Nat) = tail * U + 10 ^ B * (pD (eD D nd) p * 2 ^ m) := by
      unfold xD
      rw [Nat.mul_assoc, hU, hsp, Nat.add_mul, Nat.mul_assoc, hU2, ← hW]
      have e9 : pD (eD D nd) p * (10 ^ B * 2 ^ m) = 10 ^ B * (pD (eD D nd) p * 2 ^ m) := Nat.mul_left_comm _ _ _
      rw [e9]; omega
    rw [hX, Nat.add_mul_div_left _ _ (ten_pos B)] at hwh
    rw [hX, Nat.add_mul_mod_self_left] at hsk
    have hdm := Nat.div_add_mod (tail * U) (10 ^ B)
    have hrm := Nat.mod_lt (tail * U) (ten_pos B)
    have hc := half_cases (10 ^ B) (tail * U / 10 ^ B) (tail * U % 10 ^ B) (2 ^ (m - 1)) (tail * U) hdm hrm
    have hg : tail * U / 10 ^ B < 2 ^ m := by
      rw [Nat.div_lt_iff_lt_mul (ten_pos B)]
      have h3 : tail * U < 10 ^ (t + 1) * U := Nat.mul_lt_mul_of_pos_right htl hU0
      rw [hU2, ← hW, Nat.mul_comm (10 ^ B)] at h3
      exact h3
    generalize tail * U / 10 ^ B = g at *
    generalize tail * U % 10 ^ B = r at *
    have hq : pD (eD D nd) p = F / 2 ^ m := by
      rw [← hwh, Nat.add_mul_div_right _ _ (Nat.two_pow_pos m), Nat.div_eq_of_lt hg, Nat.zero_add]
    refine ⟨hq, ?_⟩
    have hT : (2 * (F / 2 ^ m) + 1) * 2 ^ (m - 1) = 2 ^ (m - 1) + pD (eD D nd) p * 2 ^ m := by
      rw [← hq, Nat.add_mul, Nat.one_mul]
      rw [two_split m hm, ← Nat.mul_assoc, Nat.mul_comm _ 2]
      omega
    -- 2 * tail against ten to t + 1
    have hcmp : ∀ a : Nat, (a = 10 ^ (t + 1) → (2 * tail < a → tail * U < 2 ^ (m - 1) * 10 ^ B) ∧ (2 * tail = a → tail * U = 2 ^ (m - 1) * 10 ^ B) ∧ (a < 2 * tail → 2 ^ (m - 1) * 10 ^ B < tail * U)) := by
      intro a ha
      have e5 : a * U = 2 * (2 ^ (m - 1) * 10 ^ B) := by rw [ha, hU2, Nat.mul_assoc]
      have e6 : 2 * tail * U = 2 * (tail * U) := Nat.mul_assoc _ _ _
      refine ⟨fun h => ?_, fun h => ?_, fun h => ?_⟩
      · have : 2 * tail * U < a * U := Nat.mul_lt_mul_of_pos_right h hU0
        omega
      · rw [h] at e6; omega
      · have : a * U < 2 * tail * U := Nat.mul_lt_mul_of_pos_right h hU0
        omega
    obtain ⟨k1, k2, k3⟩ := hcmp _ rfl
    rw [Nat.pow_succ] at k1 k2 k3
    unfold upDec
    rw [if_neg hp]
    by_cases h5 : D p = 53 ∧ p + 1 = nd
    · rw [if_pos h5]
      obtain rfl : t = 0 := by omega
      have e5 : eD D nd p = 5 := by omega
      have ez : tail2 = 0 := by simpa using ht2
      have h2t : 2 * tail = 10 ^ 0 * 10 := by rw [htail, e5, ez]
      obtain ⟨g1, g2⟩ := hc.2.1 (k2 h2t)
      have hF : F = (2 * (F / 2 ^ m) + 1) * 2 ^ (m - 1) := by rw [hT, ← hwh, g1]
      rw [upFs_half F m st hF, hodd, hq]
      cases tr with
      | true =>
        have : st = true := by
          cases st with
          | true => rfl
          | false => exact absurd (hsk.1 rfl).2 (by simp)
        rw [this]; simp
      | false =>
        have : st = false := hsk.2 ⟨g2, rfl⟩
        rw [this]; simp
    · rw [if_neg h5]
      by_cases h6 : 53 ≤ D p
      · rw [decide_eq_true h6]
        have h8 : 5 ≤ eD D nd p := by omega
        by_cases h9 : 6 ≤ eD D nd p ∨ tail2 ≠ 0
        · have h7 : 10 ^ t * 10 < 2 * tail := by
            rcases h9 with h9 | h9
            · have : 6 * 10 ^ t ≤ eD D nd p * 10 ^ t := Nat.mul_le_mul_right _ h9
              have := ten_pos t
              omega
            · have : 5 * 10 ^ t ≤ eD D nd p * 10 ^ t := Nat.mul_le_mul_right _ h8
              omega
          refine (upFs_more F m st ?_).symm
          rcases hc.1 (k3 h7) with g1 | ⟨g1, g2⟩
          · left; rw [hT, ← hwh]; omega
          · right
            refine ⟨by rw [hT, ← hwh, g1], ?_⟩
            cases st with
            | true => rfl
            | false => exact absurd (hsk.1 rfl).1 g2
        · have e5 : eD D nd p = 5 := by omega
          have ez : tail2 = 0 := by omega
          have ht0 : t ≠ 0 := by
            intro h0
            exact h5 ⟨by omega, by omega⟩
          have htr : tr = true := by
            cases tr with
            | true => rfl
            | false => exact absurd ez (hlast rfl ht0)
          have h2t : 2 * tail = 10 ^ t * 10 := by rw [htail, e5, ez]; omega
          obtain ⟨g1, g2⟩ := hc.2.1 (k2 h2t)
          have hF : F = (2 * (F / 2 ^ m) + 1) * 2 ^ (m - 1) := by rw [hT, ← hwh, g1]
          have hst : st = true := by
            cases st with
            | true => rfl
            | false => exact absurd (hsk.1 rfl).2 (by rw [htr]; simp)
          rw [upFs_half F m st hF, hst]; simp
      · rw [decide_eq_false h6]
        have h7 : 2 * tail < 10 ^ t * 10 := by
          have h8 : eD D nd p ≤ 4 := by omega
          have : eD D nd p * 10 ^ t ≤ 4 * 10 ^ t := Nat.mul_le_mul_right _ h8
          omega
        have g1 := hc.2.2 (k1 h7)
        refine (upFs_less F m st ?_).symm
        rw [hT, ← hwh]; omega
end Go.Proofs.YtnljpbpphdhnpaaGreatDoor

/- The library's tables that the slow decimal reads; a scope left by one goto. -/
namespace Go.Proofs.YtnljpbpphdhnpaaGreatDoor
open Go.RowKit Go.PlainAid

def lcS (k : Nat) : ByteArray := ⟨(Lib.decDigits (5 ^ k)).toArray⟩
def lcN (k : Nat) : Nat := k + 1 - (lcS k).size
def kS : List Nat := [1, 3, 6, 9, 13, 16, 19, 23, 24, 26, 27]
def lfB (k : Nat) : Bool :=
  decide ((lcS k).size ≤ 100) && ((List.range (lcS k).size).all fun j => decide (48 ≤ bt (lcS k) j ∧ bt (lcS k) j ≤ 57)) && decide (0 < (lcS k).size) && decide (bt (lcS k) ((lcS k).size - 1) ≠ 48) && decide (pD (cD (lcS k)) (lcS k).size = 5 ^ k) &&
  decide (lcN k + (lcS k).size = k + 1) && decide (1 ≤ lcN k) && decide (lcN k ≤ 20) && decide (2 ^ k ≤ 10 ^ lcN k) && decide (10 ^ (lcN k - 1) ≤ 2 ^ k)
theorem lf_of (k : Nat) (h : lfB k = true) : LFact k (lcN k) (lcS k) := by
  unfold lfB at h
  simp only [Bool.and_eq_true, decide_eq_true_eq, List.all_eq_true, List.mem_range] at h
  obtain ⟨⟨⟨⟨⟨⟨⟨⟨⟨a1, a2⟩, a3⟩, a4⟩, a5⟩, a6⟩, a7⟩, a8⟩, a9⟩, a10⟩ := h
  exact ⟨a1, a2, a3, a4, a5, a6, a7, a8, a9, a10⟩
theorem lf_all (k : Nat) (h : k ∈ kS) : LFact k (lcN k) (lcS k) := by
  refine lf_of k ?_
  have : kS.all lfB = true := by decide +kernel
  exact List.all_eq_true.1 this k h
def powT (j : Nat) : Nat := [1, 3, 6, 9, 13, 16, 19, 23, 26].getD j 0
structure TabD (w : World) (b : Nat) : Prop where
  ne : 8 ≠ b ∧ 11 ≠ b ∧ 16 ≠ b
  mb : w.cell? ⟨8, 0, none⟩ = some (.int .u64 23)
  eb : w.cell? ⟨8, 1, none⟩ = some (.int .u64 8)
  bi : w.cell? ⟨8, 2, none⟩ = some (.int .i64 (-127))
  pt : ∃ pb po pc, pb ≠ b ∧ w.cell? ⟨11, 0, none⟩ = some (.slice (some ⟨pb, po, none⟩) 9 pc) ∧ ∀ j, j < 9 → w.cell? ⟨pb, po + j, none⟩ = some (.int .i64 (powT j : Nat))
  lc : ∃ bb bo bc, bb ≠ b ∧ w.cell? ⟨16, 0, none⟩ = some (.slice (some ⟨bb, bo, none⟩) 61 bc) ∧ ∀ k, k ∈ kS → w.cell? ⟨bb, bo + k * 2, none⟩ = some (.int .i64 (lcN k : Nat)) ∧ w.cell? ⟨bb, bo + k * 2 + 1, none⟩ = some (.string (lcS k))
theorem TabD.keep {w w' : World} {b : Nat} (h : TabD w b) (k : Keep [b] w w') : TabD w' b := by
  obtain ⟨⟨n1, n2, n3⟩, h1, h2, h3, ⟨pb, po, pc, p1, p2, p3⟩, ⟨bb, bo, bc, q1, q2, q3⟩⟩ := h
  have hn : ∀ x, x ≠ b → x ∉ [b] := fun x hx hm => hx (by simpa using hm)
  exact ⟨⟨n1, n2, n3⟩, k.cell' h1 (hn 8 n1), k.cell' h2 (hn 8 n1), k.cell' h3 (hn 8 n1), ⟨pb, po, pc, p1, k.cell' p2 (hn 11 n2), fun j hj => k.cell' (p3 j hj) (hn pb p1)⟩,
    ⟨bb, bo, bc, q1, k.cell' q2 (hn 16 n3), fun x hx => ⟨k.cell' (q3 x hx).1 (hn bb q1), k.cell' (q3 x hx).2 (hn bb q1)⟩⟩⟩
theorem TabD.row {w : World} {b : Nat} (h : TabD w b) (k : Nat) (hk : k ∈ kS) : LRow w k (lcN k) (lcS k) := by
  obtain ⟨bb, bo, bc, _, q2, q3⟩ := h.lc
  exact ⟨bb, bo, bc, q2, (q3 k hk).1, (q3 k hk).2⟩
theorem powT_kS (j : Nat) (h : j < 9) : powT j ∈ kS := by
  have : ∀ j, j < 9 → powT j ∈ kS := by decide
  exact this j h
theorem powT_b (j : Nat) (h : j < 9) : 1 ≤ powT j ∧ powT j ≤ 26 ∧ 2 ^ powT j ≤ 10 ^ j * 2 := by
  have : ∀ j, j < 9 → 1 ≤ powT j ∧ powT j ≤ 26 ∧ 2 ^ powT j ≤ 10 ^ j * 2 := by decide
  exact this j h
theorem powT_c (j : Nat) (h : j < 9) (h1 : 1 ≤ j) : 2 ^ powT j ≤ 10 ^ j := by
  have : ∀ j, j < 9 → 1 ≤ j → 2 ^ powT j ≤ 10 ^ j := by decide
  exact this j h h1
/-- a scope that is left, or jumps once, to label l, and then is left -/
theorem wp_scope_to {P : Program} {a : Act} {w : World} {Q : Exit → Act → World → Prop} {c rest : Code} (l : Nat) (hf : findLabel c l = some rest)
    (h : c.wp P (Exit.jump l (fun a w => rest.wp P (Exit.noGoto Q) a w) Q) a w) : (Code.scope c).wp P Q a w := by
  refine wp_scope_jumps l _ (fun _ _ => 0) hf h ?_
  intro a w hJ
  refine Code.wp_mono (fun e a w hq => ?_) hJ
  cases e <;> first | exact hq | exact hq.elim
end Go.Proofs.YtnljpbpphdhnpaaGreatDoor

/- Where a number stands, by what its decimal tells. -/
namespace Go.Proofs.YtnljpbpphdhnpaaGreatDoor
open Go.RowKit Go.PlainAid

variable {w : World} {b B F : Nat} {st : Bool} {m : Nat} {D : Nat → Int} {nd : Nat} {dp : Int} {tr : Bool}
theorem GD.n_lt (g : GD w b B F st m D nd dp tr) : pD (eD D nd) nd < 10 ^ nd := pD_lt _ _ fun j _ => eD_lt g.dg j
theorem GD.n_ge (g : GD w b B F st m D nd dp tr) : 10 ^ (nd - 1) ≤ pD (eD D nd) nd := by
  have h := pD_ge (eD D nd) g.e0 (nd - 1)
  have h0 := g.n0
  rwa [show nd - 1 + 1 = nd by omega] at h
/-- at least ten to dp - 1 -/
theorem GD.at_least (g : GD w b B F st m D nd dp tr) (p : Nat) (hp : (p : Int) < dp) (hB : 2000 ≤ B) : 10 ^ p * 2 ^ m ≤ F := by
  have hge := g.n_ge
  have h0 := g.n0
  have h8 := g.n8
  rw [← g.se.wh, Nat.le_div_iff_mul_le (ten_pos B)]
  unfold xD
  have h1 : 10 ^ (nd - 1) * 10 ^ (dp - nd + (B : Int)).toNat ≤ pD (eD D nd) nd * 10 ^ (dp - nd + (B : Int)).toNat := Nat.mul_le_mul_right _ hge
  rw [← Nat.pow_add] at h1
  have h2 : 10 ^ (p + B) ≤ 10 ^ (nd - 1 + (dp - nd + (B : Int)).toNat) := Nat.pow_le_pow_right (by decide) (by omega)
  have h3 : 10 ^ (p + B) ≤ pD (eD D nd) nd * 10 ^ (dp - nd + (B : Int)).toNat := Nat.le_trans h2 h1
  rw [Nat.mul_assoc, Nat.mul_comm (2 ^ m), ← Nat.mul_assoc, ← Nat.pow_add]
  exact Nat.mul_le_mul_right _ h3
/-- less than ten to dp -/
theorem GD.less (g : GD w b B F st m D nd dp tr) (j : Nat) (hp : dp ≤ -(j : Int)) (hB : 2000 ≤ B) (hlo : -1000 ≤ dp) : F * 10 ^ j < 2 ^ m := by
  have hlt := g.n_lt
  have h8 := g.n8
  have h1 : xD B m (pD (eD D nd) nd) nd dp * 10 ^ j < 2 ^ m * 10 ^ B := by
    unfold xD
    have h2 : pD (eD D nd) nd * 10 ^ (dp - nd + (B : Int)).toNat < 10 ^ nd * 10 ^ (dp - nd + (B : Int)).toNat := Nat.mul_lt_mul_of_pos_right hlt (ten_pos _)
    rw [← Nat.pow_add] at h2
    have h3 : pD (eD D nd) nd * 10 ^ (dp - nd + (B : Int)).toNat * 10 ^ j < 10 ^ (nd + (dp - nd + (B : Int)).toNat) * 10 ^ j := Nat.mul_lt_mul_of_pos_right h2 (ten_pos _)
    rw [← Nat.pow_add] at h3
    have h4 : 10 ^ (nd + (dp - nd + (B : Int)).toNat + j) ≤ 10 ^ B := Nat.pow_le_pow_right (by decide) (by omega)
    have h5 : pD (eD D nd) nd * 10 ^ (dp - nd + (B : Int)).toNat * 10 ^ j < 10 ^ B := Nat.lt_of_lt_of_le h3 h4
    rw [Nat.mul_assoc, Nat.mul_comm (2 ^ m), ← Nat.mul_assoc, Nat.mul_comm (2 ^ m)]
    exact Nat.mul_lt_mul_of_pos_right h5 (Nat.two_pow_pos m)
  have h6 : F * 10 ^ B ≤ xD B m (pD (eD D nd) nd) nd dp := by
    rw [← g.se.wh]; exact Nat.div_mul_le_self _ _
  have h7 : F * 10 ^ j * 10 ^ B < 2 ^ m * 10 ^ B := by
    have : F * 10 ^ B * 10 ^ j ≤ xD B m (pD (eD D nd) nd) nd dp * 10 ^ j := Nat.mul_le_mul_right _ h6
    rw [Nat.mul_assoc, Nat.mul_comm (10 ^ j), ← Nat.mul_assoc]
    omega
  exact Nat.lt_of_mul_lt_mul_right h7
/-- a point at the front, and a first digit below 5: less than a half; from 5 on: at least a half -/
theorem GD.half (g : GD w b B F st m D nd 0 tr) (hB : 2000 ≤ B) (hm : 1 ≤ m) : (D 0 < 53 → 2 * F < 2 ^ m) ∧ (53 ≤ D 0 → 2 ^ m ≤ 2 * F) := by
  have h0 := g.n0
  have h8 := g.n8
  have hsp := pD_split (eD D nd) 1 (nd - 1)
  rw [show 1 + (nd - 1) = nd by omega] at hsp
  have h1 : pD (eD D nd) 1 = eD D nd 0 := by simp [pD]
  rw [h1] at hsp
  have ht := pD_lt (fun j => eD D nd (1 + j)) (nd - 1) fun j _ => eD_lt g.dg _
  have hv := eD_val g.dg 0 h0
  obtain ⟨U, hU⟩ : ∃ U, 10 ^ ((0 : Int) - nd + (B : Int)).toNat * 2 ^ m = U := ⟨_, rfl⟩
  have hU2 : 10 ^ (nd - 1) * 10 * U = 10 ^ B * 2 ^ m := by
    rw [← hU, ← Nat.pow_succ, ← Nat.mul_assoc, ← Nat.pow_add, show nd - 1 + 1 + ((0 : Int) - nd + (B : Int)).toNat = B by omega]
  have hU0 : 0 < U := by rw [← hU]; exact Nat.mul_pos (ten_pos _) (Nat.two_pow_pos m)
  have hX : xD B m (pD (eD D nd) nd) nd 0 = pD (eD D nd) nd * U := by unfold xD; rw [Nat.mul_assoc, hU]
  have hdm := Nat.div_add_mod (xD B m (pD (eD D nd) nd) nd 0) (10 ^ B)
  have hrm := Nat.mod_lt (xD B m (pD (eD D nd) nd) nd 0) (ten_pos B)
  rw [g.se.wh] at hdm
  generalize xD B m (pD (eD D nd) nd) nd 0 % 10 ^ B = r at *
  rw [hX] at hdm
  generalize pD (eD D nd) nd = V at *
  generalize pD (fun j => eD D nd (1 + j)) (nd - 1) = tl at *
  generalize 10 ^ (nd - 1) = z at *
  refine ⟨fun h => ?_, fun h => ?_⟩
  · have h2 : eD D nd 0 * z ≤ 4 * z := Nat.mul_le_mul_right _ (by omega)
    have h3 : 2 * V < z * 10 := by omega
    have h4 : 2 * V * U < z * 10 * U := Nat.mul_lt_mul_of_pos_right h3 hU0
    rw [hU2, Nat.mul_assoc] at h4
    have h5 : 10 ^ B * (2 * F) < 10 ^ B * 2 ^ m := by
      rw [Nat.mul_left_comm]; omega
    exact Nat.lt_of_mul_lt_mul_left h5
  · have h2 : 5 * z ≤ eD D nd 0 * z := Nat.mul_le_mul_right _ (by omega)
    have h3 : z * 10 ≤ 2 * V := by omega
    have h4 : z * 10 * U ≤ 2 * V * U := Nat.mul_le_mul_right _ h3
    rw [hU2, Nat.mul_assoc] at h4
    rcases Nat.lt_or_ge (2 * F) (2 ^ m) with h5 | h5
    · have h6 : 10 ^ B * (2 * F + 1) ≤ 10 ^ B * 2 ^ m := Nat.mul_le_mul_left _ h5
      rw [Nat.mul_add, Nat.mul_one, Nat.mul_left_comm] at h6
      have h7 : 10 ^ B * 2 ^ m ≤ 2 * (10 ^ B * F) + 2 * r := by omega
      rw [two_split m hm] at h5 h7
      have h8 : 10 ^ B * (F + 1) ≤ 10 ^ B * 2 ^ (m - 1) := Nat.mul_le_mul_left _ (by omega)
      rw [Nat.mul_left_comm] at h7
      rw [Nat.mul_add, Nat.mul_one] at h8
      omega
    · exact h5
end Go.Proofs.YtnljpbpphdhnpaaGreatDoor
