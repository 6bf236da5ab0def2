/- The document's May. -/
import Derived.Test.YtjdihnkcigoajaaGreatDoorRvB
import Derived.Test.YtjdihnkcigoajaaGreatDoorFtB

namespace Go.Proofs.YtjdihnkcigoajaaGreatDoor
open Go.RowKit Go.PlainAid

theorem one_cells {w w1 : World} {v0 v1 v2 v3 v4 v5 : Value} {t : TypeId} (k : Keep [] (w.alloc (.cells #[v0, v1, v2, v3, v4, v5] t)) w1) :
    w1.cell? ⟨w.heap.size, 0, none⟩ = some v0 ∧ w1.cell? ⟨w.heap.size, 1, none⟩ = some v1 ∧ w1.cell? ⟨w.heap.size, 2, none⟩ = some v2 ∧ w1.cell? ⟨w.heap.size, 3, none⟩ = some v3 ∧ w1.cell? ⟨w.heap.size, 4, none⟩ = some v4 ∧ w1.cell? ⟨w.heap.size, 5, none⟩ = some v5 := by
  refine ⟨k.cell' ?_ (by simp), k.cell' ?_ (by simp), k.cell' ?_ (by simp), k.cell' ?_ (by simp), k.cell' ?_ (by simp), k.cell' ?_ (by simp)⟩ <;> simp [go_sem]

set_option maxRecDepth 1000000 in
set_option maxHeartbeats 1600000 in
theorem rMay_any (p : VD) (hp : p.Ok) (u : Value) (w : World) (hu : Ts w u p.texts) :
    Calls Tryz.prog 21 #[p.val u] w fun e w' => e = .returned (.bool p.mayB) ∧ Keep [] w w' := by
  have HU : Hid (Ts w u p.texts) := hu
  have ht1 : p.text.size ≤ 9223372036854775807 := hp.text1
  obtain ⟨ao, ca, rfl, hl1, hl2, _, _⟩ := hu.ex
  clear hu
  by_cases h1 : p.kind < 1
  · have HV : Hid (p.mayB = false) := show p.mayB = false by unfold VD.mayB; rw [decide_eq_false (by omega)]; rfl
    obtain ⟨kd, b, n, x, t, ts⟩ := p
    simp only [] at *
    go_enter Tryz.func21, Tryz.ntmps21
    go_wp2
    go_ret
    exact ⟨by rw [HV.out]; rfl, Keep.alloc1 _ _⟩
  by_cases h5 : 5 < p.kind
  · have HV : Hid (p.mayB = false) := show p.mayB = false by unfold VD.mayB; rw [decide_eq_false (by omega)]; rfl
    obtain ⟨kd, b, n, x, t, ts⟩ := p
    simp only [] at *
    go_enter Tryz.func21, Tryz.ntmps21
    go_wp2
    go_ret
    exact ⟨by rw [HV.out]; rfl, Keep.alloc1 _ _⟩
  have hZ := fun w1 (k : Keep [] w w1) => rzero_any p hp (by omega) (by omega) (.slice ao p.texts.length ca) w1 (HU.out.keep k (Off.nil _))
  have hm : p.mayB = (p.clear.emptyB && p.shortB) := by unfold VD.mayB; rw [decide_eq_true (by omega), Bool.true_and]
  cases he : p.clear.emptyB
  · rw [he] at hZ hm
    have HV : Hid (p.mayB = false) := show p.mayB = false by rw [hm]; rfl
    clear hm he HU hp
    obtain ⟨kd, b, n, x, t, ts⟩ := p
    simp only [] at *
    go_enter Tryz.func21, Tryz.ntmps21
    go_wp2_with (go_at_call 45; refine (hZ _ (Keep.alloc1 _ _)).mono ?_; rintro e9 w1 ⟨rfl, k1⟩)
    have HK : Hid (Keep [] w w1) := (Keep.alloc1 _ _).trans' k1
    clear k1
    go_ret
    exact ⟨by rw [HV.out]; rfl, HK.out⟩
  rw [he, Bool.true_and] at hm
  rw [he] at hZ
  unfold VD.shortB at hm
  by_cases ht : 256 < p.text.size
  · have HV : Hid (p.mayB = false) := show p.mayB = false by rw [hm, decide_eq_false (by omega)]; rfl
    have hti : (256 : Int) < (p.text.size : Int) := by omega
    clear hm he HU hp
    obtain ⟨kd, b, n, x, t, ts⟩ := p
    simp only [] at *
    go_enter Tryz.func21, Tryz.ntmps21
    go_wp2_with (go_at_call 45; refine (hZ _ (Keep.alloc1 _ _)).mono ?_; rintro e9 w1 ⟨rfl, k1⟩; obtain ⟨c0, c1, c2, c3, c4, c5⟩ := one_cells k1; have HK : Hid (Keep [] w w1) := (Keep.alloc1 _ _).trans' k1; clear k1)
    go_ret
    exact ⟨by rw [HV.out]; rfl, HK.out⟩
  have hti : ¬ (256 : Int) < (p.text.size : Int) := by omega
  rw [decide_eq_true (show p.text.size ≤ 256 by omega), Bool.true_and] at hm
  by_cases hl : 32 < p.texts.length
  · have HV : Hid (p.mayB = false) := show p.mayB = false by rw [hm, decide_eq_false (by omega)]; rfl
    have hli : (32 : Int) < (p.texts.length : Int) := by omega
    clear hm he HU hp
    obtain ⟨kd, b, n, x, t, ts⟩ := p
    simp only [] at *
    go_enter Tryz.func21, Tryz.ntmps21
    go_wp2_with (go_at_call 45; refine (hZ _ (Keep.alloc1 _ _)).mono ?_; rintro e9 w1 ⟨rfl, k1⟩; obtain ⟨c0, c1, c2, c3, c4, c5⟩ := one_cells k1; have HK : Hid (Keep [] w w1) := (Keep.alloc1 _ _).trans' k1; clear k1)
    go_ret
    exact ⟨by rw [HV.out]; rfl, HK.out⟩
  have hli : ¬ (32 : Int) < (p.texts.length : Int) := by omega
  rw [decide_eq_true (show p.texts.length ≤ 32 by omega), Bool.true_and] at hm
  have HM : Hid (p.mayB = !longB p.texts) := hm
  clear hm he hp
  obtain ⟨kd, b, n, x, t, ts⟩ := p
  simp only [] at *
  go_enter Tryz.func21, Tryz.ntmps21
  go_wp2_with (go_at_call 45; refine (hZ _ (Keep.alloc1 _ _)).mono ?_; rintro e9 w1 ⟨rfl, k1⟩; obtain ⟨c0, c1, c2, c3, c4, c5⟩ := one_cells k1; have HK : Hid (Keep [] w w1) := (Keep.alloc1 _ _).trans' k1; clear k1)
  clear hZ c0 c1 c2 c3 c4
  have HS : Hid (∀ s ∈ ts, s.size ≤ 9223372036854775807) := by obtain ⟨_, _, _, _, _, h3, _⟩ := HU.out.ex; exact h3
  have HE : Hid (ts ≠ [] → ∃ g o, ao = some ⟨g, o, none⟩ ∧ ∀ j (h : j < ts.length), w1.cell? ⟨g, o + j, none⟩ = some (.string ts[j])) := by
    obtain ⟨ao', ca', e, _, _, _, h4⟩ := (HU.out.keep HK.out (Off.nil _)).ex
    simp at e
    obtain ⟨rfl, rfl⟩ := e
    exact h4
  clear HU
  go_loop [3] (fun iv => ∃ k : Nat, iv = .int .i64 (k : Int) ∧ k ≤ ts.length ∧ Hid (∀ j (h : j < ts.length), j < k → ¬ 256 < ts[j].size)) (fun iv => ts.length - (RowKit.intOf iv).toNat)
  case atStart => exact ⟨0, rfl, Nat.zero_le _, fun j _ h => absurd h (Nat.not_lt_zero j)⟩
  case round =>
    obtain ⟨k, rfl, hk, hall⟩ := hrel
    by_cases hlt : k < ts.length
    · have hki : (k : Int) < (ts.length : Int) := by omega
      obtain ⟨g, o, rfl, hc⟩ := HE.out (by intro hz; rw [hz] at hlt; simp at hlt)
      have hca := hc k hlt
      have hsz := HS.out _ (List.getElem_mem hlt)
      by_cases hs : 256 < ts[k].size
      · have HV : Hid ((⟨kd, b, n, x, t, ts⟩ : VD).mayB = false) := by
          show _ = _
          rw [HM.out, (longI_some ts k hlt (fun j hj hjk => hall.out j hj hjk) hs).2]; rfl
        have hsi : (256 : Int) < (ts[k].size : Int) := by omega
        clear hall hc HE HM HS
        generalize ts[k] = s at hca hsi hsz
        go_wp2
        go_ret
        exact ⟨by rw [HV.out]; rfl, HK.out⟩
      · have hsi : ¬ (256 : Int) < (ts[k].size : Int) := by omega
        have HA : Hid (∀ j (h : j < ts.length), j < k + 1 → ¬ 256 < ts[j].size) := fun j h hj => by
          by_cases e : j = k
          · subst e; exact hs
          · exact hall.out j h (by omega)
        clear hall hc HE hs
        generalize ts[k] = s at hca hsi hsz
        go_wp2
        go_round
        case rel => exact ⟨k + 1, by go_num, by omega, HA⟩
        case measure => simp [RowKit.intOf]; omega
    · have hki : ¬ (k : Int) < (ts.length : Int) := by omega
      have HV : Hid ((⟨kd, b, n, x, t, ts⟩ : VD).mayB = true) := by
        show _ = _
        rw [HM.out, (longI_none ts (fun j hj => hall.out j hj (by omega))).2]; rfl
      clear hall HE HM
      go_wp2
      go_ret
      exact ⟨by rw [HV.out]; rfl, HK.out⟩
end Go.Proofs.YtjdihnkcigoajaaGreatDoor


/- What the document tells of a float's digits, in units of some power of ten, beside the library's way. -/
namespace Go.Proofs.YtjdihnkcigoajaaGreatDoor

theorem uN_le (a t y : Nat) (ht : 0 < t) : uN a t ≤ 2 * y ↔ a ≤ 2 * y * t := by
  unfold uN
  have hd := Nat.div_add_mod a t
  have hm := Nat.mod_lt a ht
  by_cases h : a % t = 0
  · rw [if_pos h]
    rw [h, Nat.add_zero] at hd
    constructor
    · intro g
      rw [← hd, Nat.mul_comm]
      exact Nat.mul_le_mul_right t g
    · intro g
      exact Nat.div_le_of_le_mul (by rw [Nat.mul_comm]; exact g)
  · rw [if_neg h]
    constructor
    · intro g
      have g2 : a / t < 2 * y := by omega
      exact Nat.le_of_lt ((Nat.div_lt_iff_lt_mul ht).1 g2)
    · intro g
      have g2 : a < 2 * y * t := by
        rcases Nat.lt_or_eq_of_le g with h1 | h1
        · exact h1
        · exact absurd (by rw [h1]; exact Nat.mul_mod_left _ _) h
      have g3 := (Nat.div_lt_iff_lt_mul ht).2 g2
      omega
theorem uN_lt (a t y : Nat) (ht : 0 < t) : uN a t < 2 * y ↔ a < 2 * y * t := by
  unfold uN
  by_cases h : a % t = 0
  · rw [if_pos h]
    exact Nat.div_lt_iff_lt_mul ht
  · rw [if_neg h]
    rw [← Nat.div_lt_iff_lt_mul ht]
    omega

/-- does the number of c of these units lie where it is read as the float (all twice; o: is the float's number odd?) -/
def LiesI (L2 H2 o c : Nat) : Prop := L2 + o ≤ 2 * c ∧ 2 * c + o ≤ H2
theorem lo_iff (L2 t o x : Nat) (ht : 0 < t) (ho : o < 2) : (uN (2 * L2) t + o + 3) / 4 ≤ x ↔ L2 + o ≤ 2 * (x * t) := by
  have e1 : 2 * (2 * x) * t = 2 * (2 * (x * t)) := by rw [Nat.mul_assoc, Nat.mul_assoc]
  rcases Nat.lt_or_ge o 1 with h | h
  · have : o = 0 := by omega
    subst this
    have := uN_le (2 * L2) t (2 * x) ht
    rw [e1] at this
    omega
  · have : o = 1 := by omega
    subst this
    have := uN_lt (2 * L2) t (2 * x) ht
    rw [e1] at this
    omega
theorem hi_iff (H2 t o x : Nat) (ht : 0 < t) (ho : o < 2) (hx : 1 ≤ x ∨ o ≤ H2) : x ≤ (uN (2 * H2) t - o) / 4 ↔ 2 * (x * t) + o ≤ H2 := by
  have e1 : 2 * (2 * x) * t = 2 * (2 * (x * t)) := by rw [Nat.mul_assoc, Nat.mul_assoc]
  rcases Nat.lt_or_ge o 1 with h | h
  · have : o = 0 := by omega
    subst this
    have := uN_lt (2 * H2) t (2 * x) ht
    rw [e1] at this
    omega
  · have : o = 1 := by omega
    subst this
    have h1 := uN_le (2 * H2) t (2 * x) ht
    rw [e1] at h1
    rcases Nat.eq_zero_or_pos x with h0 | h0
    · subst h0
      simp at hx ⊢
      omega
    · omega
theorem rnd_q (N t : Nat) (ht : 0 < t) : rndU (uN (4 * N) t) = if 2 * N < (2 * (N / t) + 1) * t ∨ (2 * N = (2 * (N / t) + 1) * t ∧ N / t % 2 = 0) then N / t else N / t + 1 := by
  have hd := Nat.div_add_mod N t
  have hm := Nat.mod_lt N ht
  have a1 := uN_le (4 * N) t (2 * (N / t) + 1) ht
  have a2 := uN_lt (4 * N) t (2 * (N / t) + 1) ht
  have a3 := uN_lt (4 * N) t (2 * (N / t)) ht
  have a4 := uN_lt (4 * N) t (2 * (N / t) + 2) ht
  generalize N / t = q at *
  generalize uN (4 * N) t = u at *
  generalize N % t = r at *
  have e1 : 2 * (2 * q + 1) * t = 4 * (t * q) + 2 * t := by rw [Nat.mul_assoc, Nat.add_mul, Nat.mul_assoc 2 q, Nat.mul_comm q t]; omega
  have e2 : (2 * q + 1) * t = 2 * (t * q) + t := by rw [Nat.add_mul, Nat.mul_assoc 2 q, Nat.mul_comm q t]; omega
  have e3 : 2 * (2 * q) * t = 4 * (t * q) := by rw [Nat.mul_assoc, Nat.mul_assoc, Nat.mul_comm q t]; omega
  have e4 : 2 * (2 * q + 2) * t = 4 * (t * q) + 4 * t := by rw [Nat.mul_assoc, Nat.add_mul, Nat.mul_assoc 2 q, Nat.mul_comm q t]; omega
  rw [e1] at a1 a2
  rw [e3] at a3
  rw [e4] at a4
  rw [e2]
  generalize t * q = z at *
  unfold rndU
  have g1 : 4 * q ≤ u := by omega
  have g2 : u < 4 * q + 4 := by omega
  have g3 : u / 4 = q := by omega
  rw [g3]
  split <;> omega

/-- what both tell: a number of units of which no tenth lies there, or the only one of ten units -/
structure Sp (t N L2 H2 o : Nat) : Prop where
  t0 : 0 < t
  ho : o < 2
  lo : L2 < 2 * N
  hi : 2 * N < H2
  hh : H2 - 2 * N = 2 * N - L2 ∨ H2 - 2 * N = 2 * (2 * N - L2)
  wide : 2 * t < H2 - L2 ∨ N % t = 0
  thin : H2 - L2 < 20 * t
/-- q * t is what is told: in the way of the document, among the neighbours -/
def Told (t N L2 H2 o q : Nat) : Prop :=
  (q = N / t ∧ LiesI L2 H2 o (N / t * t) ∧ (LiesI L2 H2 o ((N / t + 1) * t) → 2 * N < (2 * (N / t) + 1) * t ∨ (2 * N = (2 * (N / t) + 1) * t ∧ N / t % 2 = 0))) ∨
  (q = N / t + 1 ∧ LiesI L2 H2 o ((N / t + 1) * t) ∧ (LiesI L2 H2 o (N / t * t) → ¬ (2 * N < (2 * (N / t) + 1) * t ∨ (2 * N = (2 * (N / t) + 1) * t ∧ N / t % 2 = 0))))
theorem Told.liesI {t N L2 H2 o q : Nat} (h : Told t N L2 H2 o q) : LiesI L2 H2 o (q * t) := by
  rcases h with ⟨rfl, h, _⟩ | ⟨rfl, h, _⟩ <;> exact h
/-- where some number of units lies there, a neighbour does -/
theorem near_in (t N L2 H2 o x : Nat) (ht : 0 < t) (ho : o < 2) (hlo : L2 < 2 * N) (hhi : 2 * N < H2) (hx : LiesI L2 H2 o (x * t)) : LiesI L2 H2 o (N / t * t) ∨ LiesI L2 H2 o ((N / t + 1) * t) := by
  have hd := Nat.div_add_mod N t
  have hm := Nat.mod_lt N ht
  rw [Nat.mul_comm] at hd
  rcases Nat.lt_or_ge (N / t) x with h | h
  · right
    have : (N / t + 1) * t ≤ x * t := Nat.mul_le_mul_right t h
    unfold LiesI at *
    rw [Nat.add_mul, Nat.one_mul] at *
    omega
  · left
    have : x * t ≤ N / t * t := Nat.mul_le_mul_right t h
    unfold LiesI at *
    omega
theorem told_of (t N L2 H2 o : Nat) (h : LiesI L2 H2 o (N / t * t) ∨ LiesI L2 H2 o ((N / t + 1) * t)) : ∃ q, Told t N L2 H2 o q := by
  unfold Told
  by_cases a : LiesI L2 H2 o (N / t * t)
  · by_cases b : LiesI L2 H2 o ((N / t + 1) * t)
    · by_cases c : 2 * N < (2 * (N / t) + 1) * t ∨ (2 * N = (2 * (N / t) + 1) * t ∧ N / t % 2 = 0)
      · exact ⟨_, .inl ⟨rfl, a, fun _ => c⟩⟩
      · exact ⟨_, .inr ⟨rfl, b, fun _ => c⟩⟩
    · exact ⟨_, .inl ⟨rfl, a, fun h => absurd h b⟩⟩
  · have b := h.resolve_left a
    exact ⟨_, .inr ⟨rfl, b, fun h => absurd h a⟩⟩
theorem told_one (t N L2 H2 o p q : Nat) (h1 : Told t N L2 H2 o p) (h2 : Told t N L2 H2 o q) : p = q := by
  rcases h1 with ⟨rfl, a1, b1⟩ | ⟨rfl, a1, b1⟩ <;> rcases h2 with ⟨rfl, a2, b2⟩ | ⟨rfl, a2, b2⟩
  · rfl
  · exact absurd (b1 a2) (b2 a1)
  · exact absurd (b2 a1) (b1 a2)
  · rfl
/-- the library's digits: of ten units, if one of these lies there; else what the document tells of the unit -/
theorem shD_told (t N L2 H2 o : Nat) (h : Sp t N L2 H2 o) :
    ((shD (uN (2 * L2) t) (uN (2 * H2) t) (uN (4 * N) t) o).2 = 1 ∧ LiesI L2 H2 o ((shD (uN (2 * L2) t) (uN (2 * H2) t) (uN (4 * N) t) o).1 * (10 * t))) ∨
    ((shD (uN (2 * L2) t) (uN (2 * H2) t) (uN (4 * N) t) o).2 = 0 ∧ Told t N L2 H2 o (shD (uN (2 * L2) t) (uN (2 * H2) t) (uN (4 * N) t) o).1 ∧ ∀ x, ¬ LiesI L2 H2 o (x * (10 * t))) := by
  obtain ⟨t0, ho, hlo, hhi, hh, wide, thin⟩ := h
  have l := fun x => lo_iff L2 t o x t0 ho
  have u := fun x => hi_iff H2 t o x t0 ho (.inr (by omega))
  have hr := rnd_q N t t0
  have hd := Nat.div_add_mod N t
  have hm := Nat.mod_lt N t0
  generalize uN (2 * L2) t = ul at *
  generalize uN (2 * H2) t = uh at *
  generalize uN (4 * N) t = um at *
  have liesI : ∀ x, LiesI L2 H2 o (x * t) ↔ (ul + o + 3) / 4 ≤ x ∧ x ≤ (uh - o) / 4 := fun x => by
    unfold LiesI
    rw [l x, u x]
  unfold shD
  generalize (ul + o + 3) / 4 = dl at *
  generalize (uh - o) / 4 = dh at *
  have liesI10 : ∀ x, LiesI L2 H2 o (x * (10 * t)) ↔ dl ≤ x * 10 ∧ x * 10 ≤ dh := fun x => by
    rw [← Nat.mul_assoc]
    exact liesI (x * 10)
  have hcx : ∀ x y z, x ≤ y → y ≤ z → LiesI L2 H2 o (x * t) → LiesI L2 H2 o (z * t) → LiesI L2 H2 o (y * t) := fun x y z h1 h2 g1 g2 => by
    rw [liesI] at *
    omega
  have hex : ∃ x, LiesI L2 H2 o (x * t) := by
    by_cases hN : N % t = 0
    · refine ⟨N / t, ?_⟩
      rw [Nat.mul_comm] at hd
      unfold LiesI
      omega
    · have hw := wide.resolve_right hN
      refine ⟨L2 / (2 * t) + 1, ?_⟩
      have d1 := Nat.div_add_mod L2 (2 * t)
      have d2 := Nat.mod_lt L2 (show 0 < 2 * t by omega)
      have e : 2 * ((L2 / (2 * t) + 1) * t) = 2 * t * (L2 / (2 * t)) + 2 * t := by
        rw [Nat.add_mul, Nat.one_mul, Nat.mul_add, Nat.mul_assoc 2 t, Nat.mul_comm t]
      unfold LiesI
      rw [e]
      omega
  obtain ⟨x0, hx0⟩ := hex
  have hx1 := (liesI x0).1 hx0
  obtain ⟨q, hq⟩ := told_of t N L2 H2 o (near_in t N L2 H2 o x0 t0 ho hlo hhi hx0)
  have hqi := (liesI q).1 hq.liesI
  by_cases c1 : dl ≤ dh / 10 * 10
  · rw [if_pos c1]
    exact .inl ⟨rfl, (liesI10 _).2 ⟨c1, by omega⟩⟩
  · rw [if_neg c1]
    have hno : ∀ x, ¬ LiesI L2 H2 o (x * (10 * t)) := fun x hx => by
      have := (liesI10 x).1 hx
      omega
    right
    by_cases c2 : dl < dh
    · rw [if_pos c2]
      refine ⟨rfl, ?_, hno⟩
      show Told t N L2 H2 o (rndU um)
      have i1 : LiesI L2 H2 o (dl * t) := (liesI _).2 ⟨Nat.le_refl _, by omega⟩
      have i2 : LiesI L2 H2 o ((dl + 1) * t) := (liesI _).2 ⟨by omega, by omega⟩
      have hqr : rndU um = q := by
        rw [hr]
        rcases hq with ⟨rfl, a, b⟩ | ⟨rfl, b, a⟩
        · rw [if_pos ?_]
          by_cases hb : LiesI L2 H2 o ((N / t + 1) * t)
          · exact b hb
          · exfalso
            have n1 : dl + 1 ≤ N / t := by
              rcases Nat.lt_or_ge (N / t) (dl + 1) with h | h
              · exact absurd (hcx _ (N / t + 1) _ (by omega) h a i2) hb
              · exact h
            obtain ⟨k, hk⟩ : ∃ k, N / t = k + 1 := ⟨N / t - 1, by omega⟩
            have i3 := hcx dl k (N / t) (by omega) (by omega) i1 a
            rw [hk] at hb hd a
            unfold LiesI at i3 hb a
            have e1 : t * (k + 1) = k * t + t := by rw [Nat.mul_add, Nat.mul_comm]; omega
            have e2 : (k + 1 + 1) * t = k * t + t + t := by rw [Nat.add_mul, Nat.add_mul]; omega
            have e3 : (k + 1) * t = k * t + t := by rw [Nat.add_mul]; omega
            rw [e1] at hd
            rw [e2] at hb
            rw [e3] at a
            generalize k * t = z at *
            omega
        · rw [if_neg ?_]
          by_cases ha : LiesI L2 H2 o (N / t * t)
          · exact a ha
          · have n1 : N / t + 1 ≤ dl := by
              rcases Nat.lt_or_ge dl (N / t + 1) with h | h
              · exact absurd (hcx dl (N / t) _ (by omega) (by omega) i1 b) ha
              · exact h
            have i3 := hcx (N / t + 1) (N / t + 2) (dl + 1) (by omega) (by omega) b i2
            generalize N / t = k at *
            unfold LiesI at i3 ha b
            have e1 : t * k = k * t := Nat.mul_comm _ _
            have e2 : (k + 2) * t = k * t + t + t := by rw [Nat.add_mul]; omega
            have e3 : (k + 1) * t = k * t + t := by rw [Nat.add_mul]; omega
            have e4 : (2 * k + 1) * t = 2 * (k * t) + t := by rw [Nat.add_mul, Nat.mul_assoc]; omega
            rw [e1] at hd
            rw [e2] at i3
            rw [e3] at b
            rw [e4]
            generalize k * t = z at *
            omega
      rw [hqr]
      exact hq
    · rw [if_neg c2]
      have : dl = q := by omega
      refine ⟨rfl, ?_, hno⟩
      show Told t N L2 H2 o dl
      rw [this]
      exact hq

end Go.Proofs.YtjdihnkcigoajaaGreatDoor

