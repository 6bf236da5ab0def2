/- Conditions: what a part comes to (the closure of worths). -/
import Derived.Test.YtplbclokoffgkaaGreatDoorCeA
import Derived.Test.YtplbclokoffgkaaGreatDoorCfJ
namespace Go.Proofs.YtplbclokoffgkaaGreatDoor
open Go.RowKit Go.PlainAid Go.Shelf

/-- what a part comes to that is made of a and b -/
def Wc (ps : List PD) (l : List AgD) (x : Pt) (a b R : Wo) : Prop :=
  (x.kind = 1 ∧ x.vk = 2 ∧ R = .wh x.vi) ∨
  (x.kind = 2 ∧ ∃ p n, At l x.nm p ∧ (∀ (h : p < l.length), l[p].vi = n) ∧ pKind ps x.nm = 2 ∧ R = .wh n) ∨
  (x.kind = 3 ∧ ∃ n, In64 n ∧ a = .wh n ∧ R.enc = wholeW (0 - n)) ∨
  ((x.kind = 5 ∨ x.kind = 6 ∨ x.kind = 7 ∨ x.kind = 8) ∧ ∃ m n, a = .wh m ∧ b = .wh n ∧ ∀ w1, Calls Tryz.prog 44 #[.int .i64 x.kind, .int .i64 m, .int .i64 n] w1 fun e w' => e = .returned R.enc ∧ w' = w1) ∨
  ((x.kind = 9 ∨ x.kind = 10 ∨ x.kind = 11 ∨ x.kind = 12 ∨ x.kind = 13 ∨ x.kind = 14) ∧ ((a = .no ∧ R = .no) ∨ ∃ m n, In64 m ∧ In64 n ∧ a = .wh m ∧ b = .wh n ∧ R = .tr (cmpB x.kind (cmpI m n))))

set_option maxRecDepth 1000000 in
set_option maxHeartbeats 6400000 in
theorem worths_one (nm : ByteArray) (ps : List PD) (vp vx : Value) (xs : List Pt) (l : List AgD) (va : Value) (i C B : Nat) (a b R : Wo) (w : World) (hsl : ∃ a n c, vp = .slice a n c) (hp : Pm w vp ps) (hx : Pp w vx xs) (ha : Ar w va l) (hi : i < xs.length)
    (c0 : w.cell? ⟨C, 0, none⟩ = some (.string nm)) (c1 : w.cell? ⟨C, 1, none⟩ = some vp) (c2 : w.cell? ⟨C, 2, none⟩ = some vx) (c3 : w.cell? ⟨B, 0, none⟩ = some va) (hR : Wc ps l xs[i] a b R) :
    Calls Tryz.prog 23 #[.int .i64 (i : Int), .agg #[a.enc, b.enc], .pointer (some ⟨C, 0, none⟩), .pointer (some ⟨B, 0, none⟩)] w fun e w' => e = .returned R.enc ∧ Keep [] w w' := by
  obtain ⟨ba, oa, cpa, rfl, -⟩ := ha.ex
  obtain ⟨ap, np, cpp, rfl⟩ := hsl
  have HP : Hid (Pm w (.slice ap np cpp) ps ∧ Ar w (.slice (some ⟨ba, oa, none⟩) l.length cpa) l ∧ Pp w vx xs) := ⟨hp, ha, hx⟩
  obtain ⟨g, o, ca, rfl, y0, y1, y2, y3, y4, y5, y6, y7⟩ := hx.at i hi
  have hil : (i : Int) < (xs.length : Int) := by omega
  have hsf := store_f32
  simp only [Go.stored] at hsf
  generalize xs[i] = x at *
  obtain ⟨xk, xn, xv, xi⟩ := x
  simp only at *
  have q0 := (Keep.alloc1 w (.cells #[a.enc, b.enc] 75)).cell' y0 (by simp)
  have q1 := (Keep.alloc1 w (.cells #[a.enc, b.enc] 75)).cell' y1 (by simp)
  have q2 := (Keep.alloc1 w (.cells #[a.enc, b.enc] 75)).cell' y2 (by simp)
  have q3 := (Keep.alloc1 w (.cells #[a.enc, b.enc] 75)).cell' y3 (by simp)
  have q4 := (Keep.alloc1 w (.cells #[a.enc, b.enc] 75)).cell' y4 (by simp)
  have q5 := (Keep.alloc1 w (.cells #[a.enc, b.enc] 75)).cell' y5 (by simp)
  have q6 := (Keep.alloc1 w (.cells #[a.enc, b.enc] 75)).cell' y6 (by simp)
  have q7 := (Keep.alloc1 w (.cells #[a.enc, b.enc] 75)).cell' y7 (by simp)
  have r0 := (Keep.alloc1 w (.cells #[a.enc, b.enc] 75)).cell' c0 (by simp)
  have r1 := (Keep.alloc1 w (.cells #[a.enc, b.enc] 75)).cell' c1 (by simp)
  have r2 := (Keep.alloc1 w (.cells #[a.enc, b.enc] 75)).cell' c2 (by simp)
  have r3 := (Keep.alloc1 w (.cells #[a.enc, b.enc] 75)).cell' c3 (by simp)
  have HKn : Hid (∀ s p n w9, Keep [] w w9 → At l s p → (∀ (h : p < l.length), l[p].vi = n) → pKind ps s = 2 → Calls Tryz.prog 25 #[.agg #[.string nm, .slice ap np cpp, .slice (some ⟨g, o, none⟩) xs.length ca], .slice (some ⟨ba, oa, none⟩) l.length cpa, .string s] w9 fun e w' => e = .returned (Wo.wh n).enc ∧ Keep [] w9 w') := fun s p n w9 k9 h1 h2 h3 => known_any nm ps _ _ l s p n _ w9 ⟨⟨_, _, _, rfl⟩, _, _, _, rfl⟩ (HP.out.1.keep0 k9) h3 (HP.out.2.1.keep0 k9) h1 h2
  have HX : Hid (Keep [] w ((w.alloc (.cells #[a.enc, b.enc] 75)).alloc (.cells #[.int .i64 xk, .string xn, .int .i64 xv, .bool false, .int .i64 xi, .float .f32 0, .string ⟨#[]⟩, .slice none 0 0] 36))) := (Keep.alloc1 _ _).alloc _
  clear hp ha hx y0 y1 y2 y3 y4 y5 y6 y7 c0 c1 c2 c3
  have hwn : ∀ n, (Wo.wh n).enc = .iface 105 (.int .i64 n) := fun _ => rfl
  have hwo : Wo.no.enc = .nilIface := rfl
  have hwt : ∀ z, (Wo.tr z).enc = truthW z := fun _ => rfl
  rcases hR with ⟨rfl, rfl, rfl⟩ | ⟨rfl, p, n, hA, hv, hpk, rfl⟩ | ⟨rfl, n, hn, rfl, hRe⟩ | ⟨hk, m, n, rfl, rfl, hC⟩ | ⟨hk, hc⟩
  · have hW := fun w9 => worthOf_int xi w9
    go_enter Tryz.func23, Tryz.ntmps23
    go_wp2_with fail
    refine (hW _).mono ?_
    rintro e w5 ⟨rfl, k5⟩
    have HK : Hid (Keep [] w w5) := HX.out.trans' k5
    clear k5 hW
    go_wp2
    go_ret
    exact ⟨rfl, HK.out⟩
  · have r0' := (Keep.alloc1 (w.alloc (.cells #[a.enc, b.enc] 75)) (.cells #[.int .i64 2, .string xn, .int .i64 xv, .bool false, .int .i64 xi, .float .f32 0, .string ⟨#[]⟩, .slice none 0 0] 36)).cell' r0 (by simp)
    have r1' := (Keep.alloc1 (w.alloc (.cells #[a.enc, b.enc] 75)) (.cells #[.int .i64 2, .string xn, .int .i64 xv, .bool false, .int .i64 xi, .float .f32 0, .string ⟨#[]⟩, .slice none 0 0] 36)).cell' r1 (by simp)
    have r2' := (Keep.alloc1 (w.alloc (.cells #[a.enc, b.enc] 75)) (.cells #[.int .i64 2, .string xn, .int .i64 xv, .bool false, .int .i64 xi, .float .f32 0, .string ⟨#[]⟩, .slice none 0 0] 36)).cell' r2 (by simp)
    have r3' := (Keep.alloc1 (w.alloc (.cells #[a.enc, b.enc] 75)) (.cells #[.int .i64 2, .string xn, .int .i64 xv, .bool false, .int .i64 xi, .float .f32 0, .string ⟨#[]⟩, .slice none 0 0] 36)).cell' r3 (by simp)
    have hW := HKn.out xn p n _ HX.out hA hv hpk
    clear hA hv hpk
    go_enter Tryz.func23, Tryz.ntmps23
    go_wp2_with fail
    refine hW.mono ?_
    rintro e w5 ⟨rfl, k5⟩
    have HK : Hid (Keep [] w w5) := HX.out.trans' k5
    clear k5 hW
    go_wp2
    go_ret
    exact ⟨rfl, HK.out⟩
  · have hW := fun w9 => opposite_int n hn w9
    rw [hRe]
    clear hRe hn HKn HP
    simp only [hwn] at q0 q1 q2 q3 q4 q5 q6 q7 r0 r1 r2 r3 HX ⊢
    generalize wholeW (0 - n) = z at *
    generalize b.enc = y at *
    go_enter Tryz.func23, Tryz.ntmps23
    go_wp2_with fail
    refine (hW _).mono ?_
    rintro e w5 ⟨rfl, hw5⟩
    obtain rfl := hw5.symm
    clear hW hw5
    go_wp2
    go_ret
    exact ⟨rfl, HX.out⟩
  · have hW := fun w9 => joined_reckon xk m n R.enc w9 hk hC
    clear hC HKn HP
    simp only [hwn] at q0 q1 q2 q3 q4 q5 q6 q7 r0 r1 r2 r3 HX ⊢
    generalize R.enc = z at *
    rcases hk with rfl | rfl | rfl | rfl
    all_goals
      go_enter Tryz.func23, Tryz.ntmps23
      go_wp2_with fail
      refine (hW _).mono ?_
      rintro e w5 ⟨rfl, hw5⟩
      obtain rfl := hw5.symm
      clear hW hw5
      go_wp2
      go_ret
      exact ⟨rfl, HX.out⟩
  · rcases hc with ⟨rfl, rfl⟩ | ⟨m, n, hm, hn, rfl, rfl, rfl⟩
    · have hW := fun w9 => joined_none xk b.enc w9
      clear HKn HP
      generalize b.enc = z at *
      simp only [hwo] at q0 q1 q2 q3 q4 q5 q6 q7 r0 r1 r2 r3 HX ⊢
      rcases hk with rfl | rfl | rfl | rfl | rfl | rfl
      all_goals
        go_enter Tryz.func23, Tryz.ntmps23
        go_wp2_with fail
        refine (hW _).mono ?_
        rintro e w5 ⟨rfl, hw5⟩
        obtain rfl := hw5.symm
        clear hW hw5
        go_wp2
        go_ret
        exact ⟨rfl, HX.out⟩
    · have hW := fun w9 => joined_cmp xk m n hk hm hn w9
      clear HKn HP hm hn
      simp only [hwn, hwt] at q0 q1 q2 q3 q4 q5 q6 q7 r0 r1 r2 r3 HX ⊢
      generalize cmpB xk (cmpI m n) = z at *
      rcases hk with rfl | rfl | rfl | rfl | rfl | rfl
      all_goals
        go_enter Tryz.func23, Tryz.ntmps23
        go_wp2_with fail
        refine (hW _).mono ?_
        rintro e w5 ⟨rfl, k5⟩
        have HK : Hid (Keep [] w w5) := HX.out.trans' k5
        clear k5 hW
        go_wp2
        go_ret
        exact ⟨rfl, HK.out⟩
end Go.Proofs.YtplbclokoffgkaaGreatDoor
