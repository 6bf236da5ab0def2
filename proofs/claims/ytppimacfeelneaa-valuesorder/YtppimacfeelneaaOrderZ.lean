/- ValuesOrder answers true, in one of four cases of how the first two values stand. -/
import Derived.Test.YtppimacfeelneaaOrdB
namespace Go.Proofs.Ytppimacfeelneaa
open Go.RowKit Go.PlainAid Go.Lib

set_option maxRecDepth 1000000 in
set_option maxHeartbeats 25600000 in
theorem order_z (a b c : VD) (hsel : canB a b = true) (hsel2 : (cmpV a b).1 = 0) (ha : a.Ok) (hb : b.Ok) (hc : c.Ok) (u v t : Value) (w : World) (hu : Ts w u a.texts) (hv : Ts w v b.texts) (ht : Ts w t c.texts) :
    Calls Try.prog 6 #[a.val u, b.val v, c.val t] w fun e w' => e = .returned (.bool true) ∧ Below w.heap.size w w' := by
  have C1 : ∀ w1, Keep [] w w1 → _ := fun w1 k => compare_any a b ha hb u v w1 (hu.keep k (Off.nil _)) (hv.keep k (Off.nil _))
  have C2 : ∀ w1, Keep [] w w1 → _ := fun w1 k => compare_any b c hb hc v t w1 (hv.keep k (Off.nil _)) (ht.keep k (Off.nil _))
  have C3 : ∀ w1, Keep [] w w1 → _ := fun w1 k => compare_any a c ha hc u t w1 (hu.keep k (Off.nil _)) (ht.keep k (Off.nil _))
  have C4 : ∀ w1, Keep [] w w1 → _ := fun w1 k => compare_any b a hb ha v u w1 (hv.keep k (Off.nil _)) (hu.keep k (Off.nil _))
  have C5 : ∀ w1, Keep [] w w1 → _ := fun w1 k => check_any a ha u w1 (hu.keep k (Off.nil _))
  have C6 : ∀ w1, Keep [] w w1 → _ := fun w1 k => check_any b hb v w1 (hv.keep k (Off.nil _))
  have C7 : ∀ w1, Keep [] w w1 → _ := fun w1 k => same_any a b ha hb u v w1 (hu.keep k (Off.nil _)) (hv.keep k (Off.nil _))
  have N1 := neq_self a.real
  have N2 := neq_self b.real
  have FX := cmp_range a b
  have FY := cmp_range b c
  have FZ := cmp_range a c
  have FC := cmp_can a b
  have FW : cmpV b a = (-(cmpV a b).1, (cmpV a b).2) := Prod.ext (cmp_anti a b) (by rw [cmp_can, cmp_can, can_comm])
  have F0 := cmp_zero a b
  have FT := cmp_trans a b c
  have FS := same_zero a b
  have FQ : canB a b = (a.mayB && b.mayB && !(nanB a.real || nanB b.real) && (a.kind == b.kind || numB a && numB b)) := rfl
  obtain ⟨ao, ca, hue, -, -, -, -⟩ := hu.ex
  obtain ⟨bo, cb, hve, -, -, -, -⟩ := hv.ex
  obtain ⟨co, cc, hte, -, -, -, -⟩ := ht.ex
  clear hu hv ht ha hb hc
  generalize a.texts.length = la at hue
  generalize b.texts.length = lb at hve
  generalize c.texts.length = lc at hte
  subst hue hve hte
  have C8 := number_any a (.slice ao la ca) ⟨_, _, _, rfl⟩
  have C9 := number_any b (.slice bo lb cb) ⟨_, _, _, rfl⟩
  rw [FW] at C4
  rw [FC] at FT F0
  generalize hcan : canB a b = cn at *
  generalize hs : sameV a b = sm at C7 FS
  generalize cmpV a b = r1 at *
  generalize cmpV b c = r2 at *
  generalize cmpV a c = r3 at *
  obtain ⟨x, ok⟩ := r1
  obtain ⟨y, is⟩ := r2
  obtain ⟨z, was⟩ := r3
  simp only at *
  have FC2 := FC.symm
  clear FC
  subst FC2
  have HSEL : Hid (cn = true) := hsel
  have HSEL2 : Hid (x = 0) := hsel2
  clear hsel hsel2
  have HF : Hid ((x = -1 ∨ x = 0 ∨ x = 1) ∧ (y = -1 ∨ y = 0 ∨ y = 1) ∧ (z = -1 ∨ z = 0 ∨ z = 1) ∧ (cn = false → x = 0) ∧ (cn = true → is = true → was = true ∧ (x ≤ 0 → y ≤ 0 → z ≤ 0 ∧ (x < 0 ∨ y < 0 → z < 0))) ∧ (sm = true → nanB a.real = false → nanB b.real = false → x = 0)) := ⟨FX, FY, FZ, F0, FT, FS⟩
  have HQ : Hid (cn = (a.mayB && b.mayB && !(nanB a.real || nanB b.real) && (a.kind == b.kind || numB a && numB b))) := FQ
  clear FX FY FZ F0 FT FS FQ FW hcan hs
  generalize nanB a.real = na at *
  generalize nanB b.real = nb at *
  generalize numB a = ua at *
  generalize numB b = ub at *
  generalize a.mayB = ma at *
  generalize b.mayB = mb at *
  have HC : Hid ((∀ w1, Keep [] w w1 → Calls Try.prog 13 #[a.val (.slice ao la ca), b.val (.slice bo lb cb)] w1 fun e w' => e = .returned (.tuple #[.int .i64 x, .bool cn]) ∧ Keep [] w1 w') ∧ (∀ w1, Keep [] w w1 → Calls Try.prog 13 #[b.val (.slice bo lb cb), c.val (.slice co lc cc)] w1 fun e w' => e = .returned (.tuple #[.int .i64 y, .bool is]) ∧ Keep [] w1 w') ∧ (∀ w1, Keep [] w w1 → Calls Try.prog 13 #[a.val (.slice ao la ca), c.val (.slice co lc cc)] w1 fun e w' => e = .returned (.tuple #[.int .i64 z, .bool was]) ∧ Keep [] w1 w') ∧ (∀ w1, Keep [] w w1 → Calls Try.prog 13 #[b.val (.slice bo lb cb), a.val (.slice ao la ca)] w1 fun e w' => e = .returned (.tuple #[.int .i64 (-x), .bool cn]) ∧ Keep [] w1 w')) := ⟨C1, C2, C3, C4⟩
  have HD : Hid ((∀ w1, Keep [] w w1 → Calls Try.prog 7 #[a.val (.slice ao la ca)] w1 fun e w' => e = .returned (.int .i64 (if ma then 0 else 40)) ∧ Keep [] w1 w') ∧ (∀ w1, Keep [] w w1 → Calls Try.prog 7 #[b.val (.slice bo lb cb)] w1 fun e w' => e = .returned (.int .i64 (if mb then 0 else 40)) ∧ Keep [] w1 w') ∧ (∀ w1, Keep [] w w1 → Calls Try.prog 12 #[a.val (.slice ao la ca), b.val (.slice bo lb cb)] w1 fun e w' => e = .returned (.bool sm) ∧ Keep [] w1 w') ∧ (∀ w1, Calls Try.prog 23 #[a.val (.slice ao la ca)] w1 fun e w' => e = .returned (.bool ua) ∧ Keep [] w1 w') ∧ (∀ w1, Calls Try.prog 23 #[b.val (.slice bo lb cb)] w1 fun e w' => e = .returned (.bool ub) ∧ Keep [] w1 w')) := ⟨C5, C6, C7, C8, C9⟩
  clear C1 C2 C3 C4 C5 C6 C7 C8 C9
  have HB : Hid (∀ o1 o2 o3 : Obj, Keep [] w (((w.alloc o1).alloc o2).alloc o3)) := fun o1 o2 o3 => ((Keep.alloc1 w o1).alloc o2).alloc o3
  go_enter Try.func6, Try.ntmps6
  go_wp2_with fail
  refine (HC.out.1 _ (HB.out _ _ _)).mono ?_
  rintro e1 w1 ⟨rfl, k⟩
  have KK : Hid (Keep [] (((w.alloc (a.blk (.slice ao la ca))).alloc (b.blk (.slice bo lb cb))).alloc (c.blk (.slice co lc cc))) w1) := k
  clear k
  obtain ⟨⟨c0, c1, c2, c3, c4, c5⟩, ⟨d0, d1, d2, d3, d4, d5⟩, ⟨f0, f1, f2, f3, f4, f5⟩⟩ := three_cells KK.out
  go_wp2_with fail
  refine (HC.out.2.1 _ ((HB.out _ _ _).trans' KK.out)).mono ?_
  rintro e2 w2 ⟨rfl, k⟩
  clear c0 c1 c2 c3 c4 c5 d0 d1 d2 d3 d4 d5 f0 f1 f2 f3 f4 f5
  replace KK : Hid (Keep [] (((w.alloc (a.blk (.slice ao la ca))).alloc (b.blk (.slice bo lb cb))).alloc (c.blk (.slice co lc cc))) w2) := KK.out.trans' k
  clear k
  obtain ⟨⟨c0, c1, c2, c3, c4, c5⟩, ⟨d0, d1, d2, d3, d4, d5⟩, ⟨f0, f1, f2, f3, f4, f5⟩⟩ := three_cells KK.out
  go_wp2_with fail
  refine (HC.out.2.2.1 _ ((HB.out _ _ _).trans' KK.out)).mono ?_
  rintro e3 w3 ⟨rfl, k⟩
  clear c0 c1 c2 c3 c4 c5 d0 d1 d2 d3 d4 d5 f0 f1 f2 f3 f4 f5
  replace KK : Hid (Keep [] (((w.alloc (a.blk (.slice ao la ca))).alloc (b.blk (.slice bo lb cb))).alloc (c.blk (.slice co lc cc))) w3) := KK.out.trans' k
  clear k
  obtain ⟨⟨c0, c1, c2, c3, c4, c5⟩, ⟨d0, d1, d2, d3, d4, d5⟩, ⟨f0, f1, f2, f3, f4, f5⟩⟩ := three_cells KK.out
  go_wp2_with fail
  refine (HC.out.2.2.2 _ ((HB.out _ _ _).trans' KK.out)).mono ?_
  rintro e4 w4 ⟨rfl, k⟩
  clear c0 c1 c2 c3 c4 c5 d0 d1 d2 d3 d4 d5 f0 f1 f2 f3 f4 f5
  replace KK : Hid (Keep [] (((w.alloc (a.blk (.slice ao la ca))).alloc (b.blk (.slice bo lb cb))).alloc (c.blk (.slice co lc cc))) w4) := KK.out.trans' k
  clear k
  obtain ⟨⟨c0, c1, c2, c3, c4, c5⟩, ⟨d0, d1, d2, d3, d4, d5⟩, ⟨f0, f1, f2, f3, f4, f5⟩⟩ := three_cells KK.out
  obtain rfl := HSEL.out
  clear HSEL
  obtain rfl := HSEL2.out
  clear HSEL2
  have hq := HQ.out
  obtain ⟨rfl, rfl, rfl, rfl, hkn⟩ : ma = true ∧ mb = true ∧ na = false ∧ nb = false ∧ ((a.kind == b.kind) = true ∨ (a.kind == b.kind) = false ∧ ua = true ∧ ub = true) := by
    cases ma <;> cases mb <;> cases na <;> cases nb <;> cases ua <;> cases ub <;> cases hkk : (a.kind == b.kind) <;> simp [hkk] at hq ⊢
  clear hq HQ
  rcases hkn with hkk | ⟨hkk, rfl, rfl⟩
  · go_wp2_with fail
    refine (HD.out.1 _ ((HB.out _ _ _).trans' KK.out)).mono ?_
    rintro e5 w5 ⟨rfl, k⟩
    clear c0 c1 c2 c3 c4 c5 d0 d1 d2 d3 d4 d5 f0 f1 f2 f3 f4 f5
    replace KK : Hid (Keep [] (((w.alloc (a.blk (.slice ao la ca))).alloc (b.blk (.slice bo lb cb))).alloc (c.blk (.slice co lc cc))) w5) := KK.out.trans' k
    clear k
    obtain ⟨⟨c0, c1, c2, c3, c4, c5⟩, ⟨d0, d1, d2, d3, d4, d5⟩, ⟨f0, f1, f2, f3, f4, f5⟩⟩ := three_cells KK.out
    go_wp2_with fail
    refine (HD.out.2.1 _ ((HB.out _ _ _).trans' KK.out)).mono ?_
    rintro e6 w6 ⟨rfl, k⟩
    clear c0 c1 c2 c3 c4 c5 d0 d1 d2 d3 d4 d5 f0 f1 f2 f3 f4 f5
    replace KK : Hid (Keep [] (((w.alloc (a.blk (.slice ao la ca))).alloc (b.blk (.slice bo lb cb))).alloc (c.blk (.slice co lc cc))) w6) := KK.out.trans' k
    clear k
    obtain ⟨⟨c0, c1, c2, c3, c4, c5⟩, ⟨d0, d1, d2, d3, d4, d5⟩, ⟨f0, f1, f2, f3, f4, f5⟩⟩ := three_cells KK.out
    cases is
    · go_wp2_with fail
      refine (HD.out.2.2.1 _ ((HB.out _ _ _).trans' KK.out)).mono ?_
      rintro e20 w20 ⟨rfl, k⟩
      clear c0 c1 c2 c3 c4 c5 d0 d1 d2 d3 d4 d5 f0 f1 f2 f3 f4 f5
      replace KK : Hid (Keep [] (((w.alloc (a.blk (.slice ao la ca))).alloc (b.blk (.slice bo lb cb))).alloc (c.blk (.slice co lc cc))) w20) := KK.out.trans' k
      clear k
      cases sm
      all_goals
        go_wp2_with fail
        refine (one_half_any _).mono ?_
        rintro e21 w21 ⟨rfl, k⟩
        have HZ : Hid (Below w.heap.size w w21) := (((HB.out _ _ _).trans' KK.out).trans' k).below
        clear k
        go_wp2
        go_ret
        exact ⟨rfl, HZ.out⟩
    · obtain ⟨rfl, hT⟩ := HF.out.2.2.2.2.1 (by first | trivial | rfl) (by first | trivial | rfl)
      rcases HF.out.2.1 with rfl | rfl | rfl
      · obtain rfl : z = -1 := by
          have h1 := hT (by first | trivial | omega) (by first | trivial | omega)
          have h2 := HF.out.2.2.1
          omega
        clear hT
        go_wp2_with fail
        refine (HD.out.2.2.1 _ ((HB.out _ _ _).trans' KK.out)).mono ?_
        rintro e20 w20 ⟨rfl, k⟩
        clear c0 c1 c2 c3 c4 c5 d0 d1 d2 d3 d4 d5 f0 f1 f2 f3 f4 f5
        replace KK : Hid (Keep [] (((w.alloc (a.blk (.slice ao la ca))).alloc (b.blk (.slice bo lb cb))).alloc (c.blk (.slice co lc cc))) w20) := KK.out.trans' k
        clear k
        cases sm
        all_goals
          go_wp2_with fail
          refine (one_half_any _).mono ?_
          rintro e21 w21 ⟨rfl, k⟩
          have HZ : Hid (Below w.heap.size w w21) := (((HB.out _ _ _).trans' KK.out).trans' k).below
          clear k
          go_wp2
          go_ret
          exact ⟨rfl, HZ.out⟩
      · have hz : z = -1 ∨ z = 0 := by
          have h1 := hT (by first | trivial | omega) (by first | trivial | omega)
          have h2 := HF.out.2.2.1
          omega
        clear hT
        rcases hz with rfl | rfl
        all_goals
          go_wp2_with fail
          refine (HD.out.2.2.1 _ ((HB.out _ _ _).trans' KK.out)).mono ?_
          rintro e20 w20 ⟨rfl, k⟩
          clear c0 c1 c2 c3 c4 c5 d0 d1 d2 d3 d4 d5 f0 f1 f2 f3 f4 f5
          replace KK : Hid (Keep [] (((w.alloc (a.blk (.slice ao la ca))).alloc (b.blk (.slice bo lb cb))).alloc (c.blk (.slice co lc cc))) w20) := KK.out.trans' k
          clear k
          cases sm
          all_goals
            go_wp2_with fail
            refine (one_half_any _).mono ?_
            rintro e21 w21 ⟨rfl, k⟩
            have HZ : Hid (Below w.heap.size w w21) := (((HB.out _ _ _).trans' KK.out).trans' k).below
            clear k
            go_wp2
            go_ret
            exact ⟨rfl, HZ.out⟩
      · clear hT
        go_wp2_with fail
        refine (HD.out.2.2.1 _ ((HB.out _ _ _).trans' KK.out)).mono ?_
        rintro e20 w20 ⟨rfl, k⟩
        clear c0 c1 c2 c3 c4 c5 d0 d1 d2 d3 d4 d5 f0 f1 f2 f3 f4 f5
        replace KK : Hid (Keep [] (((w.alloc (a.blk (.slice ao la ca))).alloc (b.blk (.slice bo lb cb))).alloc (c.blk (.slice co lc cc))) w20) := KK.out.trans' k
        clear k
        cases sm
        all_goals
          go_wp2_with fail
          refine (one_half_any _).mono ?_
          rintro e21 w21 ⟨rfl, k⟩
          have HZ : Hid (Below w.heap.size w w21) := (((HB.out _ _ _).trans' KK.out).trans' k).below
          clear k
          go_wp2
          go_ret
          exact ⟨rfl, HZ.out⟩
  · go_wp2_with fail
    refine (HD.out.1 _ ((HB.out _ _ _).trans' KK.out)).mono ?_
    rintro e5 w5 ⟨rfl, k⟩
    clear c0 c1 c2 c3 c4 c5 d0 d1 d2 d3 d4 d5 f0 f1 f2 f3 f4 f5
    replace KK : Hid (Keep [] (((w.alloc (a.blk (.slice ao la ca))).alloc (b.blk (.slice bo lb cb))).alloc (c.blk (.slice co lc cc))) w5) := KK.out.trans' k
    clear k
    obtain ⟨⟨c0, c1, c2, c3, c4, c5⟩, ⟨d0, d1, d2, d3, d4, d5⟩, ⟨f0, f1, f2, f3, f4, f5⟩⟩ := three_cells KK.out
    go_wp2_with fail
    refine (HD.out.2.1 _ ((HB.out _ _ _).trans' KK.out)).mono ?_
    rintro e6 w6 ⟨rfl, k⟩
    clear c0 c1 c2 c3 c4 c5 d0 d1 d2 d3 d4 d5 f0 f1 f2 f3 f4 f5
    replace KK : Hid (Keep [] (((w.alloc (a.blk (.slice ao la ca))).alloc (b.blk (.slice bo lb cb))).alloc (c.blk (.slice co lc cc))) w6) := KK.out.trans' k
    clear k
    obtain ⟨⟨c0, c1, c2, c3, c4, c5⟩, ⟨d0, d1, d2, d3, d4, d5⟩, ⟨f0, f1, f2, f3, f4, f5⟩⟩ := three_cells KK.out
    go_wp2_with fail
    refine (HD.out.2.2.2.1 _).mono ?_
    rintro e7 w7 ⟨rfl, k⟩
    clear c0 c1 c2 c3 c4 c5 d0 d1 d2 d3 d4 d5 f0 f1 f2 f3 f4 f5
    replace KK : Hid (Keep [] (((w.alloc (a.blk (.slice ao la ca))).alloc (b.blk (.slice bo lb cb))).alloc (c.blk (.slice co lc cc))) w7) := KK.out.trans' k
    clear k
    obtain ⟨⟨c0, c1, c2, c3, c4, c5⟩, ⟨d0, d1, d2, d3, d4, d5⟩, ⟨f0, f1, f2, f3, f4, f5⟩⟩ := three_cells KK.out
    go_wp2_with fail
    refine (HD.out.2.2.2.2 _).mono ?_
    rintro e8 w8 ⟨rfl, k⟩
    clear c0 c1 c2 c3 c4 c5 d0 d1 d2 d3 d4 d5 f0 f1 f2 f3 f4 f5
    replace KK : Hid (Keep [] (((w.alloc (a.blk (.slice ao la ca))).alloc (b.blk (.slice bo lb cb))).alloc (c.blk (.slice co lc cc))) w8) := KK.out.trans' k
    clear k
    obtain ⟨⟨c0, c1, c2, c3, c4, c5⟩, ⟨d0, d1, d2, d3, d4, d5⟩, ⟨f0, f1, f2, f3, f4, f5⟩⟩ := three_cells KK.out
    cases is
    · go_wp2_with fail
      refine (HD.out.2.2.1 _ ((HB.out _ _ _).trans' KK.out)).mono ?_
      rintro e20 w20 ⟨rfl, k⟩
      clear c0 c1 c2 c3 c4 c5 d0 d1 d2 d3 d4 d5 f0 f1 f2 f3 f4 f5
      replace KK : Hid (Keep [] (((w.alloc (a.blk (.slice ao la ca))).alloc (b.blk (.slice bo lb cb))).alloc (c.blk (.slice co lc cc))) w20) := KK.out.trans' k
      clear k
      cases sm
      all_goals
        go_wp2_with fail
        refine (one_half_any _).mono ?_
        rintro e21 w21 ⟨rfl, k⟩
        have HZ : Hid (Below w.heap.size w w21) := (((HB.out _ _ _).trans' KK.out).trans' k).below
        clear k
        go_wp2
        go_ret
        exact ⟨rfl, HZ.out⟩
    · obtain ⟨rfl, hT⟩ := HF.out.2.2.2.2.1 (by first | trivial | rfl) (by first | trivial | rfl)
      rcases HF.out.2.1 with rfl | rfl | rfl
      · obtain rfl : z = -1 := by
          have h1 := hT (by first | trivial | omega) (by first | trivial | omega)
          have h2 := HF.out.2.2.1
          omega
        clear hT
        go_wp2_with fail
        refine (HD.out.2.2.1 _ ((HB.out _ _ _).trans' KK.out)).mono ?_
        rintro e20 w20 ⟨rfl, k⟩
        clear c0 c1 c2 c3 c4 c5 d0 d1 d2 d3 d4 d5 f0 f1 f2 f3 f4 f5
        replace KK : Hid (Keep [] (((w.alloc (a.blk (.slice ao la ca))).alloc (b.blk (.slice bo lb cb))).alloc (c.blk (.slice co lc cc))) w20) := KK.out.trans' k
        clear k
        cases sm
        all_goals
          go_wp2_with fail
          refine (one_half_any _).mono ?_
          rintro e21 w21 ⟨rfl, k⟩
          have HZ : Hid (Below w.heap.size w w21) := (((HB.out _ _ _).trans' KK.out).trans' k).below
          clear k
          go_wp2
          go_ret
          exact ⟨rfl, HZ.out⟩
      · have hz : z = -1 ∨ z = 0 := by
          have h1 := hT (by first | trivial | omega) (by first | trivial | omega)
          have h2 := HF.out.2.2.1
          omega
        clear hT
        rcases hz with rfl | rfl
        all_goals
          go_wp2_with fail
          refine (HD.out.2.2.1 _ ((HB.out _ _ _).trans' KK.out)).mono ?_
          rintro e20 w20 ⟨rfl, k⟩
          clear c0 c1 c2 c3 c4 c5 d0 d1 d2 d3 d4 d5 f0 f1 f2 f3 f4 f5
          replace KK : Hid (Keep [] (((w.alloc (a.blk (.slice ao la ca))).alloc (b.blk (.slice bo lb cb))).alloc (c.blk (.slice co lc cc))) w20) := KK.out.trans' k
          clear k
          cases sm
          all_goals
            go_wp2_with fail
            refine (one_half_any _).mono ?_
            rintro e21 w21 ⟨rfl, k⟩
            have HZ : Hid (Below w.heap.size w w21) := (((HB.out _ _ _).trans' KK.out).trans' k).below
            clear k
            go_wp2
            go_ret
            exact ⟨rfl, HZ.out⟩
      · clear hT
        go_wp2_with fail
        refine (HD.out.2.2.1 _ ((HB.out _ _ _).trans' KK.out)).mono ?_
        rintro e20 w20 ⟨rfl, k⟩
        clear c0 c1 c2 c3 c4 c5 d0 d1 d2 d3 d4 d5 f0 f1 f2 f3 f4 f5
        replace KK : Hid (Keep [] (((w.alloc (a.blk (.slice ao la ca))).alloc (b.blk (.slice bo lb cb))).alloc (c.blk (.slice co lc cc))) w20) := KK.out.trans' k
        clear k
        cases sm
        all_goals
          go_wp2_with fail
          refine (one_half_any _).mono ?_
          rintro e21 w21 ⟨rfl, k⟩
          have HZ : Hid (Below w.heap.size w w21) := (((HB.out _ _ _).trans' KK.out).trans' k).below
          clear k
          go_wp2
          go_ret
          exact ⟨rfl, HZ.out⟩

end Go.Proofs.Ytppimacfeelneaa
