/- StrataKeeps: the walk. -/
import Derived.Test.YtmlpkjeaieljfabKs
namespace Go.Proofs.Ytmlpkjeaieljfab
open Go.RowKit Go.PlainAid

theorem AnsR.own {w w' : World} {e : Ending} {r : List Int × Int} (h : AnsR w w' e r) : ∃ a n c, e = .returned (.tuple #[.slice a n c, .int .i64 r.2]) ∧ Ow 3 encI 1 w w' (.slice a n c) r.1 := by
  obtain ⟨v, rfl, h1⟩ := h
  obtain ⟨a, c, rfl⟩ := (h1.row.rd encI_len).form'
  exact ⟨a, _, c, rfl, h1⟩

set_option maxRecDepth 1000000 in
set_option maxHeartbeats 16000000 in
theorem keeps_law (n : Int) (va vb : Value) (l1 l2 : List Az) (w : World) (h : Rd encZ 3 w va l1) (h2 : Rd encZ 3 w vb l2) (hn : -9223372036854775808 ≤ n ∧ n ≤ 9223372036854775807) (hl1 : ∀ x ∈ l1, (-9223372036854775808 ≤ x.f ∧ x.f ≤ 9223372036854775807) ∧ (-9223372036854775808 ≤ x.t ∧ x.t ≤ 9223372036854775807)) (hl2 : ∀ x ∈ l2, (-9223372036854775808 ≤ x.f ∧ x.f ≤ 9223372036854775807) ∧ (-9223372036854775808 ≤ x.t ∧ x.t ≤ 9223372036854775807)) :
    Calls Try.prog 4 #[.int .i64 n, va, vb] w fun e w' => e = .returned (.bool true) ∧ Keep [] w w' := by
  obtain ⟨ao, cap1, rfl⟩ := h.form'
  obtain ⟨bo, cap2, rfl⟩ := h2.form'
  have hN := fitN_lt n
  have HFi : Hid (∀ w', Keep [] w w' → Calls Try.prog 6 #[.int .i64 n, .slice ao l1.length cap1] w' fun e w2 => ∃ v', e = .returned (.tuple #[.int .i64 (fitN n : Int), v']) ∧ Ow 31 encA 3 w' w2 v' (fitA n l1)) := fun w' k => fit_any n _ l1 w' (h.keep k (Off.nil _)) hn hl1
  have HFj : Hid (∀ w', Keep [] w w' → Calls Try.prog 6 #[.int .i64 (fitN n : Int), .slice bo l2.length cap2] w' fun e w2 => ∃ v', e = .returned (.tuple #[.int .i64 (fitN (fitN n : Int) : Int), v']) ∧ Ow 31 encA 3 w' w2 v' (fitA (fitN n : Int) l2)) := fun w' k => fit_any _ _ l2 w' (h2.keep k (Off.nil _)) (by omega) hl2
  have hLA : ((fitA n l1).map Ar.z).length ≤ 400 := by rw [List.length_map]; exact fitA_len _ _
  have hLB : ((fitA (fitN n : Int) l2).map Ar.z).length ≤ 400 := by rw [List.length_map]; exact fitA_len _ _
  generalize fitA n l1 = A at HFi hLA
  generalize fitA (fitN n : Int) l2 = B at HFj hLB
  generalize fitN (fitN n : Int) = N2 at HFj
  generalize fitN n = N at HFi HFj hN
  clear h h2 hl1 hl2 hn
  go_enter Try.func4, Try.ntmps4
  go_wp2_with fail
  refine (awake_any _).mono ?_
  rintro e w1 ⟨rfl, k1⟩
  have H1 : Hid (Keep [] w w1) := k1
  clear k1
  go_wp2_with fail
  refine (HFi.out _ H1.out).mono ?_
  rintro e w2 ⟨v2, rfl, o2⟩
  have H2 : Hid (Rd encZ 3 w2 v2 (A.map Ar.z) ∧ Keep [] w w2) := ⟨(o2.row.rd encA_len).z, H1.out.trans' o2.keep⟩
  clear o2 H1 HFi
  go_wp2_with fail
  refine (HFj.out _ H2.out.2).mono ?_
  rintro e w3 ⟨v3, rfl, o3⟩
  have H3 : Hid (Rd encZ 3 w3 v2 (A.map Ar.z) ∧ Rd encZ 3 w3 v3 (B.map Ar.z) ∧ (∀ x, v3.ownBlock = some x → x < w3.heap.size) ∧ Keep [] w w3) := ⟨H2.out.1.keep o3.keep (Off.nil _), (o3.row.rd encA_len).z, o3.row.lt, H2.out.2.trans' o3.keep⟩
  clear o3 H2 HFj
  generalize A.map Ar.z = lz at H3 hLA
  generalize B.map Ar.z = oz at H3 hLB
  clear A B
  go_wp2_with fail
  refine (lentA_any v2 lz _ H3.out.1 (by omega)).mono ?_
  rintro e w4 ⟨gx, cap, rfl, r4, k4, g4⟩
  have H4 : Hid (Rw 31 encZ 3 w4 (.slice (some ⟨gx, 0, none⟩) (lz.length + 24) cap) (lz ++ marksA 24) ∧ Rd encZ 3 w4 v3 oz ∧ (∀ x, v3.ownBlock = some x → x ≠ gx) ∧ Keep [] w w4 ∧ w.heap.size ≤ gx) := by
    have hs := H3.out.2.2.2.size
    exact ⟨r4, H3.out.2.1.keep k4 (Off.nil _), fun x hx => by have := H3.out.2.2.1 x hx; omega, H3.out.2.2.2.trans' k4, by omega⟩
  clear r4 k4 g4 H3
  obtain ⟨pa, HPa⟩ : ∃ pa : List Int × Int, Hid (pa.1.length ≤ 4096 ∧ ∀ w' v, Rd encZ 3 w' v lz → Calls Try.prog 8 #[.int .i64 (N : Int), v] w' fun e w9 => AnsR w' w9 e pa) := ⟨partsAns N lz, parts_len _ _, fun w' v h => parts_ans N v lz w' h⟩
  obtain ⟨pb, HPb⟩ : ∃ pb : List Int × Int, Hid (pb.1.length ≤ 4096 ∧ ∀ w' v, Rd encZ 3 w' v oz → Calls Try.prog 8 #[.int .i64 (N : Int), v] w' fun e w9 => AnsR w' w9 e pb) := ⟨partsAns N oz, parts_len _ _, fun w' v h => parts_ans N v oz w' h⟩
  obtain ⟨sa_, HSa⟩ : ∃ sa_ : List Int × Int, Hid (sa_.1.length ≤ 4096 ∧ ∀ w' v, Rd encZ 3 w' v lz → Calls Try.prog 10 #[.int .i64 (N : Int), v] w' fun e w9 => AnsR w' w9 e sa_) := ⟨strataAns N lz, strata_len _ _, fun w' v h => strata_ans N v lz w' h⟩
  obtain ⟨ga, HGa⟩ : ∃ ga : List Int × Int, Hid (ga.1.length ≤ 4096 ∧ ∀ w' v, Rd encZ 3 w' v lz → Calls Try.prog 14 #[.int .i64 (N : Int), v] w' fun e w9 => AnsR w' w9 e ga) := ⟨ringAns N lz, ring_len _ _, fun w' v h => ring_ans N v lz w' h⟩
  by_cases hN0 : 0 < N
  · have hq : (0 : Int) < (N : Int) := by omega
    have H5 : Hid (Kst w gx cap v3 oz (.slice (some ⟨w4.heap.size, 0, none⟩) 1 1) [(N : Int) - 1] lz [] (w4.alloc (.cells #[.int .i64 ((N : Int) - 1)] 3))) := by
      have k : Keep [] w4 (w4.alloc (.cells #[.int .i64 ((N : Int) - 1)] 3)) := Keep.alloc1 w4 _
      refine ⟨H4.out.1.keep k (Off.nil _), H4.out.2.1.keep k (Off.nil _), H4.out.2.2.1, Rd.lit encI_len w4 [(N : Int) - 1] _ 3 rfl (by simp), fun y hy => ?_, ⟨by simp, by simp, List.Pairwise.nil, by simp⟩, H4.out.2.2.2.1.trans' k, H4.out.2.2.2.2⟩
      simp [Value.ownBlock] at hy
      subst hy
      exact ⟨H4.out.1.lt gx rfl, by simp⟩
    clear H4
    go_wp2_with fail
    obtain ⟨fz, HFZ⟩ : ∃ fz : Nat, Hid (fz = w4.heap.size) := ⟨_, show _ = _ from rfl⟩
    rw [← HFZ.out] at H5 ⊢
    clear HFZ
    generalize w4.alloc (.cells #[.int .i64 ((N : Int) - 1)] 3) = w5 at H5 ⊢
    obtain ⟨ra, HRa⟩ : ∃ ra : List Int × Int, Hid (ra.1.length ≤ 4096 ∧ ∀ w' v, Rd encZ 3 w' v lz → Rd encI 1 w' (.slice (some ⟨fz, 0, none⟩) 1 1) [(N : Int) - 1] → (∀ x, (.slice (some ⟨fz, 0, none⟩) 1 1 : Value).ownBlock = some x → x < w'.heap.size) → Calls Try.prog 11 #[.int .i64 (N : Int), v, .slice (some ⟨fz, 0, none⟩) 1 1] w' fun e w9 => AnsR w' w9 e ra) := ⟨reachAns N lz [(N : Int) - 1], reach_len _ _ _, fun w' v h1 h2 h3 => reach_ans N v _ lz [(N : Int) - 1] w' h1 h2 h3⟩
    go_wp2_with fail
    refine (HPa.out.2 _ _ H5.out.rd).mono ?_
    rintro e y1 hA
    obtain ⟨sa, na, ca, rfl, hk, kk⟩ := H5.out.ans HPa.out.1 hA
    have K1 : Hid (Kst w gx cap v3 oz (.slice (some ⟨fz, 0, none⟩) 1 1) [(N : Int) - 1] lz [(.slice sa na ca, pa.1)] y1) := hk
    clear hk hA kk H5
    go_wp2_with fail
    refine (copyA_any v3 oz _ (K1.out.o) (by omega)).mono ?_
    rintro e y2 ⟨vc2, rfl, oc⟩
    have HC2 : Hid (Rd encZ 3 y2 vc2 oz) := oc.row.rd encZ_len
    have K2 : Hid (Kst w gx cap v3 oz (.slice (some ⟨fz, 0, none⟩) 1 1) [(N : Int) - 1] lz [(.slice sa na ca, pa.1)] y2) := K1.out.step oc.keep
    clear oc K1
    go_wp2_with fail
    refine (HPb.out.2 _ _ HC2.out).mono ?_
    rintro e y3 hA
    obtain ⟨sb, nb, cb, rfl, hk, kk⟩ := K2.out.ans HPb.out.1 hA
    have K3 : Hid (Kst w gx cap v3 oz (.slice (some ⟨fz, 0, none⟩) 1 1) [(N : Int) - 1] lz [(.slice sa na ca, pa.1), (.slice sb nb cb, pb.1)] y3) := hk
    clear hk hA kk K2
    clear HC2
    go_wp2_with fail
    refine (HPa.out.2 _ _ K3.out.rd).mono ?_
    rintro e y4 hA
    obtain ⟨sc, nc, cc, rfl, hk, kk⟩ := K3.out.ans HPa.out.1 hA
    have K4 : Hid (Kst w gx cap v3 oz (.slice (some ⟨fz, 0, none⟩) 1 1) [(N : Int) - 1] lz [(.slice sa na ca, pa.1), (.slice sb nb cb, pb.1), (.slice sc nc cc, pa.1)] y4) := hk
    clear hk hA kk K3
    go_wp2_with fail
    refine (HSa.out.2 _ _ K4.out.rd).mono ?_
    rintro e y5 hA
    obtain ⟨sd, nd, cd, rfl, hk, kk⟩ := K4.out.ans HSa.out.1 hA
    have K5 : Hid (Kst w gx cap v3 oz (.slice (some ⟨fz, 0, none⟩) 1 1) [(N : Int) - 1] lz [(.slice sa na ca, pa.1), (.slice sb nb cb, pb.1), (.slice sc nc cc, pa.1), (.slice sd nd cd, sa_.1)] y5) := hk
    clear hk hA kk K4
    go_wp2_with fail
    refine (HSa.out.2 _ _ K5.out.rd).mono ?_
    rintro e y6 hA
    obtain ⟨se, ne, ce, rfl, hk, kk⟩ := K5.out.ans HSa.out.1 hA
    have K6 : Hid (Kst w gx cap v3 oz (.slice (some ⟨fz, 0, none⟩) 1 1) [(N : Int) - 1] lz [(.slice sa na ca, pa.1), (.slice sb nb cb, pb.1), (.slice sc nc cc, pa.1), (.slice sd nd cd, sa_.1), (.slice se ne ce, sa_.1)] y6) := hk
    clear hk hA kk K5
    go_wp2_with fail
    refine (HRa.out.2 _ _ K6.out.rd K6.out.f (fun x hx => (K6.out.fo x hx).2)).mono ?_
    rintro e y7 hA
    obtain ⟨sf, nf, cf, rfl, hk, kk⟩ := K6.out.ans HRa.out.1 hA
    have K7 : Hid (Kst w gx cap v3 oz (.slice (some ⟨fz, 0, none⟩) 1 1) [(N : Int) - 1] lz [(.slice sa na ca, pa.1), (.slice sb nb cb, pb.1), (.slice sc nc cc, pa.1), (.slice sd nd cd, sa_.1), (.slice se ne ce, sa_.1), (.slice sf nf cf, ra.1)] y7) := hk
    clear hk hA kk K6
    go_wp2_with fail
    refine (HRa.out.2 _ _ K7.out.rd K7.out.f (fun x hx => (K7.out.fo x hx).2)).mono ?_
    rintro e y8 hA
    obtain ⟨sg, ng, cg, rfl, hk, kk⟩ := K7.out.ans HRa.out.1 hA
    have K8 : Hid (Kst w gx cap v3 oz (.slice (some ⟨fz, 0, none⟩) 1 1) [(N : Int) - 1] lz [(.slice sa na ca, pa.1), (.slice sb nb cb, pb.1), (.slice sc nc cc, pa.1), (.slice sd nd cd, sa_.1), (.slice se ne ce, sa_.1), (.slice sf nf cf, ra.1), (.slice sg ng cg, ra.1)] y8) := hk
    clear hk hA kk K7
    go_wp2_with fail
    refine (HGa.out.2 _ _ K8.out.rd).mono ?_
    rintro e y9 hA
    obtain ⟨sh, nh, ch, rfl, hk, kk⟩ := K8.out.ans HGa.out.1 hA
    have K9 : Hid (Kst w gx cap v3 oz (.slice (some ⟨fz, 0, none⟩) 1 1) [(N : Int) - 1] lz [(.slice sa na ca, pa.1), (.slice sb nb cb, pb.1), (.slice sc nc cc, pa.1), (.slice sd nd cd, sa_.1), (.slice se ne ce, sa_.1), (.slice sf nf cf, ra.1), (.slice sg ng cg, ra.1), (.slice sh nh ch, ga.1)] y9) := hk
    clear hk hA kk K8
    go_wp2_with fail
    refine (HGa.out.2 _ _ K9.out.rd).mono ?_
    rintro e y10 hA
    obtain ⟨si, ni, ci, rfl, hk, kk⟩ := K9.out.ans HGa.out.1 hA
    have K10 : Hid (Kst w gx cap v3 oz (.slice (some ⟨fz, 0, none⟩) 1 1) [(N : Int) - 1] lz [(.slice sa na ca, pa.1), (.slice sb nb cb, pb.1), (.slice sc nc cc, pa.1), (.slice sd nd cd, sa_.1), (.slice se ne ce, sa_.1), (.slice sf nf cf, ra.1), (.slice sg ng cg, ra.1), (.slice sh nh ch, ga.1), (.slice si ni ci, ga.1)] y10) := hk
    clear hk hA kk K9
    go_wp2_with fail
    refine (same_yes _ _ pa.1 _ (K10.out.at _ _ (by simp)) (K10.out.at _ _ (by simp))).mono ?_
    rintro e y11 ⟨rfl, kk⟩
    have K11 : Hid (Kst w gx cap v3 oz (.slice (some ⟨fz, 0, none⟩) 1 1) [(N : Int) - 1] lz [(.slice sa na ca, pa.1), (.slice sb nb cb, pb.1), (.slice sc nc cc, pa.1), (.slice sd nd cd, sa_.1), (.slice se ne ce, sa_.1), (.slice sf nf cf, ra.1), (.slice sg ng cg, ra.1), (.slice sh nh ch, ga.1), (.slice si ni ci, ga.1)] y11) := K10.out.step kk
    clear kk K10
    go_wp2_with fail
    refine (same_yes _ _ sa_.1 _ (K11.out.at _ _ (by simp)) (K11.out.at _ _ (by simp))).mono ?_
    rintro e y12 ⟨rfl, kk⟩
    have K12 : Hid (Kst w gx cap v3 oz (.slice (some ⟨fz, 0, none⟩) 1 1) [(N : Int) - 1] lz [(.slice sa na ca, pa.1), (.slice sb nb cb, pb.1), (.slice sc nc cc, pa.1), (.slice sd nd cd, sa_.1), (.slice se ne ce, sa_.1), (.slice sf nf cf, ra.1), (.slice sg ng cg, ra.1), (.slice sh nh ch, ga.1), (.slice si ni ci, ga.1)] y12) := K11.out.step kk
    clear kk K11
    go_wp2_with fail
    refine (same_yes _ _ ra.1 _ (K12.out.at _ _ (by simp)) (K12.out.at _ _ (by simp))).mono ?_
    rintro e y13 ⟨rfl, kk⟩
    have K13 : Hid (Kst w gx cap v3 oz (.slice (some ⟨fz, 0, none⟩) 1 1) [(N : Int) - 1] lz [(.slice sa na ca, pa.1), (.slice sb nb cb, pb.1), (.slice sc nc cc, pa.1), (.slice sd nd cd, sa_.1), (.slice se ne ce, sa_.1), (.slice sf nf cf, ra.1), (.slice sg ng cg, ra.1), (.slice sh nh ch, ga.1), (.slice si ni ci, ga.1)] y13) := K12.out.step kk
    clear kk K12
    go_wp2_with fail
    refine (same_yes _ _ ga.1 _ (K13.out.at _ _ (by simp)) (K13.out.at _ _ (by simp))).mono ?_
    rintro e y14 ⟨rfl, kk⟩
    have K14 : Hid (Kst w gx cap v3 oz (.slice (some ⟨fz, 0, none⟩) 1 1) [(N : Int) - 1] lz [(.slice sa na ca, pa.1), (.slice sb nb cb, pb.1), (.slice sc nc cc, pa.1), (.slice sd nd cd, sa_.1), (.slice se ne ce, sa_.1), (.slice sf nf cf, ra.1), (.slice sg ng cg, ra.1), (.slice sh nh ch, ga.1), (.slice si ni ci, ga.1)] y14) := K13.out.step kk
    clear kk K13
    go_wp2
    go_loopw [30] (fun iv wr => ∃ (k : Nat) (m : List Az), iv = .int .i64 (k : Int) ∧ k ≤ lz.length ∧ m.length = lz.length ∧ Hid (Kst w gx cap v3 oz (.slice (some ⟨fz, 0, none⟩) 1 1) [(N : Int) - 1] m [(.slice sa na ca, pa.1), (.slice sb nb cb, pb.1), (.slice sc nc cc, pa.1), (.slice sd nd cd, sa_.1), (.slice se ne ce, sa_.1), (.slice sf nf cf, ra.1), (.slice sg ng cg, ra.1), (.slice sh nh ch, ga.1), (.slice si ni ci, ga.1)] wr)) (fun iv _ => lz.length - (intOf iv).toNat)
    case atStart => exact ⟨0, lz, rfl, Nat.zero_le _, rfl, K14⟩
    case round =>
      clear K14
      obtain ⟨k, m, rfl, hk, hm, HI⟩ := hrel
      by_cases hlt : k < lz.length
      · skip
        have hlti : (k : Int) < (lz.length : Int) := by omega
        have hkm : k < m.length := by omega
        obtain ⟨⟨c0, c1, c2⟩, frz⟩ := HI.out.cells k hkm
        have HJ : Hid (∀ b : Bool, Kst w gx cap v3 oz (.slice (some ⟨fz, 0, none⟩) 1 1) [(N : Int) - 1] (m.set k ⟨m[k].t, m[k].f, b⟩) [(.slice sa na ca, pa.1), (.slice sb nb cb, pb.1), (.slice sc nc cc, pa.1), (.slice sd nd cd, sa_.1), (.slice se ne ce, sa_.1), (.slice sf nf cf, ra.1), (.slice sg ng cg, ra.1), (.slice sh nh ch, ga.1), (.slice si ni ci, ga.1)] (((wr.drew.setCell ⟨gx, k * 3, none⟩ (.int .i64 m[k].t)).setCell ⟨gx, k * 3 + 1, none⟩ (.int .i64 m[k].f)).setCell ⟨gx, k * 3 + 2, none⟩ (.bool b))) := fun b => (HI.out.step ((Keep.refl [] wr).drew)).put k hkm ⟨m[k].t, m[k].f, b⟩
        have f0 := frz (k * 3)
        have f1 := frz (k * 3 + 1)
        have f2 := frz (k * 3 + 2)
        generalize m[k].f = xf at c0 HJ
        generalize m[k].t = xt at c1 HJ
        generalize m[k].g = xg at c2
        clear frz HI
        go_wp2
        refine wp_region_tail 17 (S := fun w' : World => w'.cell? ⟨gx, k * 3, none⟩ = some (.int .i64 xf) ∧ w'.cell? ⟨gx, k * 3 + 1, none⟩ = some (.int .i64 xt) ∧ w'.cell? ⟨gx, k * 3 + 2, none⟩ = some (.bool xg) ∧ w'.frozen? ⟨gx, k * 3, none⟩ = false ∧ w'.frozen? ⟨gx, k * 3 + 1, none⟩ = false ∧ w'.frozen? ⟨gx, k * 3 + 2, none⟩ = false) (by kernel_rfl) (⟨c0, c1, c2, f0, f1, f2⟩) (fun hHeld => ?_)
        try dsimp only at hHeld
        refine AnyT.take (i := 0) (oi := { dst := some 145, op := Go.Op.move (Go.Operand.tmp 10), type := 22, pos := "outright.go:237", after := #[], guard := none }) (v := ?_) rfl (by kernel_rfl) (by kernel_rfl) (by kernel_rfl) (by kernel_rfl) (fun _ _ _ h => h) (Or.inl ⟨by rfl, ?_⟩) (by assumption) ?_
        rotate_left
        · intro w7 hSw
          try dsimp only at hSw
          first | (go_simp; done) | (go_simp; with_reducible rfl)
        try simp only [Act.put, List.setIfInBounds_toArray, List.set_cons_zero, List.set_cons_succ]
        refine AnyT.take (i := 1) (oi := { dst := some 146, op := Go.Op.move (Go.Operand.tmp 30), type := 3, pos := "outright.go:237", after := #[], guard := none }) (v := ?_) rfl (by kernel_rfl) (by kernel_rfl) (by kernel_rfl) (by kernel_rfl) (fun _ _ _ h => h) (Or.inl ⟨by rfl, ?_⟩) (by assumption) ?_
        rotate_left
        · intro w7 hSw
          try dsimp only at hSw
          first | (go_simp; done) | (go_simp; with_reducible rfl)
        try simp only [Act.put, List.setIfInBounds_toArray, List.set_cons_zero, List.set_cons_succ]
        refine AnyT.take (i := 2) (oi := { dst := some 147, op := Go.Op.move (Go.Operand.tmp 10), type := 22, pos := "outright.go:237", after := #[], guard := none }) (v := ?_) rfl (by kernel_rfl) (by kernel_rfl) (by kernel_rfl) (by kernel_rfl) (fun _ _ _ h => h) (Or.inl ⟨by rfl, ?_⟩) (by assumption) ?_
        rotate_left
        · intro w7 hSw
          try dsimp only at hSw
          first | (go_simp; done) | (go_simp; with_reducible rfl)
        try simp only [Act.put, List.setIfInBounds_toArray, List.set_cons_zero, List.set_cons_succ]
        refine AnyT.take (i := 3) (oi := { dst := some 148, op := Go.Op.move (Go.Operand.tmp 30), type := 3, pos := "outright.go:237", after := #[], guard := none }) (v := ?_) rfl (by kernel_rfl) (by kernel_rfl) (by kernel_rfl) (by kernel_rfl) (fun _ _ _ h => h) (Or.inl ⟨by rfl, ?_⟩) (by assumption) ?_
        rotate_left
        · intro w7 hSw
          try dsimp only at hSw
          first | (go_simp; done) | (go_simp; with_reducible rfl)
        try simp only [Act.put, List.setIfInBounds_toArray, List.set_cons_zero, List.set_cons_succ]
        refine AnyT.take (i := 4) (oi := { dst := some 149, op := Go.Op.indexAddr 22 (Go.Operand.tmp 147) (Go.Operand.tmp 148), type := 0, pos := "outright.go:237", after := #[{ on := 2, ground := Go.Ground.data }, { on := 3, ground := Go.Ground.data }], guard := none }) (v := ?_) rfl (by kernel_rfl) (by kernel_rfl) (by kernel_rfl) (by kernel_rfl) (fun _ _ _ h => h) (Or.inl ⟨by rfl, ?_⟩) (by assumption) ?_
        rotate_left
        · intro w7 hSw
          try dsimp only at hSw
          first | (go_simp; done) | (go_simp; with_reducible rfl)
        try simp only [Act.put, List.setIfInBounds_toArray, List.set_cons_zero, List.set_cons_succ]
        refine AnyT.take (i := 5) (oi := { dst := some 150, op := Go.Op.fieldAddr 31 (Go.Operand.tmp 149) 1, type := 0, pos := "outright.go:237", after := #[{ on := 4, ground := Go.Ground.data }], guard := none }) (v := ?_) rfl (by kernel_rfl) (by kernel_rfl) (by kernel_rfl) (by kernel_rfl) (fun _ _ _ h => h) (Or.inl ⟨by rfl, ?_⟩) (by assumption) ?_
        rotate_left
        · intro w7 hSw
          try dsimp only at hSw
          first | (go_simp; done) | (go_simp; with_reducible rfl)
        try simp only [Act.put, List.setIfInBounds_toArray, List.set_cons_zero, List.set_cons_succ]
        refine AnyT.take (i := 6) (oi := { dst := some 151, op := Go.Op.load 3 (Go.Operand.tmp 150), type := 3, pos := "outright.go:237", after := #[{ on := 5, ground := Go.Ground.data }], guard := none }) (v := ?_) rfl (by kernel_rfl) (by kernel_rfl) (by kernel_rfl) (by kernel_rfl) (fun _ _ _ h => h) (Or.inl ⟨by rfl, ?_⟩) (by assumption) ?_
        rotate_left
        · intro w7 hSw
          try dsimp only at hSw
          first | (go_simp; done) | (go_simp; with_reducible rfl)
        try simp only [Act.put, List.setIfInBounds_toArray, List.set_cons_zero, List.set_cons_succ]
        refine AnyT.take (i := 7) (oi := { dst := some 152, op := Go.Op.move (Go.Operand.tmp 10), type := 22, pos := "outright.go:237", after := #[], guard := none }) (v := ?_) rfl (by kernel_rfl) (by kernel_rfl) (by kernel_rfl) (by kernel_rfl) (fun _ _ _ h => h) (Or.inl ⟨by rfl, ?_⟩) (by assumption) ?_
        rotate_left
        · intro w7 hSw
          try dsimp only at hSw
          first | (go_simp; done) | (go_simp; with_reducible rfl)
        try simp only [Act.put, List.setIfInBounds_toArray, List.set_cons_zero, List.set_cons_succ]
        refine AnyT.take (i := 8) (oi := { dst := some 153, op := Go.Op.move (Go.Operand.tmp 30), type := 3, pos := "outright.go:237", after := #[], guard := none }) (v := ?_) rfl (by kernel_rfl) (by kernel_rfl) (by kernel_rfl) (by kernel_rfl) (fun _ _ _ h => h) (Or.inl ⟨by rfl, ?_⟩) (by assumption) ?_
        rotate_left
        · intro w7 hSw
          try dsimp only at hSw
          first | (go_simp; done) | (go_simp; with_reducible rfl)
        try simp only [Act.put, List.setIfInBounds_toArray, List.set_cons_zero, List.set_cons_succ]
        refine AnyT.take (i := 9) (oi := { dst := some 154, op := Go.Op.indexAddr 22 (Go.Operand.tmp 152) (Go.Operand.tmp 153), type := 0, pos := "outright.go:237", after := #[{ on := 7, ground := Go.Ground.data }, { on := 8, ground := Go.Ground.data }], guard := none }) (v := ?_) rfl (by kernel_rfl) (by kernel_rfl) (by kernel_rfl) (by kernel_rfl) (fun _ _ _ h => h) (Or.inl ⟨by rfl, ?_⟩) (by assumption) ?_
        rotate_left
        · intro w7 hSw
          try dsimp only at hSw
          first | (go_simp; done) | (go_simp; with_reducible rfl)
        try simp only [Act.put, List.setIfInBounds_toArray, List.set_cons_zero, List.set_cons_succ]
        refine AnyT.take (i := 10) (oi := { dst := some 155, op := Go.Op.fieldAddr 31 (Go.Operand.tmp 154) 0, type := 0, pos := "outright.go:237", after := #[{ on := 9, ground := Go.Ground.data }], guard := none }) (v := ?_) rfl (by kernel_rfl) (by kernel_rfl) (by kernel_rfl) (by kernel_rfl) (fun _ _ _ h => h) (Or.inl ⟨by rfl, ?_⟩) (by assumption) ?_
        rotate_left
        · intro w7 hSw
          try dsimp only at hSw
          first | (go_simp; done) | (go_simp; with_reducible rfl)
        try simp only [Act.put, List.setIfInBounds_toArray, List.set_cons_zero, List.set_cons_succ]
        refine AnyT.take (i := 11) (oi := { dst := some 156, op := Go.Op.load 3 (Go.Operand.tmp 155), type := 3, pos := "outright.go:237", after := #[{ on := 10, ground := Go.Ground.data }], guard := none }) (v := ?_) rfl (by kernel_rfl) (by kernel_rfl) (by kernel_rfl) (by kernel_rfl) (fun _ _ _ h => h) (Or.inl ⟨by rfl, ?_⟩) (by assumption) ?_
        rotate_left
        · intro w7 hSw
          try dsimp only at hSw
          first | (go_simp; done) | (go_simp; with_reducible rfl)
        try simp only [Act.put, List.setIfInBounds_toArray, List.set_cons_zero, List.set_cons_succ]
        refine AnyT.take (i := 12) (oi := { dst := some 157, op := Go.Op.move (Go.Operand.tmp 30), type := 3, pos := "outright.go:237", after := #[], guard := none }) (v := ?_) rfl (by kernel_rfl) (by kernel_rfl) (by kernel_rfl) (by kernel_rfl) (fun _ _ _ h => h) (Or.inl ⟨by rfl, ?_⟩) (by assumption) ?_
        rotate_left
        · intro w7 hSw
          try dsimp only at hSw
          first | (go_simp; done) | (go_simp; with_reducible rfl)
        try simp only [Act.put, List.setIfInBounds_toArray, List.set_cons_zero, List.set_cons_succ]
        refine AnyT.take (i := 13) (oi := { dst := some 158, op := Go.Op.binOp Go.BinOp.rem 3 (Go.Operand.tmp 157) (Go.Operand.const (Go.Value.int Go.IntKind.i64 5)) 3, type := 3, pos := "outright.go:237", after := #[{ on := 12, ground := Go.Ground.data }], guard := none }) (v := ?_) rfl (by kernel_rfl) (by kernel_rfl) (by kernel_rfl) (by kernel_rfl) (fun _ _ _ h => h) (Or.inl ⟨by rfl, ?_⟩) (by assumption) ?_
        rotate_left
        · intro w7 hSw
          try dsimp only at hSw
          first | (go_simp; done) | (go_simp; with_reducible rfl)
        try simp only [Act.put, List.setIfInBounds_toArray, List.set_cons_zero, List.set_cons_succ]
        refine AnyT.take (i := 14) (oi := { dst := some 159, op := Go.Op.binOp Go.BinOp.eql 3 (Go.Operand.tmp 158) (Go.Operand.const (Go.Value.int Go.IntKind.i64 0)) 3, type := 4, pos := "outright.go:237", after := #[{ on := 13, ground := Go.Ground.data }], guard := none }) (v := ?_) rfl (by kernel_rfl) (by kernel_rfl) (by kernel_rfl) (by kernel_rfl) (fun _ _ _ h => h) (Or.inl ⟨by rfl, ?_⟩) (by assumption) ?_
        rotate_left
        · intro w7 hSw
          try dsimp only at hSw
          first | (go_simp; done) | (go_simp; with_reducible rfl)
        try simp only [Act.put, List.setIfInBounds_toArray, List.set_cons_zero, List.set_cons_succ]
        refine AnyT.take (i := 15) (oi := { dst := some 160, op := Go.Op.build 31 #[(0, Go.Operand.tmp 151), (1, Go.Operand.tmp 156), (2, Go.Operand.tmp 159)], type := 31, pos := "outright.go:237", after := #[{ on := 6, ground := Go.Ground.data }, { on := 11, ground := Go.Ground.data }, { on := 14, ground := Go.Ground.data }], guard := none }) (v := ?_) rfl (by kernel_rfl) (by kernel_rfl) (by kernel_rfl) (by kernel_rfl) (fun _ _ _ h => h) (Or.inl ⟨by rfl, ?_⟩) (by assumption) ?_
        rotate_left
        · intro w7 hSw
          try dsimp only at hSw
          first | (go_simp; done) | (go_simp; with_reducible rfl)
        try simp only [Act.put, List.setIfInBounds_toArray, List.set_cons_zero, List.set_cons_succ]
        refine AnyT.take (i := 16) (oi := { dst := some 161, op := Go.Op.indexAddr 22 (Go.Operand.tmp 145) (Go.Operand.tmp 146), type := 0, pos := "outright.go:237", after := #[{ on := 0, ground := Go.Ground.data }, { on := 1, ground := Go.Ground.data }, { on := 0, ground := Go.Ground.phase }, { on := 1, ground := Go.Ground.phase }, { on := 2, ground := Go.Ground.phase }, { on := 3, ground := Go.Ground.phase }, { on := 4, ground := Go.Ground.phase }, { on := 5, ground := Go.Ground.phase }, { on := 6, ground := Go.Ground.phase }, { on := 7, ground := Go.Ground.phase }, { on := 8, ground := Go.Ground.phase }, { on := 9, ground := Go.Ground.phase }, { on := 10, ground := Go.Ground.phase }, { on := 11, ground := Go.Ground.phase }, { on := 12, ground := Go.Ground.phase }, { on := 13, ground := Go.Ground.phase }, { on := 14, ground := Go.Ground.phase }, { on := 15, ground := Go.Ground.phase }], guard := none }) (v := ?_) rfl (by kernel_rfl) (by kernel_rfl) (by kernel_rfl) (by kernel_rfl) (fun _ _ _ h => h) (Or.inl ⟨by rfl, ?_⟩) (by assumption) ?_
        rotate_left
        · intro w7 hSw
          try dsimp only at hSw
          first | (go_simp; done) | (go_simp; with_reducible rfl)
        try simp only [Act.put, List.setIfInBounds_toArray, List.set_cons_zero, List.set_cons_succ]
        refine AnyT.one (i := 17) (o := { dst := none, op := Go.Op.store 31 (Go.Operand.tmp 161) (Go.Operand.tmp 160), type := 0, pos := "outright.go:237", after := #[{ on := 16, ground := Go.Ground.data }, { on := 15, ground := Go.Ground.data }, { on := 0, ground := Go.Ground.phase }, { on := 1, ground := Go.Ground.phase }, { on := 2, ground := Go.Ground.phase }, { on := 3, ground := Go.Ground.phase }, { on := 4, ground := Go.Ground.phase }, { on := 5, ground := Go.Ground.phase }, { on := 6, ground := Go.Ground.phase }, { on := 7, ground := Go.Ground.phase }, { on := 8, ground := Go.Ground.phase }, { on := 9, ground := Go.Ground.phase }, { on := 10, ground := Go.Ground.phase }, { on := 11, ground := Go.Ground.phase }, { on := 12, ground := Go.Ground.phase }, { on := 13, ground := Go.Ground.phase }, { on := 14, ground := Go.Ground.phase }, { on := 15, ground := Go.Ground.phase }], guard := none }) (by kernel_rfl) rfl (fun K hK => ?_)
        go_simp
        refine hK.out _ _ (fun h => absurd rfl h) (fun _ => ?_)
        clear hK hHeld
        try simp only [Act.put, List.setIfInBounds_toArray, List.set_cons_zero, List.set_cons_succ]
        refine AnyT.done (by kernel_rfl) ?_ _
        go_wp2
        go_roundw
        case rel => exact ⟨k + 1, m.set k ⟨xt, xf, _⟩, by go_num, by omega, (List.length_set).trans hm, HJ.out _⟩
        case measure => simp [intOf]; omega
      · skip
        have hlti : ¬ (k : Int) < (lz.length : Int) := by omega
        clear HPa HPb HSa HRa HGa hlt hk
        obtain ⟨pm, HPm⟩ : ∃ pm : List Int × Int, Hid (pm.1.length ≤ 4096 ∧ ∀ w' v, Rd encZ 3 w' v m → Calls Try.prog 8 #[.int .i64 (N : Int), v] w' fun e w9 => AnsR w' w9 e pm) := ⟨partsAns N m, parts_len _ _, fun w' v h => parts_ans N v m w' h⟩
        obtain ⟨rm, HRm⟩ : ∃ rm : List Int × Int, Hid (rm.1.length ≤ 4096 ∧ ∀ w' v, Rd encZ 3 w' v m → Rd encI 1 w' (.slice (some ⟨fz, 0, none⟩) 1 1) [(N : Int) - 1] → (∀ x, (.slice (some ⟨fz, 0, none⟩) 1 1 : Value).ownBlock = some x → x < w'.heap.size) → Calls Try.prog 11 #[.int .i64 (N : Int), v, .slice (some ⟨fz, 0, none⟩) 1 1] w' fun e w9 => AnsR w' w9 e rm) := ⟨reachAns N m [(N : Int) - 1], reach_len _ _ _, fun w' v h1 h2 h3 => reach_ans N v _ m [(N : Int) - 1] w' h1 h2 h3⟩
        go_wp2_with fail
        refine (HPm.out.2 _ _ (HI.out.rd' hm)).mono ?_
        rintro e y15 hA
        obtain ⟨sj, nj, cj, rfl, hk, kk⟩ := HI.out.ans HPm.out.1 hA
        have K15 : Hid (Kst w gx cap v3 oz (.slice (some ⟨fz, 0, none⟩) 1 1) [(N : Int) - 1] m [(.slice sa na ca, pa.1), (.slice sb nb cb, pb.1), (.slice sc nc cc, pa.1), (.slice sd nd cd, sa_.1), (.slice se ne ce, sa_.1), (.slice sf nf cf, ra.1), (.slice sg ng cg, ra.1), (.slice sh nh ch, ga.1), (.slice si ni ci, ga.1), (.slice sj nj cj, pm.1)] y15) := hk
        clear hk hA kk HI
        go_wp2_with fail
        refine (copyA_any _ m _ (K15.out.rd' hm) (by omega)).mono ?_
        rintro e y16 ⟨vc16, rfl, oc⟩
        have HC16 : Hid (Rd encZ 3 y16 vc16 m) := oc.row.rd encZ_len
        have K16 : Hid (Kst w gx cap v3 oz (.slice (some ⟨fz, 0, none⟩) 1 1) [(N : Int) - 1] m [(.slice sa na ca, pa.1), (.slice sb nb cb, pb.1), (.slice sc nc cc, pa.1), (.slice sd nd cd, sa_.1), (.slice se ne ce, sa_.1), (.slice sf nf cf, ra.1), (.slice sg ng cg, ra.1), (.slice sh nh ch, ga.1), (.slice si ni ci, ga.1), (.slice sj nj cj, pm.1)] y16) := K15.out.step oc.keep
        clear oc K15
        go_wp2_with fail
        refine (HPm.out.2 _ _ HC16.out).mono ?_
        rintro e y17 hA
        obtain ⟨sw, nw, cw, rfl, hk, hw⟩ := K16.out.ans2 hA
        have HW0 : Hid (Rd encI 1 y17 (.slice sw nw cw) pm.1) := hw
        have K17 : Hid (Kst w gx cap v3 oz (.slice (some ⟨fz, 0, none⟩) 1 1) [(N : Int) - 1] m [(.slice sa na ca, pa.1), (.slice sb nb cb, pb.1), (.slice sc nc cc, pa.1), (.slice sd nd cd, sa_.1), (.slice se ne ce, sa_.1), (.slice sf nf cf, ra.1), (.slice sg ng cg, ra.1), (.slice sh nh ch, ga.1), (.slice si ni ci, ga.1), (.slice sj nj cj, pm.1)] y17) := hk
        clear hk hA hw HC16 K16
        go_wp2_with fail
        refine (HRm.out.2 _ _ (K17.out.rd' hm) K17.out.f (fun x hx => (K17.out.fo x hx).2)).mono ?_
        rintro e y18 hA
        obtain ⟨sr, nr, cr, rfl, hk, kk⟩ := K17.out.ans HRm.out.1 hA
        have HW1 : Hid (Rd encI 1 y18 (.slice sw nw cw) pm.1) := HW0.out.keep kk (Off.nil _)
        have K18 : Hid (Kst w gx cap v3 oz (.slice (some ⟨fz, 0, none⟩) 1 1) [(N : Int) - 1] m [(.slice sa na ca, pa.1), (.slice sb nb cb, pb.1), (.slice sc nc cc, pa.1), (.slice sd nd cd, sa_.1), (.slice se ne ce, sa_.1), (.slice sf nf cf, ra.1), (.slice sg ng cg, ra.1), (.slice sh nh ch, ga.1), (.slice si ni ci, ga.1), (.slice sj nj cj, pm.1), (.slice sr nr cr, rm.1)] y18) := hk
        clear hk hA kk HW0 K17
        go_wp2_with fail
        refine (copyA_any _ m _ (K18.out.rd' hm) (by omega)).mono ?_
        rintro e y19 ⟨vc19, rfl, oc⟩
        have HC19 : Hid (Rd encZ 3 y19 vc19 m) := oc.row.rd encZ_len
        have HW2 : Hid (Rd encI 1 y19 (.slice sw nw cw) pm.1) := HW1.out.keep oc.keep (Off.nil _)
        have K19 : Hid (Kst w gx cap v3 oz (.slice (some ⟨fz, 0, none⟩) 1 1) [(N : Int) - 1] m [(.slice sa na ca, pa.1), (.slice sb nb cb, pb.1), (.slice sc nc cc, pa.1), (.slice sd nd cd, sa_.1), (.slice se ne ce, sa_.1), (.slice sf nf cf, ra.1), (.slice sg ng cg, ra.1), (.slice sh nh ch, ga.1), (.slice si ni ci, ga.1), (.slice sj nj cj, pm.1), (.slice sr nr cr, rm.1)] y19) := K18.out.step oc.keep
        clear oc HW1 K18
        go_wp2_with fail
        refine (HRm.out.2 _ _ HC19.out K19.out.f (fun x hx => (K19.out.fo x hx).2)).mono ?_
        rintro e y20 hA
        obtain ⟨st, nt, ct, rfl, at_⟩ := hA.own
        have HW3 : Hid (Rd encI 1 y20 (.slice sw nw cw) pm.1) := HW2.out.keep at_.keep (Off.nil _)
        have HT0 : Hid (Rd encI 1 y20 (.slice st nt ct) rm.1) := at_.row.rd encI_len
        have K20 : Hid (Kst w gx cap v3 oz (.slice (some ⟨fz, 0, none⟩) 1 1) [(N : Int) - 1] m [(.slice sa na ca, pa.1), (.slice sb nb cb, pb.1), (.slice sc nc cc, pa.1), (.slice sd nd cd, sa_.1), (.slice se ne ce, sa_.1), (.slice sf nf cf, ra.1), (.slice sg ng cg, ra.1), (.slice sh nh ch, ga.1), (.slice si ni ci, ga.1), (.slice sj nj cj, pm.1), (.slice sr nr cr, rm.1)] y20) := K19.out.step at_.keep
        clear at_ hA HC19 HW2 K19
        go_wp2_with fail
        refine (same_yes _ _ pm.1 _ (K20.out.at _ _ (by simp)) (HW3.out)).mono ?_
        rintro e y21 ⟨rfl, kk⟩
        have HT1 : Hid (Rd encI 1 y21 (.slice st nt ct) rm.1) := HT0.out.keep kk (Off.nil _)
        have K21 : Hid (Kst w gx cap v3 oz (.slice (some ⟨fz, 0, none⟩) 1 1) [(N : Int) - 1] m [(.slice sa na ca, pa.1), (.slice sb nb cb, pb.1), (.slice sc nc cc, pa.1), (.slice sd nd cd, sa_.1), (.slice se ne ce, sa_.1), (.slice sf nf cf, ra.1), (.slice sg ng cg, ra.1), (.slice sh nh ch, ga.1), (.slice si ni ci, ga.1), (.slice sj nj cj, pm.1), (.slice sr nr cr, rm.1)] y21) := K20.out.step kk
        clear kk HW3 HT0 K20
        go_wp2_with fail
        refine (same_yes _ _ rm.1 _ (K21.out.at _ _ (by simp)) (HT1.out)).mono ?_
        rintro e y22 ⟨rfl, kk⟩
        have K22 : Hid (Kst w gx cap v3 oz (.slice (some ⟨fz, 0, none⟩) 1 1) [(N : Int) - 1] m [(.slice sa na ca, pa.1), (.slice sb nb cb, pb.1), (.slice sc nc cc, pa.1), (.slice sd nd cd, sa_.1), (.slice se ne ce, sa_.1), (.slice sf nf cf, ra.1), (.slice sg ng cg, ra.1), (.slice sh nh ch, ga.1), (.slice si ni ci, ga.1), (.slice sj nj cj, pm.1), (.slice sr nr cr, rm.1)] y22) := K21.out.step kk
        clear kk HT1 K21
        go_wp2_with fail
        refine (same_yes _ _ pa.1 _ (K22.out.at _ _ (by simp)) (K22.out.at _ _ (by simp))).mono ?_
        rintro e y23 ⟨rfl, kk⟩
        have K23 : Hid (Kst w gx cap v3 oz (.slice (some ⟨fz, 0, none⟩) 1 1) [(N : Int) - 1] m [(.slice sa na ca, pa.1), (.slice sb nb cb, pb.1), (.slice sc nc cc, pa.1), (.slice sd nd cd, sa_.1), (.slice se ne ce, sa_.1), (.slice sf nf cf, ra.1), (.slice sg ng cg, ra.1), (.slice sh nh ch, ga.1), (.slice si ni ci, ga.1), (.slice sj nj cj, pm.1), (.slice sr nr cr, rm.1)] y23) := K22.out.step kk
        clear kk K22
        go_wp2_with fail
        refine (K23.out.apart (by simp)).mono ?_
        rintro e yz ⟨rfl, kz⟩
        go_wp2
        go_ret
        exact ⟨rfl, kz⟩
  · have hq : ¬ (0 : Int) < (N : Int) := by omega
    have H5 : Hid (Kst w gx cap v3 oz (.slice none 0 0) [] lz [] w4) := ⟨H4.out.1, H4.out.2.1, H4.out.2.2.1, Rd.nil _ _ _, fun y hy => by simp [Value.ownBlock] at hy, ⟨by simp, by simp, List.Pairwise.nil, by simp⟩, H4.out.2.2.2.1, H4.out.2.2.2.2⟩
    clear H4
    obtain ⟨ra, HRa⟩ : ∃ ra : List Int × Int, Hid (ra.1.length ≤ 4096 ∧ ∀ w' v, Rd encZ 3 w' v lz → Rd encI 1 w' (.slice none 0 0) [] → (∀ x, (.slice none 0 0 : Value).ownBlock = some x → x < w'.heap.size) → Calls Try.prog 11 #[.int .i64 (N : Int), v, .slice none 0 0] w' fun e w9 => AnsR w' w9 e ra) := ⟨reachAns N lz [], reach_len _ _ _, fun w' v h1 h2 h3 => reach_ans N v _ lz [] w' h1 h2 h3⟩
    go_wp2_with fail
    refine (HPa.out.2 _ _ H5.out.rd).mono ?_
    rintro e y1 hA
    obtain ⟨sa, na, ca, rfl, hk, kk⟩ := H5.out.ans HPa.out.1 hA
    have K1 : Hid (Kst w gx cap v3 oz (.slice none 0 0) [] lz [(.slice sa na ca, pa.1)] y1) := hk
    clear hk hA kk H5
    go_wp2_with fail
    refine (copyA_any v3 oz _ (K1.out.o) (by omega)).mono ?_
    rintro e y2 ⟨vc2, rfl, oc⟩
    have HC2 : Hid (Rd encZ 3 y2 vc2 oz) := oc.row.rd encZ_len
    have K2 : Hid (Kst w gx cap v3 oz (.slice none 0 0) [] lz [(.slice sa na ca, pa.1)] y2) := K1.out.step oc.keep
    clear oc K1
    go_wp2_with fail
    refine (HPb.out.2 _ _ HC2.out).mono ?_
    rintro e y3 hA
    obtain ⟨sb, nb, cb, rfl, hk, kk⟩ := K2.out.ans HPb.out.1 hA
    have K3 : Hid (Kst w gx cap v3 oz (.slice none 0 0) [] lz [(.slice sa na ca, pa.1), (.slice sb nb cb, pb.1)] y3) := hk
    clear hk hA kk K2
    clear HC2
    go_wp2_with fail
    refine (HPa.out.2 _ _ K3.out.rd).mono ?_
    rintro e y4 hA
    obtain ⟨sc, nc, cc, rfl, hk, kk⟩ := K3.out.ans HPa.out.1 hA
    have K4 : Hid (Kst w gx cap v3 oz (.slice none 0 0) [] lz [(.slice sa na ca, pa.1), (.slice sb nb cb, pb.1), (.slice sc nc cc, pa.1)] y4) := hk
    clear hk hA kk K3
    go_wp2_with fail
    refine (HSa.out.2 _ _ K4.out.rd).mono ?_
    rintro e y5 hA
    obtain ⟨sd, nd, cd, rfl, hk, kk⟩ := K4.out.ans HSa.out.1 hA
    have K5 : Hid (Kst w gx cap v3 oz (.slice none 0 0) [] lz [(.slice sa na ca, pa.1), (.slice sb nb cb, pb.1), (.slice sc nc cc, pa.1), (.slice sd nd cd, sa_.1)] y5) := hk
    clear hk hA kk K4
    go_wp2_with fail
    refine (HSa.out.2 _ _ K5.out.rd).mono ?_
    rintro e y6 hA
    obtain ⟨se, ne, ce, rfl, hk, kk⟩ := K5.out.ans HSa.out.1 hA
    have K6 : Hid (Kst w gx cap v3 oz (.slice none 0 0) [] lz [(.slice sa na ca, pa.1), (.slice sb nb cb, pb.1), (.slice sc nc cc, pa.1), (.slice sd nd cd, sa_.1), (.slice se ne ce, sa_.1)] y6) := hk
    clear hk hA kk K5
    go_wp2_with fail
    refine (HRa.out.2 _ _ K6.out.rd K6.out.f (fun x hx => (K6.out.fo x hx).2)).mono ?_
    rintro e y7 hA
    obtain ⟨sf, nf, cf, rfl, hk, kk⟩ := K6.out.ans HRa.out.1 hA
    have K7 : Hid (Kst w gx cap v3 oz (.slice none 0 0) [] lz [(.slice sa na ca, pa.1), (.slice sb nb cb, pb.1), (.slice sc nc cc, pa.1), (.slice sd nd cd, sa_.1), (.slice se ne ce, sa_.1), (.slice sf nf cf, ra.1)] y7) := hk
    clear hk hA kk K6
    go_wp2_with fail
    refine (HRa.out.2 _ _ K7.out.rd K7.out.f (fun x hx => (K7.out.fo x hx).2)).mono ?_
    rintro e y8 hA
    obtain ⟨sg, ng, cg, rfl, hk, kk⟩ := K7.out.ans HRa.out.1 hA
    have K8 : Hid (Kst w gx cap v3 oz (.slice none 0 0) [] lz [(.slice sa na ca, pa.1), (.slice sb nb cb, pb.1), (.slice sc nc cc, pa.1), (.slice sd nd cd, sa_.1), (.slice se ne ce, sa_.1), (.slice sf nf cf, ra.1), (.slice sg ng cg, ra.1)] y8) := hk
    clear hk hA kk K7
    go_wp2_with fail
    refine (HGa.out.2 _ _ K8.out.rd).mono ?_
    rintro e y9 hA
    obtain ⟨sh, nh, ch, rfl, hk, kk⟩ := K8.out.ans HGa.out.1 hA
    have K9 : Hid (Kst w gx cap v3 oz (.slice none 0 0) [] lz [(.slice sa na ca, pa.1), (.slice sb nb cb, pb.1), (.slice sc nc cc, pa.1), (.slice sd nd cd, sa_.1), (.slice se ne ce, sa_.1), (.slice sf nf cf, ra.1), (.slice sg ng cg, ra.1), (.slice sh nh ch, ga.1)] y9) := hk
    clear hk hA kk K8
    go_wp2_with fail
    refine (HGa.out.2 _ _ K9.out.rd).mono ?_
    rintro e y10 hA
    obtain ⟨si, ni, ci, rfl, hk, kk⟩ := K9.out.ans HGa.out.1 hA
    have K10 : Hid (Kst w gx cap v3 oz (.slice none 0 0) [] lz [(.slice sa na ca, pa.1), (.slice sb nb cb, pb.1), (.slice sc nc cc, pa.1), (.slice sd nd cd, sa_.1), (.slice se ne ce, sa_.1), (.slice sf nf cf, ra.1), (.slice sg ng cg, ra.1), (.slice sh nh ch, ga.1), (.slice si ni ci, ga.1)] y10) := hk
    clear hk hA kk K9
    go_wp2_with fail
    refine (same_yes _ _ pa.1 _ (K10.out.at _ _ (by simp)) (K10.out.at _ _ (by simp))).mono ?_
    rintro e y11 ⟨rfl, kk⟩
    have K11 : Hid (Kst w gx cap v3 oz (.slice none 0 0) [] lz [(.slice sa na ca, pa.1), (.slice sb nb cb, pb.1), (.slice sc nc cc, pa.1), (.slice sd nd cd, sa_.1), (.slice se ne ce, sa_.1), (.slice sf nf cf, ra.1), (.slice sg ng cg, ra.1), (.slice sh nh ch, ga.1), (.slice si ni ci, ga.1)] y11) := K10.out.step kk
    clear kk K10
    go_wp2_with fail
    refine (same_yes _ _ sa_.1 _ (K11.out.at _ _ (by simp)) (K11.out.at _ _ (by simp))).mono ?_
    rintro e y12 ⟨rfl, kk⟩
    have K12 : Hid (Kst w gx cap v3 oz (.slice none 0 0) [] lz [(.slice sa na ca, pa.1), (.slice sb nb cb, pb.1), (.slice sc nc cc, pa.1), (.slice sd nd cd, sa_.1), (.slice se ne ce, sa_.1), (.slice sf nf cf, ra.1), (.slice sg ng cg, ra.1), (.slice sh nh ch, ga.1), (.slice si ni ci, ga.1)] y12) := K11.out.step kk
    clear kk K11
    go_wp2_with fail
    refine (same_yes _ _ ra.1 _ (K12.out.at _ _ (by simp)) (K12.out.at _ _ (by simp))).mono ?_
    rintro e y13 ⟨rfl, kk⟩
    have K13 : Hid (Kst w gx cap v3 oz (.slice none 0 0) [] lz [(.slice sa na ca, pa.1), (.slice sb nb cb, pb.1), (.slice sc nc cc, pa.1), (.slice sd nd cd, sa_.1), (.slice se ne ce, sa_.1), (.slice sf nf cf, ra.1), (.slice sg ng cg, ra.1), (.slice sh nh ch, ga.1), (.slice si ni ci, ga.1)] y13) := K12.out.step kk
    clear kk K12
    go_wp2_with fail
    refine (same_yes _ _ ga.1 _ (K13.out.at _ _ (by simp)) (K13.out.at _ _ (by simp))).mono ?_
    rintro e y14 ⟨rfl, kk⟩
    have K14 : Hid (Kst w gx cap v3 oz (.slice none 0 0) [] lz [(.slice sa na ca, pa.1), (.slice sb nb cb, pb.1), (.slice sc nc cc, pa.1), (.slice sd nd cd, sa_.1), (.slice se ne ce, sa_.1), (.slice sf nf cf, ra.1), (.slice sg ng cg, ra.1), (.slice sh nh ch, ga.1), (.slice si ni ci, ga.1)] y14) := K13.out.step kk
    clear kk K13
    go_wp2
    go_loopw [30] (fun iv wr => ∃ (k : Nat) (m : List Az), iv = .int .i64 (k : Int) ∧ k ≤ lz.length ∧ m.length = lz.length ∧ Hid (Kst w gx cap v3 oz (.slice none 0 0) [] m [(.slice sa na ca, pa.1), (.slice sb nb cb, pb.1), (.slice sc nc cc, pa.1), (.slice sd nd cd, sa_.1), (.slice se ne ce, sa_.1), (.slice sf nf cf, ra.1), (.slice sg ng cg, ra.1), (.slice sh nh ch, ga.1), (.slice si ni ci, ga.1)] wr)) (fun iv _ => lz.length - (intOf iv).toNat)
    case atStart => exact ⟨0, lz, rfl, Nat.zero_le _, rfl, K14⟩
    case round =>
      clear K14
      obtain ⟨k, m, rfl, hk, hm, HI⟩ := hrel
      by_cases hlt : k < lz.length
      · skip
        have hlti : (k : Int) < (lz.length : Int) := by omega
        have hkm : k < m.length := by omega
        obtain ⟨⟨c0, c1, c2⟩, frz⟩ := HI.out.cells k hkm
        have HJ : Hid (∀ b : Bool, Kst w gx cap v3 oz (.slice none 0 0) [] (m.set k ⟨m[k].t, m[k].f, b⟩) [(.slice sa na ca, pa.1), (.slice sb nb cb, pb.1), (.slice sc nc cc, pa.1), (.slice sd nd cd, sa_.1), (.slice se ne ce, sa_.1), (.slice sf nf cf, ra.1), (.slice sg ng cg, ra.1), (.slice sh nh ch, ga.1), (.slice si ni ci, ga.1)] (((wr.drew.setCell ⟨gx, k * 3, none⟩ (.int .i64 m[k].t)).setCell ⟨gx, k * 3 + 1, none⟩ (.int .i64 m[k].f)).setCell ⟨gx, k * 3 + 2, none⟩ (.bool b))) := fun b => (HI.out.step ((Keep.refl [] wr).drew)).put k hkm ⟨m[k].t, m[k].f, b⟩
        have f0 := frz (k * 3)
        have f1 := frz (k * 3 + 1)
        have f2 := frz (k * 3 + 2)
        generalize m[k].f = xf at c0 HJ
        generalize m[k].t = xt at c1 HJ
        generalize m[k].g = xg at c2
        clear frz HI
        go_wp2
        refine wp_region_tail 17 (S := fun w' : World => w'.cell? ⟨gx, k * 3, none⟩ = some (.int .i64 xf) ∧ w'.cell? ⟨gx, k * 3 + 1, none⟩ = some (.int .i64 xt) ∧ w'.cell? ⟨gx, k * 3 + 2, none⟩ = some (.bool xg) ∧ w'.frozen? ⟨gx, k * 3, none⟩ = false ∧ w'.frozen? ⟨gx, k * 3 + 1, none⟩ = false ∧ w'.frozen? ⟨gx, k * 3 + 2, none⟩ = false) (by kernel_rfl) (⟨c0, c1, c2, f0, f1, f2⟩) (fun hHeld => ?_)
        try dsimp only at hHeld
        refine AnyT.take (i := 0) (oi := { dst := some 145, op := Go.Op.move (Go.Operand.tmp 10), type := 22, pos := "outright.go:237", after := #[], guard := none }) (v := ?_) rfl (by kernel_rfl) (by kernel_rfl) (by kernel_rfl) (by kernel_rfl) (fun _ _ _ h => h) (Or.inl ⟨by rfl, ?_⟩) (by assumption) ?_
        rotate_left
        · intro w7 hSw
          try dsimp only at hSw
          first | (go_simp; done) | (go_simp; with_reducible rfl)
        try simp only [Act.put, List.setIfInBounds_toArray, List.set_cons_zero, List.set_cons_succ]
        refine AnyT.take (i := 1) (oi := { dst := some 146, op := Go.Op.move (Go.Operand.tmp 30), type := 3, pos := "outright.go:237", after := #[], guard := none }) (v := ?_) rfl (by kernel_rfl) (by kernel_rfl) (by kernel_rfl) (by kernel_rfl) (fun _ _ _ h => h) (Or.inl ⟨by rfl, ?_⟩) (by assumption) ?_
        rotate_left
        · intro w7 hSw
          try dsimp only at hSw
          first | (go_simp; done) | (go_simp; with_reducible rfl)
        try simp only [Act.put, List.setIfInBounds_toArray, List.set_cons_zero, List.set_cons_succ]
        refine AnyT.take (i := 2) (oi := { dst := some 147, op := Go.Op.move (Go.Operand.tmp 10), type := 22, pos := "outright.go:237", after := #[], guard := none }) (v := ?_) rfl (by kernel_rfl) (by kernel_rfl) (by kernel_rfl) (by kernel_rfl) (fun _ _ _ h => h) (Or.inl ⟨by rfl, ?_⟩) (by assumption) ?_
        rotate_left
        · intro w7 hSw
          try dsimp only at hSw
          first | (go_simp; done) | (go_simp; with_reducible rfl)
        try simp only [Act.put, List.setIfInBounds_toArray, List.set_cons_zero, List.set_cons_succ]
        refine AnyT.take (i := 3) (oi := { dst := some 148, op := Go.Op.move (Go.Operand.tmp 30), type := 3, pos := "outright.go:237", after := #[], guard := none }) (v := ?_) rfl (by kernel_rfl) (by kernel_rfl) (by kernel_rfl) (by kernel_rfl) (fun _ _ _ h => h) (Or.inl ⟨by rfl, ?_⟩) (by assumption) ?_
        rotate_left
        · intro w7 hSw
          try dsimp only at hSw
          first | (go_simp; done) | (go_simp; with_reducible rfl)
        try simp only [Act.put, List.setIfInBounds_toArray, List.set_cons_zero, List.set_cons_succ]
        refine AnyT.take (i := 4) (oi := { dst := some 149, op := Go.Op.indexAddr 22 (Go.Operand.tmp 147) (Go.Operand.tmp 148), type := 0, pos := "outright.go:237", after := #[{ on := 2, ground := Go.Ground.data }, { on := 3, ground := Go.Ground.data }], guard := none }) (v := ?_) rfl (by kernel_rfl) (by kernel_rfl) (by kernel_rfl) (by kernel_rfl) (fun _ _ _ h => h) (Or.inl ⟨by rfl, ?_⟩) (by assumption) ?_
        rotate_left
        · intro w7 hSw
          try dsimp only at hSw
          first | (go_simp; done) | (go_simp; with_reducible rfl)
        try simp only [Act.put, List.setIfInBounds_toArray, List.set_cons_zero, List.set_cons_succ]
        refine AnyT.take (i := 5) (oi := { dst := some 150, op := Go.Op.fieldAddr 31 (Go.Operand.tmp 149) 1, type := 0, pos := "outright.go:237", after := #[{ on := 4, ground := Go.Ground.data }], guard := none }) (v := ?_) rfl (by kernel_rfl) (by kernel_rfl) (by kernel_rfl) (by kernel_rfl) (fun _ _ _ h => h) (Or.inl ⟨by rfl, ?_⟩) (by assumption) ?_
        rotate_left
        · intro w7 hSw
          try dsimp only at hSw
          first | (go_simp; done) | (go_simp; with_reducible rfl)
        try simp only [Act.put, List.setIfInBounds_toArray, List.set_cons_zero, List.set_cons_succ]
        refine AnyT.take (i := 6) (oi := { dst := some 151, op := Go.Op.load 3 (Go.Operand.tmp 150), type := 3, pos := "outright.go:237", after := #[{ on := 5, ground := Go.Ground.data }], guard := none }) (v := ?_) rfl (by kernel_rfl) (by kernel_rfl) (by kernel_rfl) (by kernel_rfl) (fun _ _ _ h => h) (Or.inl ⟨by rfl, ?_⟩) (by assumption) ?_
        rotate_left
        · intro w7 hSw
          try dsimp only at hSw
          first | (go_simp; done) | (go_simp; with_reducible rfl)
        try simp only [Act.put, List.setIfInBounds_toArray, List.set_cons_zero, List.set_cons_succ]
        refine AnyT.take (i := 7) (oi := { dst := some 152, op := Go.Op.move (Go.Operand.tmp 10), type := 22, pos := "outright.go:237", after := #[], guard := none }) (v := ?_) rfl (by kernel_rfl) (by kernel_rfl) (by kernel_rfl) (by kernel_rfl) (fun _ _ _ h => h) (Or.inl ⟨by rfl, ?_⟩) (by assumption) ?_
        rotate_left
        · intro w7 hSw
          try dsimp only at hSw
          first | (go_simp; done) | (go_simp; with_reducible rfl)
        try simp only [Act.put, List.setIfInBounds_toArray, List.set_cons_zero, List.set_cons_succ]
        refine AnyT.take (i := 8) (oi := { dst := some 153, op := Go.Op.move (Go.Operand.tmp 30), type := 3, pos := "outright.go:237", after := #[], guard := none }) (v := ?_) rfl (by kernel_rfl) (by kernel_rfl) (by kernel_rfl) (by kernel_rfl) (fun _ _ _ h => h) (Or.inl ⟨by rfl, ?_⟩) (by assumption) ?_
        rotate_left
        · intro w7 hSw
          try dsimp only at hSw
          first | (go_simp; done) | (go_simp; with_reducible rfl)
        try simp only [Act.put, List.setIfInBounds_toArray, List.set_cons_zero, List.set_cons_succ]
        refine AnyT.take (i := 9) (oi := { dst := some 154, op := Go.Op.indexAddr 22 (Go.Operand.tmp 152) (Go.Operand.tmp 153), type := 0, pos := "outright.go:237", after := #[{ on := 7, ground := Go.Ground.data }, { on := 8, ground := Go.Ground.data }], guard := none }) (v := ?_) rfl (by kernel_rfl) (by kernel_rfl) (by kernel_rfl) (by kernel_rfl) (fun _ _ _ h => h) (Or.inl ⟨by rfl, ?_⟩) (by assumption) ?_
        rotate_left
        · intro w7 hSw
          try dsimp only at hSw
          first | (go_simp; done) | (go_simp; with_reducible rfl)
        try simp only [Act.put, List.setIfInBounds_toArray, List.set_cons_zero, List.set_cons_succ]
        refine AnyT.take (i := 10) (oi := { dst := some 155, op := Go.Op.fieldAddr 31 (Go.Operand.tmp 154) 0, type := 0, pos := "outright.go:237", after := #[{ on := 9, ground := Go.Ground.data }], guard := none }) (v := ?_) rfl (by kernel_rfl) (by kernel_rfl) (by kernel_rfl) (by kernel_rfl) (fun _ _ _ h => h) (Or.inl ⟨by rfl, ?_⟩) (by assumption) ?_
        rotate_left
        · intro w7 hSw
          try dsimp only at hSw
          first | (go_simp; done) | (go_simp; with_reducible rfl)
        try simp only [Act.put, List.setIfInBounds_toArray, List.set_cons_zero, List.set_cons_succ]
        refine AnyT.take (i := 11) (oi := { dst := some 156, op := Go.Op.load 3 (Go.Operand.tmp 155), type := 3, pos := "outright.go:237", after := #[{ on := 10, ground := Go.Ground.data }], guard := none }) (v := ?_) rfl (by kernel_rfl) (by kernel_rfl) (by kernel_rfl) (by kernel_rfl) (fun _ _ _ h => h) (Or.inl ⟨by rfl, ?_⟩) (by assumption) ?_
        rotate_left
        · intro w7 hSw
          try dsimp only at hSw
          first | (go_simp; done) | (go_simp; with_reducible rfl)
        try simp only [Act.put, List.setIfInBounds_toArray, List.set_cons_zero, List.set_cons_succ]
        refine AnyT.take (i := 12) (oi := { dst := some 157, op := Go.Op.move (Go.Operand.tmp 30), type := 3, pos := "outright.go:237", after := #[], guard := none }) (v := ?_) rfl (by kernel_rfl) (by kernel_rfl) (by kernel_rfl) (by kernel_rfl) (fun _ _ _ h => h) (Or.inl ⟨by rfl, ?_⟩) (by assumption) ?_
        rotate_left
        · intro w7 hSw
          try dsimp only at hSw
          first | (go_simp; done) | (go_simp; with_reducible rfl)
        try simp only [Act.put, List.setIfInBounds_toArray, List.set_cons_zero, List.set_cons_succ]
        refine AnyT.take (i := 13) (oi := { dst := some 158, op := Go.Op.binOp Go.BinOp.rem 3 (Go.Operand.tmp 157) (Go.Operand.const (Go.Value.int Go.IntKind.i64 5)) 3, type := 3, pos := "outright.go:237", after := #[{ on := 12, ground := Go.Ground.data }], guard := none }) (v := ?_) rfl (by kernel_rfl) (by kernel_rfl) (by kernel_rfl) (by kernel_rfl) (fun _ _ _ h => h) (Or.inl ⟨by rfl, ?_⟩) (by assumption) ?_
        rotate_left
        · intro w7 hSw
          try dsimp only at hSw
          first | (go_simp; done) | (go_simp; with_reducible rfl)
        try simp only [Act.put, List.setIfInBounds_toArray, List.set_cons_zero, List.set_cons_succ]
        refine AnyT.take (i := 14) (oi := { dst := some 159, op := Go.Op.binOp Go.BinOp.eql 3 (Go.Operand.tmp 158) (Go.Operand.const (Go.Value.int Go.IntKind.i64 0)) 3, type := 4, pos := "outright.go:237", after := #[{ on := 13, ground := Go.Ground.data }], guard := none }) (v := ?_) rfl (by kernel_rfl) (by kernel_rfl) (by kernel_rfl) (by kernel_rfl) (fun _ _ _ h => h) (Or.inl ⟨by rfl, ?_⟩) (by assumption) ?_
        rotate_left
        · intro w7 hSw
          try dsimp only at hSw
          first | (go_simp; done) | (go_simp; with_reducible rfl)
        try simp only [Act.put, List.setIfInBounds_toArray, List.set_cons_zero, List.set_cons_succ]
        refine AnyT.take (i := 15) (oi := { dst := some 160, op := Go.Op.build 31 #[(0, Go.Operand.tmp 151), (1, Go.Operand.tmp 156), (2, Go.Operand.tmp 159)], type := 31, pos := "outright.go:237", after := #[{ on := 6, ground := Go.Ground.data }, { on := 11, ground := Go.Ground.data }, { on := 14, ground := Go.Ground.data }], guard := none }) (v := ?_) rfl (by kernel_rfl) (by kernel_rfl) (by kernel_rfl) (by kernel_rfl) (fun _ _ _ h => h) (Or.inl ⟨by rfl, ?_⟩) (by assumption) ?_
        rotate_left
        · intro w7 hSw
          try dsimp only at hSw
          first | (go_simp; done) | (go_simp; with_reducible rfl)
        try simp only [Act.put, List.setIfInBounds_toArray, List.set_cons_zero, List.set_cons_succ]
        refine AnyT.take (i := 16) (oi := { dst := some 161, op := Go.Op.indexAddr 22 (Go.Operand.tmp 145) (Go.Operand.tmp 146), type := 0, pos := "outright.go:237", after := #[{ on := 0, ground := Go.Ground.data }, { on := 1, ground := Go.Ground.data }, { on := 0, ground := Go.Ground.phase }, { on := 1, ground := Go.Ground.phase }, { on := 2, ground := Go.Ground.phase }, { on := 3, ground := Go.Ground.phase }, { on := 4, ground := Go.Ground.phase }, { on := 5, ground := Go.Ground.phase }, { on := 6, ground := Go.Ground.phase }, { on := 7, ground := Go.Ground.phase }, { on := 8, ground := Go.Ground.phase }, { on := 9, ground := Go.Ground.phase }, { on := 10, ground := Go.Ground.phase }, { on := 11, ground := Go.Ground.phase }, { on := 12, ground := Go.Ground.phase }, { on := 13, ground := Go.Ground.phase }, { on := 14, ground := Go.Ground.phase }, { on := 15, ground := Go.Ground.phase }], guard := none }) (v := ?_) rfl (by kernel_rfl) (by kernel_rfl) (by kernel_rfl) (by kernel_rfl) (fun _ _ _ h => h) (Or.inl ⟨by rfl, ?_⟩) (by assumption) ?_
        rotate_left
        · intro w7 hSw
          try dsimp only at hSw
          first | (go_simp; done) | (go_simp; with_reducible rfl)
        try simp only [Act.put, List.setIfInBounds_toArray, List.set_cons_zero, List.set_cons_succ]
        refine AnyT.one (i := 17) (o := { dst := none, op := Go.Op.store 31 (Go.Operand.tmp 161) (Go.Operand.tmp 160), type := 0, pos := "outright.go:237", after := #[{ on := 16, ground := Go.Ground.data }, { on := 15, ground := Go.Ground.data }, { on := 0, ground := Go.Ground.phase }, { on := 1, ground := Go.Ground.phase }, { on := 2, ground := Go.Ground.phase }, { on := 3, ground := Go.Ground.phase }, { on := 4, ground := Go.Ground.phase }, { on := 5, ground := Go.Ground.phase }, { on := 6, ground := Go.Ground.phase }, { on := 7, ground := Go.Ground.phase }, { on := 8, ground := Go.Ground.phase }, { on := 9, ground := Go.Ground.phase }, { on := 10, ground := Go.Ground.phase }, { on := 11, ground := Go.Ground.phase }, { on := 12, ground := Go.Ground.phase }, { on := 13, ground := Go.Ground.phase }, { on := 14, ground := Go.Ground.phase }, { on := 15, ground := Go.Ground.phase }], guard := none }) (by kernel_rfl) rfl (fun K hK => ?_)
        go_simp
        refine hK.out _ _ (fun h => absurd rfl h) (fun _ => ?_)
        clear hK hHeld
        try simp only [Act.put, List.setIfInBounds_toArray, List.set_cons_zero, List.set_cons_succ]
        refine AnyT.done (by kernel_rfl) ?_ _
        go_wp2
        go_roundw
        case rel => exact ⟨k + 1, m.set k ⟨xt, xf, _⟩, by go_num, by omega, (List.length_set).trans hm, HJ.out _⟩
        case measure => simp [intOf]; omega
      · skip
        have hlti : ¬ (k : Int) < (lz.length : Int) := by omega
        clear HPa HPb HSa HRa HGa hlt hk
        obtain ⟨pm, HPm⟩ : ∃ pm : List Int × Int, Hid (pm.1.length ≤ 4096 ∧ ∀ w' v, Rd encZ 3 w' v m → Calls Try.prog 8 #[.int .i64 (N : Int), v] w' fun e w9 => AnsR w' w9 e pm) := ⟨partsAns N m, parts_len _ _, fun w' v h => parts_ans N v m w' h⟩
        obtain ⟨rm, HRm⟩ : ∃ rm : List Int × Int, Hid (rm.1.length ≤ 4096 ∧ ∀ w' v, Rd encZ 3 w' v m → Rd encI 1 w' (.slice none 0 0) [] → (∀ x, (.slice none 0 0 : Value).ownBlock = some x → x < w'.heap.size) → Calls Try.prog 11 #[.int .i64 (N : Int), v, .slice none 0 0] w' fun e w9 => AnsR w' w9 e rm) := ⟨reachAns N m [], reach_len _ _ _, fun w' v h1 h2 h3 => reach_ans N v _ m [] w' h1 h2 h3⟩
        go_wp2_with fail
        refine (HPm.out.2 _ _ (HI.out.rd' hm)).mono ?_
        rintro e y15 hA
        obtain ⟨sj, nj, cj, rfl, hk, kk⟩ := HI.out.ans HPm.out.1 hA
        have K15 : Hid (Kst w gx cap v3 oz (.slice none 0 0) [] m [(.slice sa na ca, pa.1), (.slice sb nb cb, pb.1), (.slice sc nc cc, pa.1), (.slice sd nd cd, sa_.1), (.slice se ne ce, sa_.1), (.slice sf nf cf, ra.1), (.slice sg ng cg, ra.1), (.slice sh nh ch, ga.1), (.slice si ni ci, ga.1), (.slice sj nj cj, pm.1)] y15) := hk
        clear hk hA kk HI
        go_wp2_with fail
        refine (copyA_any _ m _ (K15.out.rd' hm) (by omega)).mono ?_
        rintro e y16 ⟨vc16, rfl, oc⟩
        have HC16 : Hid (Rd encZ 3 y16 vc16 m) := oc.row.rd encZ_len
        have K16 : Hid (Kst w gx cap v3 oz (.slice none 0 0) [] m [(.slice sa na ca, pa.1), (.slice sb nb cb, pb.1), (.slice sc nc cc, pa.1), (.slice sd nd cd, sa_.1), (.slice se ne ce, sa_.1), (.slice sf nf cf, ra.1), (.slice sg ng cg, ra.1), (.slice sh nh ch, ga.1), (.slice si ni ci, ga.1), (.slice sj nj cj, pm.1)] y16) := K15.out.step oc.keep
        clear oc K15
        go_wp2_with fail
        refine (HPm.out.2 _ _ HC16.out).mono ?_
        rintro e y17 hA
        obtain ⟨sw, nw, cw, rfl, hk, hw⟩ := K16.out.ans2 hA
        have HW0 : Hid (Rd encI 1 y17 (.slice sw nw cw) pm.1) := hw
        have K17 : Hid (Kst w gx cap v3 oz (.slice none 0 0) [] m [(.slice sa na ca, pa.1), (.slice sb nb cb, pb.1), (.slice sc nc cc, pa.1), (.slice sd nd cd, sa_.1), (.slice se ne ce, sa_.1), (.slice sf nf cf, ra.1), (.slice sg ng cg, ra.1), (.slice sh nh ch, ga.1), (.slice si ni ci, ga.1), (.slice sj nj cj, pm.1)] y17) := hk
        clear hk hA hw HC16 K16
        go_wp2_with fail
        refine (HRm.out.2 _ _ (K17.out.rd' hm) K17.out.f (fun x hx => (K17.out.fo x hx).2)).mono ?_
        rintro e y18 hA
        obtain ⟨sr, nr, cr, rfl, hk, kk⟩ := K17.out.ans HRm.out.1 hA
        have HW1 : Hid (Rd encI 1 y18 (.slice sw nw cw) pm.1) := HW0.out.keep kk (Off.nil _)
        have K18 : Hid (Kst w gx cap v3 oz (.slice none 0 0) [] m [(.slice sa na ca, pa.1), (.slice sb nb cb, pb.1), (.slice sc nc cc, pa.1), (.slice sd nd cd, sa_.1), (.slice se ne ce, sa_.1), (.slice sf nf cf, ra.1), (.slice sg ng cg, ra.1), (.slice sh nh ch, ga.1), (.slice si ni ci, ga.1), (.slice sj nj cj, pm.1), (.slice sr nr cr, rm.1)] y18) := hk
        clear hk hA kk HW0 K17
        go_wp2_with fail
        refine (copyA_any _ m _ (K18.out.rd' hm) (by omega)).mono ?_
        rintro e y19 ⟨vc19, rfl, oc⟩
        have HC19 : Hid (Rd encZ 3 y19 vc19 m) := oc.row.rd encZ_len
        have HW2 : Hid (Rd encI 1 y19 (.slice sw nw cw) pm.1) := HW1.out.keep oc.keep (Off.nil _)
        have K19 : Hid (Kst w gx cap v3 oz (.slice none 0 0) [] m [(.slice sa na ca, pa.1), (.slice sb nb cb, pb.1), (.slice sc nc cc, pa.1), (.slice sd nd cd, sa_.1), (.slice se ne ce, sa_.1), (.slice sf nf cf, ra.1), (.slice sg ng cg, ra.1), (.slice sh nh ch, ga.1), (.slice si ni ci, ga.1), (.slice sj nj cj, pm.1), (.slice sr nr cr, rm.1)] y19) := K18.out.step oc.keep
        clear oc HW1 K18
        go_wp2_with fail
        refine (HRm.out.2 _ _ HC19.out K19.out.f (fun x hx => (K19.out.fo x hx).2)).mono ?_
        rintro e y20 hA
        obtain ⟨st, nt, ct, rfl, at_⟩ := hA.own
        have HW3 : Hid (Rd encI 1 y20 (.slice sw nw cw) pm.1) := HW2.out.keep at_.keep (Off.nil _)
        have HT0 : Hid (Rd encI 1 y20 (.slice st nt ct) rm.1) := at_.row.rd encI_len
        have K20 : Hid (Kst w gx cap v3 oz (.slice none 0 0) [] m [(.slice sa na ca, pa.1), (.slice sb nb cb, pb.1), (.slice sc nc cc, pa.1), (.slice sd nd cd, sa_.1), (.slice se ne ce, sa_.1), (.slice sf nf cf, ra.1), (.slice sg ng cg, ra.1), (.slice sh nh ch, ga.1), (.slice si ni ci, ga.1), (.slice sj nj cj, pm.1), (.slice sr nr cr, rm.1)] y20) := K19.out.step at_.keep
        clear at_ hA HC19 HW2 K19
        go_wp2_with fail
        refine (same_yes _ _ pm.1 _ (K20.out.at _ _ (by simp)) (HW3.out)).mono ?_
        rintro e y21 ⟨rfl, kk⟩
        have HT1 : Hid (Rd encI 1 y21 (.slice st nt ct) rm.1) := HT0.out.keep kk (Off.nil _)
        have K21 : Hid (Kst w gx cap v3 oz (.slice none 0 0) [] m [(.slice sa na ca, pa.1), (.slice sb nb cb, pb.1), (.slice sc nc cc, pa.1), (.slice sd nd cd, sa_.1), (.slice se ne ce, sa_.1), (.slice sf nf cf, ra.1), (.slice sg ng cg, ra.1), (.slice sh nh ch, ga.1), (.slice si ni ci, ga.1), (.slice sj nj cj, pm.1), (.slice sr nr cr, rm.1)] y21) := K20.out.step kk
        clear kk HW3 HT0 K20
        go_wp2_with fail
        refine (same_yes _ _ rm.1 _ (K21.out.at _ _ (by simp)) (HT1.out)).mono ?_
        rintro e y22 ⟨rfl, kk⟩
        have K22 : Hid (Kst w gx cap v3 oz (.slice none 0 0) [] m [(.slice sa na ca, pa.1), (.slice sb nb cb, pb.1), (.slice sc nc cc, pa.1), (.slice sd nd cd, sa_.1), (.slice se ne ce, sa_.1), (.slice sf nf cf, ra.1), (.slice sg ng cg, ra.1), (.slice sh nh ch, ga.1), (.slice si ni ci, ga.1), (.slice sj nj cj, pm.1), (.slice sr nr cr, rm.1)] y22) := K21.out.step kk
        clear kk HT1 K21
        go_wp2_with fail
        refine (same_yes _ _ pa.1 _ (K22.out.at _ _ (by simp)) (K22.out.at _ _ (by simp))).mono ?_
        rintro e y23 ⟨rfl, kk⟩
        have K23 : Hid (Kst w gx cap v3 oz (.slice none 0 0) [] m [(.slice sa na ca, pa.1), (.slice sb nb cb, pb.1), (.slice sc nc cc, pa.1), (.slice sd nd cd, sa_.1), (.slice se ne ce, sa_.1), (.slice sf nf cf, ra.1), (.slice sg ng cg, ra.1), (.slice sh nh ch, ga.1), (.slice si ni ci, ga.1), (.slice sj nj cj, pm.1), (.slice sr nr cr, rm.1)] y23) := K22.out.step kk
        clear kk K22
        go_wp2_with fail
        refine (K23.out.apart (by simp)).mono ?_
        rintro e yz ⟨rfl, kz⟩
        go_wp2
        go_ret
        exact ⟨rfl, kz⟩
end Go.Proofs.Ytmlpkjeaieljfab
