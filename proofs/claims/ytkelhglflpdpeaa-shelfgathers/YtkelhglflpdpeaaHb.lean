/- apart: the walk. -/
import Derived.Test.YtkelhglflpdpeaaHa

namespace Go.Proofs.Ytkelhglflpdpeaa
open Go.RowKit Go.PlainAid

open Go.Shelf
attribute [local go_sem] Oper.semAt_some
set_option maxRecDepth 100000 in
set_option maxHeartbeats 8000000 in
theorem apart_any (u1 u2 vw : Value) (M0 L : List Pr) (w : World) (h1 : Rw 29 encP 2 w u1 M0) (h2 : Rw 29 encP 2 w u2 L) (hv : Rd encP 2 w vw L) (h12 : Off u1 u2.ownBlock.toList) (hv1 : L ≠ [] → Off vw u1.ownBlock.toList) (hv2 : L ≠ [] → Off vw u2.ownBlock.toList) (hm : M0.length = L.length) (hl : L.length ≤ 8796093021952) :
    Calls Try.prog 31 #[u1, u2, vw] w fun e w' => e = .returned (.bool true) ∧ Keep (u1.ownBlock.toList ++ u2.ownBlock.toList) w w' := by
  obtain ⟨n, HN⟩ : ∃ n : Nat, Hid (L.length = n) := ⟨_, show _ = _ from rfl⟩
  obtain ⟨ao1, cap1, e1, p1, p2⟩ := (h1.rd encP_len).form
  obtain ⟨ao2, cap2, e2, p3, p4⟩ := (h2.rd encP_len).form
  obtain ⟨ao3, cap3, e3, p5, p6⟩ := hv.form
  subst e1 e2 e3
  rw [hm] at h1 h12 hv1 p1 ⊢
  rw [HN.out] at h1 h2 hv h12 hv1 hv2 p1 p3 p5 hl hm ⊢
  have H1 : Hid (type_of% h1) := h1
  have H2 : Hid (type_of% h2) := h2
  have HV : Hid (type_of% hv) := hv
  have HO : Hid (Off (.slice ao1 n cap1) (Value.slice ao2 n cap2).ownBlock.toList ∧ (L ≠ [] → Off (.slice ao3 n cap3) (Value.slice ao1 n cap1).ownBlock.toList) ∧ (L ≠ [] → Off (.slice ao3 n cap3) (Value.slice ao2 n cap2).ownBlock.toList)) := ⟨h12, hv1, hv2⟩
  have HM : Hid (M0.length = n) := hm
  have HSa : Hid (∀ v v2 w9, Rd encP 2 w9 v L → Rd encP 2 w9 v2 L → Calls Try.prog 20 #[v, v2] w9 fun e w' => e = .returned (.bool true) ∧ Keep [] w9 w') := fun v v2 w9 h1 h2 => rSame_yes v v2 L w9 h1 h2 (by have := HN.out; omega)
  have hli : (n : Int) ≤ 8796093021952 := by omega
  have HB : Hid (n ≤ 8796093021952) := hl
  have hl0 : (0 : Int) ≤ (n : Int) := by omega
  clear h1 h2 hv h12 hv1 hv2 hm hl
  go_enter Try.func31, Try.ntmps31
  go_wp2_with fail
  go_loopw [7] (fun iv wr => ∃ i : Nat, iv = .int .i64 (i : Int) ∧ i ≤ n ∧ Hid (Keep (Value.slice ao1 n cap1).ownBlock.toList w wr ∧ ∃ M, M.length = n ∧ Rw 29 encP 2 wr (.slice ao1 n cap1) M)) (fun iv _ => n - (intOf iv).toNat)
  case atStart => exact ⟨0, rfl, Nat.zero_le _, Keep.refl _ _, M0, HM.out, H1.out⟩
  case round =>
    obtain ⟨i, rfl, hi, HI⟩ := hrel
    have hi0 : (0 : Int) ≤ (i : Int) := by omega
    by_cases hlt : i < n
    · have hlti : (i : Int) < (n : Int) := by omega
      obtain ⟨kk, M, hM, hR⟩ := HI.out
      have HR : Hid (type_of% hR) := hR
      obtain ⟨g, rfl, hg, hfz, c0, c1⟩ : ∃ g, ao1 = some ⟨g, 0, none⟩ ∧ g < wr.heap.size ∧ (∀ j, wr.frozen? ⟨g, j, none⟩ = false) ∧ wr.cell? ⟨g, i * 2, none⟩ = some (.int .i64 (M[i]'(by omega)).k) ∧ wr.cell? ⟨g, i * 2 + 1, none⟩ = some (.int .i64 (M[i]'(by omega)).m) := by
        rcases hR.cases encP_len with ⟨h3, _⟩ | ⟨g, cap, he, _, _, hg, hc, hf⟩
        · rw [h3] at hM; simp at hM; omega
        · simp at he
          exact ⟨g, he.1, hg, hf, hc i (by omega) 0 (by omega), hc i (by omega) 1 (by omega)⟩
      have HMl : Hid (M.length = n) := hM
      have HKK : Hid (type_of% kk) := kk
      generalize (M[i]'(by omega)).k = q0 at *
      generalize (M[i]'(by omega)).m = q1 at *
      have hf0 := hfz (i * 2)
      have hf1 := hfz (i * 2 + 1)
      have nw : IntKind.i64.wrap (-(i : Int)) = -(i : Int) := wrap_ok _ (by omega) (by omega)
      have nw2 : IntKind.i64.wrap (-(i : Int) - 1) = -(i : Int) - 1 := wrap_ok _ (by omega) (by omega)
      clear hR kk hM hfz
      go_wp2_with fail
      refine ⟨⟨i + 1, by simp, hlt, (HKK.out.setCell (.inl (by simp [Value.ownBlock])) _).setCell (.inl (by simp [Value.ownBlock])) _, M.set i ⟨0, -(i : Int) - 1⟩, by rw [List.length_set]; exact HMl.out, HR.out.set2 HMl.out i ⟨0, -(i : Int) - 1⟩⟩, ?_⟩
      simp [intOf]
      omega
    · obtain rfl : i = n := by omega
      have hnl : ¬ (i : Int) < (i : Int) := by omega
      obtain ⟨kk, M, hM, hR⟩ := HI.out
      have H2o : Hid (Off (.slice ao2 i cap2) (Value.slice ao1 i cap1).ownBlock.toList) := fun k hk hm => HO.out.1 k (by simpa using hm) (by simpa using hk)
      have HX : Hid (Rw 29 encP 2 wr (.slice ao2 i cap2) L ∧ Rd encP 2 wr (.slice ao3 i cap3) L ∧ Keep (Value.slice ao1 i cap1).ownBlock.toList w wr ∧ Rw 29 encP 2 wr (.slice ao1 i cap1) M ∧ M.length = i) := ⟨H2.out.keep kk H2o.out, HV.out.keepN kk HO.out.2.1, kk, hR, hM⟩
      clear kk hM hR HI hlt hi
      go_wp2_with (go_at_call 20; refine (HSa.out _ _ _ (HX.out.1.rd encP_len) HX.out.2.1).mono ?_; rintro e w5 ⟨rfl, k5⟩)
      have HX5 : Hid (Rw 29 encP 2 w5 (.slice ao2 i cap2) L ∧ Rd encP 2 w5 (.slice ao3 i cap3) L ∧ Gq w (.slice ao1 i cap1) (.slice ao1 i cap1) (M ++ gM 0) w5 ∧ M.length = i) := ⟨HX.out.1.keep k5 (Off.nil _), HX.out.2.1.keep k5 (Off.nil _), by rw [show M ++ gM 0 = M from by simp [gM]]; exact ⟨HX.out.2.2.2.1.keep k5 (Off.nil _), HX.out.2.2.1.more k5 (by simp), .inl rfl⟩, HX.out.2.2.2.2⟩
      clear HX k5
      go_loopw [8, 9] (fun gv jv wr => ∃ (j : Nat) (a : Option Addr) (c : Nat), jv = .int .i64 (j : Int) ∧ gv = .slice a (i + j) c ∧ j ≤ 70 ∧ Hid (Gq w (.slice ao1 i cap1) (.slice a (i + j) c) (M ++ gM j) wr)) (fun _ jv _ => 70 - (intOf jv).toNat)
      case atStart => exact ⟨0, ao1, cap1, rfl, rfl, Nat.zero_le _, HX5.out.2.2.1⟩
      case round =>
        obtain ⟨j, a, c, rfl, rfl, hj, HG⟩ := hrel
        have hj0 : (0 : Int) ≤ (j : Int) := by omega
        have HML : Hid ((M ++ gM j).length = i + j) := by show _ = _; rw [List.length_append, gM_len, HX5.out.2.2.2]
        by_cases hjt : j < 70
        · have hjti : (j : Int) < 70 := by omega
          have nw : IntKind.i64.wrap (-(j : Int)) = -(j : Int) := wrap_ok _ (by omega) (by omega)
          have nw2 : IntKind.i64.wrap (-1000 - (j : Int)) = -1000 - (j : Int) := wrap_ok _ (by omega) (by omega)
          go_wp2_with (at_builtin; refine wp_appC infoP rfl rfl (.tmp 35) (.tmp 41) 25 25 rfl Try.underlying25 (.slice a (i + j) c) (M ++ gM j).length ((M ++ gM j).flatMap encP) rfl (RowC.keep HG.out.row (Keep.alloc1 wr _) (Off.nil _)) (.slice (some ⟨wr.heap.size, 0, none⟩) 1 1) 1 (encP ⟨-(j : Int), -1000 - (j : Int)⟩) rfl (src_pair wr ⟨-(j : Int), -1000 - (j : Int)⟩) (by rw [HML.out]; have := HB.out; omega) (by rw [HML.out]; have := HB.out; simp only [maxLen]; omega) ?_; intro v1 z1 a1 a2 a3 a4 a5; obtain ⟨ao', cap', rfl⟩ := a4)
          have hst := HG.out.step a1 a2 a3
          rw [List.append_assoc, ← gM_succ] at hst
          rw [HML.out] at hst
          refine ⟨⟨j + 1, ao', cap', by simp, by rw [gM_len, HX5.out.2.2.2]; rfl, hjt, hst⟩, ?_⟩
          simp [intOf]
          omega
        · obtain rfl : j = 70 := by omega
          rw [show ((70 : Nat) : Int) = 70 from rfl]
          clear hjt hj
          obtain ⟨ag, cg, HGg⟩ : ∃ (ag : Option Addr) (cg : Nat), Hid (a = ag ∧ c = cg) := ⟨_, _, rfl, rfl⟩
          obtain ⟨rfl, rfl⟩ := HGg.out
          clear HGg
          have HOg : Hid (Off (.slice a (i + 70) c) (Value.slice ao2 i cap2).ownBlock.toList) := fun k hk hm => by
            rcases HG.out.at' with h1 | h1
            · exact HO.out.1 k (by rw [← h1]; exact hk) hm
            · have := (h1 k hk).1
              have := H2.out.lt k (by simpa using hm)
              omega
          have HX6 : Hid (Rw 29 encP 2 wr (.slice ao2 i cap2) L ∧ Rd encP 2 wr (.slice ao3 i cap3) L ∧ Keep (Value.slice ao1 i cap1).ownBlock.toList w wr) := ⟨H2.out.keep HG.out.kp H2o.out, HV.out.keepN HG.out.kp HO.out.2.1, HG.out.kp⟩
          obtain ⟨w6, HW6⟩ : ∃ w6, Hid (w6 = wr) := ⟨_, show _ = _ from rfl⟩
          rw [← HW6.out] at HG HX6
          clear HX5
          go_wp2_with fail
          go_loopw [10, 11] (fun hv jv wr => ∃ (j : Nat) (ah : Option Addr) (ch : Nat), jv = .int .i64 (j : Int) ∧ hv = .slice ah (i + j) ch ∧ j ≤ 70 ∧ Hid (Gq w6 (.slice ao2 i cap2) (.slice ah (i + j) ch) (L ++ hM j) wr ∧ Rd encP 2 wr (.slice ao2 i cap2) L)) (fun _ jv _ => 70 - (intOf jv).toNat)
          case atStart => exact ⟨0, ao2, cap2, rfl, rfl, Nat.zero_le _, by rw [← HW6.out, show L ++ hM 0 = L from by simp [hM]]; exact ⟨⟨HX6.out.1, Keep.refl _ _, .inl rfl⟩, HX6.out.1.rd encP_len⟩⟩
          case round =>
            obtain ⟨j, ah, ch, rfl, rfl, hj, HH⟩ := hrel
            have hj0 : (0 : Int) ≤ (j : Int) := by omega
            have HLL : Hid ((L ++ hM j).length = i + j) := by show _ = _; rw [List.length_append, hM_len, HN.out]
            by_cases hjt : j < 70
            · have hjti : (j : Int) < 70 := by omega
              have nw2 : IntKind.i64.wrap (-2000 - (j : Int)) = -2000 - (j : Int) := wrap_ok _ (by omega) (by omega)
              go_wp2_with (at_builtin; refine wp_appC infoP rfl rfl (.tmp 48) (.tmp 53) 25 25 rfl Try.underlying25 (.slice ah (i + j) ch) (L ++ hM j).length ((L ++ hM j).flatMap encP) rfl (RowC.keep HH.out.1.row (Keep.alloc1 _ _) (Off.nil _)) (.slice (some ⟨_, 0, none⟩) 1 1) 1 (encP ⟨(j : Int), -2000 - (j : Int)⟩) rfl (src_pair _ ⟨(j : Int), -2000 - (j : Int)⟩) (by rw [HLL.out]; have := HB.out; omega) (by rw [HLL.out]; have := HB.out; simp only [maxLen]; omega) ?_; intro v1 z1 a1 a2 a3 a4 a5; obtain ⟨ao', cap', rfl⟩ := a4)
              have hst := HH.out.1.step a1 a2 a3
              have hod := HH.out.1.old HX6.out.1 HH.out.2 a2 a5
              rw [List.append_assoc, ← hM_succ] at hst
              rw [HLL.out] at hst
              refine ⟨⟨j + 1, ao', cap', by simp, by rw [hM_len, HN.out]; rfl, hjt, hst, hod⟩, ?_⟩
              simp [intOf]
              omega
            · obtain rfl : j = 70 := by omega
              rw [show ((70 : Nat) : Int) = 70 from rfl]
              clear hjt hj
              have hg8 := HG.out.row.keep HH.out.1.kp HOg.out
              obtain ⟨w8, HW8⟩ : ∃ w8, Hid (w8 = wr) := ⟨_, show _ = _ from rfl⟩
              have HX8 : Hid (Rd encP 2 w8 (.slice ao2 i cap2) L ∧ Rd encP 2 w8 (.slice ao3 i cap3) L ∧ Keep ((Value.slice ao1 i cap1).ownBlock.toList ++ (Value.slice ao2 i cap2).ownBlock.toList) w w8) := by
                rw [HW8.out]
                exact ⟨HH.out.2, HX6.out.2.1.keepN HH.out.1.kp HO.out.2.2, (HX6.out.2.2.mono (by intro x hx; exact .inl (by simp at hx; simp [hx]))).trans (HH.out.1.kp.mono (G := (Value.slice ao1 i cap1).ownBlock.toList ++ (Value.slice ao2 i cap2).ownBlock.toList) (by intro x hx; exact .inl (by simp at hx; simp [hx]))) (fun x hx => .inl hx) (fun x hx => .inl hx)⟩
              have HMi : Hid (M.length = i) := by show _ = _; have h := HML.out; rw [List.length_append, gM_len] at h; omega
              obtain ⟨bg, rfl, hbg⟩ : ∃ bg, a = some ⟨bg, 0, none⟩ ∧ ∀ k, k < 70 → wr.cell? ⟨bg, (i + k) * 2 + 1, none⟩ = some (.int .i64 (-1000 - (k : Int))) := by
                rcases hg8.cases encP_len with ⟨h3, _⟩ | ⟨g, cap, he, _, _, hg, hc, hf⟩
                · have := congrArg List.length h3; rw [HML.out] at this; simp at this
                · simp at he
                  refine ⟨g, he.1, fun k hk => ?_⟩
                  have h5 := hc (M.length + k) (by rw [HML.out, HMi.out]; omega) 1 (by omega)
                  rw [gM_at M k hk] at h5
                  rw [HMi.out] at h5
                  exact h5
              obtain ⟨bh, rfl, hbh⟩ : ∃ bh, ah = some ⟨bh, 0, none⟩ ∧ ∀ k, k < 70 → wr.cell? ⟨bh, (i + k) * 2 + 1, none⟩ = some (.int .i64 (-2000 - (k : Int))) := by
                rcases HH.out.1.row.cases encP_len with ⟨h3, _⟩ | ⟨g, cap, he, _, _, hg, hc, hf⟩
                · have := congrArg List.length h3; rw [HLL.out] at this; simp at this
                · simp at he
                  refine ⟨g, he.1, fun k hk => ?_⟩
                  have h5 := hc (L.length + k) (by rw [HLL.out, HN.out]; omega) 1 (by omega)
                  rw [hM_at L k hk] at h5
                  rw [HN.out] at h5
                  exact h5
              obtain ⟨⟨qg1, qg2⟩, qh1, qh2⟩ : (i + 70 ≤ c ∧ c ≤ 9223372036854775807) ∧ i + 70 ≤ ch ∧ ch ≤ 9223372036854775807 := by
                obtain ⟨_, _, z1, z2, z3⟩ := (hg8.rd encP_len).form
                obtain ⟨_, _, y1, y2, y3⟩ := (HH.out.1.row.rd encP_len).form
                rw [HML.out] at z1 z2
                rw [HLL.out] at y1 y2
                simp at z1 y1
                omega
              have HCg : Hid (type_of% hbg) := hbg
              have HCh : Hid (type_of% hbh) := hbh
              clear hg8 hbg hbh HG HH HX6 HOg HML HLL
              go_wp2_with fail
              go_loopw [12] (fun jv wr => ∃ j : Nat, jv = .int .i64 (j : Int) ∧ j ≤ 70 ∧ Hid (wr = w8)) (fun jv _ => 70 - (intOf jv).toNat)
              case atStart => exact ⟨0, rfl, Nat.zero_le _, HW8.out.symm⟩
              case round =>
                obtain ⟨j, rfl, hj, HJ⟩ := hrel
                rw [HJ.out]
                rw [← HW8.out] at HCg HCh
                have hj0 : (0 : Int) ≤ (j : Int) := by omega
                by_cases hjt : j < 70
                · have hjti : (j : Int) < 70 := by omega
                  have ht : ((i : Int) + (j : Int)).toNat = i + j := by omega
                  have hlt2 : (i : Int) + (j : Int) < (i : Int) + 70 := by omega
                  have hge2 : 0 ≤ (i : Int) + (j : Int) := by omega
                  have cg := HCg.out j hjt
                  have chh := HCh.out j hjt
                  have nw2 : IntKind.i64.wrap (-2000 - (j : Int)) = -2000 - (j : Int) := wrap_ok _ (by omega) (by omega)
                  have nw1 : IntKind.i64.wrap (-1000 - (j : Int)) = -1000 - (j : Int) := wrap_ok _ (by omega) (by omega)
                  go_wp2_with fail
                  refine ⟨⟨j + 1, by simp, hjt, trivial⟩, ?_⟩
                  simp [intOf]
                  omega
                · obtain rfl : j = 70 := by omega
                  rw [show ((70 : Nat) : Int) = 70 from rfl]
                  go_wp2_with (go_at_call 20; refine (HSa.out _ _ _ HX8.out.1 HX8.out.2.1).mono ?_; rintro e w9 ⟨rfl, k9⟩)
                  go_ret
                  exact ⟨rfl, HX8.out.2.2.more k9 (by simp)⟩

end Go.Proofs.Ytkelhglflpdpeaa
