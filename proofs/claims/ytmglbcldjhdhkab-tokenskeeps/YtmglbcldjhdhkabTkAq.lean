/- Rows of tokens that lie apart: ApartTokens answers true, and nothing but these rows is another one. -/
import Derived.Test.YtmglbcldjhdhkabTkAp
import Derived.Deep.RegionWith
import Derived.Deep.QuietTactic
import Derived.BigQuiet
namespace Go.Proofs.Ytmglbcldjhdhkab
open Go.RowKit Go.PlainAid

theorem Ap.form {w : World} {b n : Nat} {F : Nat → Value} {m : Nat → List TokD} (h : Ap w b n F m) (k : Nat) (hk : k < n) : ∃ ao cap, F k = .slice ao (m k).length cap ∧ (m k).length ≤ cap ∧ cap ≤ 9223372036854775807 ∧ (0 < (m k).length → ∃ g, ao = some ⟨g, 0, none⟩) := by
  rcases (h.row k hk).cases with ⟨h0, hv⟩ | ⟨g, cap, hv, h1, h2, _⟩
  · exact ⟨none, 0, by rw [hv, h0]; rfl, by simp [h0], by omega, fun h => by simp [h0] at h⟩
  · exact ⟨some ⟨g, 0, none⟩, cap, hv, h1, h2, fun _ => ⟨g, rfl⟩⟩
theorem RowT.src {w : World} {v : Value} {l : List TokD} (h : RowT w v l) : Src Try.prog 4 23 v l.length (toksC l) w := by
  have h1 : ∀ u ∈ toksC l, u.oneCell' = true := fun u hu => by
    obtain ⟨t, -, ht⟩ := List.mem_flatMap.1 hu
    simp [tokC] at ht
    rcases ht with rfl | rfl | rfl | rfl <;> rfl
  rcases RowC.cases h with ⟨h0, hx, hv⟩ | ⟨g, cap, hv, _, _, _, h4, _⟩
  · rw [hv, h0, hx]
    exact Src.ofNil _ Try.underlying23 0
  · rw [hv]
    refine Src.ofSlice _ Try.underlying23 ⟨g, 0, none⟩ _ cap _ (toksC_len l) (fun j u hu => ?_) h1
    have hadd : (⟨g, 0, none⟩ : Addr).add j = ⟨g, 0 + j, none⟩ := by unfold Addr.add; split <;> simp_all
    have hj : j < l.length * 4 := by rw [← toksC_len]; exact (List.getElem?_eq_some_iff.1 hu).1
    rw [hadd, Nat.zero_add, h4 j hj]
    exact hu
theorem Gw.same {w1 wr w2 : World} {u v : Value} {k ck i : Nat} (h : Gw w1 wr u v k ck i) (K : Keep [] wr w2) : Gw w1 w2 u v k ck i :=
  ⟨h.old.keep K (Off.nil _), h.row.keep K (Off.nil _), h.kp.more K (fun _ hx => by cases hx), h.blk.imp id (fun e => e.later K.size)⟩

set_option maxRecDepth 1000000 in
set_option maxHeartbeats 12800000 in
theorem apartT_any (b n : Nat) (F : Nat → Value) (m0 : Nat → List TokD) (c : Nat → Nat) (w : World) (hA : Ap w b n F m0) (hc : ∀ k, (m0 k).length = c k) (hn : n ≤ 100) (hb : b < w.heap.size) (hsz : ∀ k, c k ≤ 900000) :
    Calls Try.prog 13 #[.slice (some ⟨b, 0, none⟩) n n] w fun e w' => e = .returned (.bool true) ∧ Keep (blks n F) w w' := by
  have HF : Hid (∀ j, j < n → ∀ x, (F j).ownBlock = some x → x < w.heap.size) := fun j hj x hx => (hA.row j hj).lt x hx
  have H0 : Hid (Ph1 w w b n F c 0 m0) := ⟨hA, hc, fun j hj => by omega, Keep.refl _ _⟩
  clear hA hc
  go_enter Try.func13, Try.ntmps13
  go_wp2
  go_loopw [3] (fun kv wr => ∃ (k : Nat) (m : Nat → List TokD), kv = .int .i64 (k : Int) ∧ k ≤ n ∧ Hid (Ph1 w wr b n F c k m)) (fun kv _ => n - (intOf kv).toNat)
  case atStart => exact ⟨0, m0, rfl, Nat.zero_le _, H0⟩
  case round =>
    obtain ⟨k, m, rfl, hkn, hP⟩ := hrel
    clear H0
    by_cases hk : k < n
    · have hki : (k : Int) < (n : Int) := by omega
      obtain ⟨ao, cap, hFk, hlc, hcm, hpos⟩ := hP.out.ap.form k hk
      rw [hP.out.len k] at hFk hlc hpos
      have hck := hsz k
      go_wp2
      go_loopw [4] (fun iv wr => ∃ (i : Nat) (m : Nat → List TokD), iv = .int .i64 (i : Int) ∧ i ≤ c k ∧ Hid (Ph1 w wr b n F c k m ∧ (m k).take i = marks k i)) (fun iv _ => c k - (intOf iv).toNat)
      case atStart => exact ⟨0, m, rfl, Nat.zero_le _, hP.out, by simp [marks]⟩
      case round =>
        clear hP
        obtain ⟨i, m', rfl, hi, hP⟩ := hrel
        have hcell := hP.out.1.ap.cell k hk
        by_cases hil : i < c k
        · obtain ⟨g, rfl⟩ := hpos (by omega)
          rw [hFk] at hcell
          have HM : Hid (∀ w, Calls Try.prog 20 #[.int .i64 (k : Int), .int .i64 (i : Int)] w fun e w' => e = .returned (.string (ba (markLL k i))) ∧ Keep [] w w') := fun w => markG_any k i w
          have HPP : Hid (∀ w9, Keep [] wr w9 → (∃ t : TokD, Tc w9 g i t) ∧ (∀ j, w9.frozen? ⟨g, j, none⟩ = false) ∧ (putT w9 g i (mkT k i)).cell? ⟨b, k, none⟩ = some (.slice (some ⟨g, 0, none⟩) (c k) cap) ∧ ∃ m2, Ph1 w (putT w9 g i (mkT k i)) b n F c k m2 ∧ (m2 k).take (i + 1) = marks k (i + 1)) := fun w9 k9 => by
            have hP9 := hP.out.1.same k9
            have hrow := hP9.ap.row k hk
            have hl := hP9.len k
            have hS := hP9.step hk hil hFk hP.out.2
            have hce := hS.elim fun _ h => h.1.ap.cell k hk
            rw [hFk] at hrow hce
            rcases hrow.cases with ⟨_, hv⟩ | ⟨g', cap', hv, _, _, _, h4, h5⟩
            · simp at hv
            · simp only [Value.slice.injEq, Option.some.injEq, Addr.mk.injEq] at hv
              obtain ⟨⟨rfl, -⟩, -⟩ := hv
              exact ⟨⟨_, h4 i (by omega)⟩, h5, hce, hS⟩
          have hili : (i : Int) < (c k : Int) := by omega
          clear hP hpos hFk
          generalize c k = ck at *
          go_wp2
          refine wp_region_held_drew (S := (fun w' => w'.cell? ⟨b, k, none⟩ = some (.slice (some ⟨g, 0, none⟩) ck cap))) (by kernel_rfl) (((Keep.refl [] wr).drew).cell' hcell (by simp)) (fun hHeld => ?_)
          try dsimp only at hHeld
          refine wpAnyH_take (i := 0) (oi := { dst := some 31, op := Go.Op.move (Go.Operand.tmp 0), type := 38, pos := "apart.go:180", after := #[], guard := none }) (v := ?_) rfl (by kernel_rfl) (by kernel_rfl) (by kernel_rfl) (fun _ _ _ h => h) (Or.inl ⟨by rfl, ?_⟩) (by assumption) ?_
          rotate_left
          · intro w7 hSw
            try dsimp only at hSw
            first | (go_simp; done) | (go_simp; with_reducible rfl)
          try simp only [Act.put, List.setIfInBounds_toArray, List.set_cons_zero, List.set_cons_succ]
          refine wpAnyH_take (i := 1) (oi := { dst := some 32, op := Go.Op.move (Go.Operand.tmp 3), type := 3, pos := "apart.go:180", after := #[], guard := none }) (v := ?_) rfl (by kernel_rfl) (by kernel_rfl) (by kernel_rfl) (fun _ _ _ h => h) (Or.inl ⟨by rfl, ?_⟩) (by assumption) ?_
          rotate_left
          · intro w7 hSw
            try dsimp only at hSw
            first | (go_simp; done) | (go_simp; with_reducible rfl)
          try simp only [Act.put, List.setIfInBounds_toArray, List.set_cons_zero, List.set_cons_succ]
          refine wpAnyH_take (i := 2) (oi := { dst := some 33, op := Go.Op.indexAddr 38 (Go.Operand.tmp 31) (Go.Operand.tmp 32), type := 0, pos := "apart.go:180", after := #[{ on := 0, ground := Go.Ground.data }, { on := 1, ground := Go.Ground.data }], guard := none }) (v := ?_) rfl (by kernel_rfl) (by kernel_rfl) (by kernel_rfl) (fun _ _ _ h => h) (Or.inl ⟨by rfl, ?_⟩) (by assumption) ?_
          rotate_left
          · intro w7 hSw
            try dsimp only at hSw
            first | (go_simp; done) | (go_simp; with_reducible rfl)
          try simp only [Act.put, List.setIfInBounds_toArray, List.set_cons_zero, List.set_cons_succ]
          refine wpAnyH_take (i := 3) (oi := { dst := some 34, op := Go.Op.load 23 (Go.Operand.tmp 33), type := 23, pos := "apart.go:180", after := #[{ on := 2, ground := Go.Ground.data }], guard := none }) (v := ?_) rfl (by kernel_rfl) (by kernel_rfl) (by kernel_rfl) (fun _ _ _ h => h) (Or.inl ⟨by rfl, ?_⟩) (by assumption) ?_
          rotate_left
          · intro w7 hSw
            try dsimp only at hSw
            first | (go_simp; done) | (go_simp; with_reducible rfl)
          try simp only [Act.put, List.setIfInBounds_toArray, List.set_cons_zero, List.set_cons_succ]
          refine wpAnyH_take (i := 4) (oi := { dst := some 35, op := Go.Op.move (Go.Operand.tmp 4), type := 3, pos := "apart.go:180", after := #[], guard := none }) (v := ?_) rfl (by kernel_rfl) (by kernel_rfl) (by kernel_rfl) (fun _ _ _ h => h) (Or.inl ⟨by rfl, ?_⟩) (by assumption) ?_
          rotate_left
          · intro w7 hSw
            try dsimp only at hSw
            first | (go_simp; done) | (go_simp; with_reducible rfl)
          try simp only [Act.put, List.setIfInBounds_toArray, List.set_cons_zero, List.set_cons_succ]
          refine wpAnyH_take (i := 5) (oi := { dst := some 36, op := Go.Op.move (Go.Operand.tmp 3), type := 3, pos := "apart.go:180", after := #[], guard := none }) (v := ?_) rfl (by kernel_rfl) (by kernel_rfl) (by kernel_rfl) (fun _ _ _ h => h) (Or.inl ⟨by rfl, ?_⟩) (by assumption) ?_
          rotate_left
          · intro w7 hSw
            try dsimp only at hSw
            first | (go_simp; done) | (go_simp; with_reducible rfl)
          try simp only [Act.put, List.setIfInBounds_toArray, List.set_cons_zero, List.set_cons_succ]
          refine wpAnyH_take (i := 6) (oi := { dst := some 37, op := Go.Op.move (Go.Operand.tmp 4), type := 3, pos := "apart.go:180", after := #[], guard := none }) (v := ?_) rfl (by kernel_rfl) (by kernel_rfl) (by kernel_rfl) (fun _ _ _ h => h) (Or.inl ⟨by rfl, ?_⟩) (by assumption) ?_
          rotate_left
          · intro w7 hSw
            try dsimp only at hSw
            first | (go_simp; done) | (go_simp; with_reducible rfl)
          try simp only [Act.put, List.setIfInBounds_toArray, List.set_cons_zero, List.set_cons_succ]
          refine wpAnyH_ready (rs := [7]) (by kernel_rfl) (by simp) ?_
          refine AllReadyH.cons (o := { dst := some 38, op := Go.Op.call { callee := Go.Callee.value (Go.Operand.func 20), args := #[Go.Operand.tmp 36, Go.Operand.tmp 37], argTypes := #[3, 3] }, type := 9, pos := "apart.go:180", after := #[{ on := 5, ground := Go.Ground.data }, { on := 6, ground := Go.Ground.data }], guard := none }) rfl (fun K hK => ?_) AllReadyH.nil
          go_simp
          (go_at_call 20; refine (HM.out _).mono ?_; rintro e9 w9 ⟨rfl, k9⟩)
          go_wp2_with fail
          refine hK.out _ _ (k9.cell' hHeld (by simp)) (fun hHeld2 => ?_)
          try dsimp only at hHeld2
          clear hK hHeld
          have hHeld := hHeld2
          clear hHeld2
          try simp only [Act.put, List.setIfInBounds_toArray, List.set_cons_zero, List.set_cons_succ]
          refine wpAnyH_take (i := 8) (oi := { dst := some 39, op := Go.Op.build 36 #[(0, Go.Operand.const (Go.Value.int Go.IntKind.i64 (-7))), (1, Go.Operand.tmp 38)], type := 36, pos := "apart.go:180", after := #[{ on := 7, ground := Go.Ground.data }], guard := none }) (v := ?_) rfl (by kernel_rfl) (by kernel_rfl) (by kernel_rfl) (fun _ _ _ h => h) (Or.inl ⟨by rfl, ?_⟩) (by assumption) ?_
          rotate_left
          · intro w7 hSw
            try dsimp only at hSw
            first | (go_simp; done) | (go_simp; with_reducible rfl)
          try simp only [Act.put, List.setIfInBounds_toArray, List.set_cons_zero, List.set_cons_succ]
          refine wpAnyH_take (i := 9) (oi := { dst := some 40, op := Go.Op.indexAddr 23 (Go.Operand.tmp 34) (Go.Operand.tmp 35), type := 0, pos := "apart.go:180", after := #[{ on := 3, ground := Go.Ground.data }, { on := 4, ground := Go.Ground.data }, { on := 0, ground := Go.Ground.phase }, { on := 1, ground := Go.Ground.phase }, { on := 2, ground := Go.Ground.phase }, { on := 3, ground := Go.Ground.phase }, { on := 4, ground := Go.Ground.phase }, { on := 5, ground := Go.Ground.phase }, { on := 6, ground := Go.Ground.phase }, { on := 7, ground := Go.Ground.phase }, { on := 8, ground := Go.Ground.phase }], guard := none }) (v := ?_) rfl (by kernel_rfl) (by kernel_rfl) (by kernel_rfl) (fun _ _ _ h => h) (Or.inl ⟨by rfl, ?_⟩) (by assumption) ?_
          rotate_left
          · intro w7 hSw
            try dsimp only at hSw
            first | (go_simp; done) | (go_simp; with_reducible rfl)
          try simp only [Act.put, List.setIfInBounds_toArray, List.set_cons_zero, List.set_cons_succ]
          have hP9 := HPP.out w9 ((Keep.refl [] wr).drew.trans' k9)
          obtain ⟨⟨d0, d1, d2, d3⟩, fz, hb9, m2, hP2, ht2⟩ := hP9
          have f0 := fz (i * 4)
          have f1 := fz (i * 4 + 1)
          have f2 := fz (i * 4 + 2)
          have f3 := fz (i * 4 + 3)
          have HP2 : Hid (Ph1 w (putT w9 g i (mkT k i)) b n F c k m2 ∧ (m2 k).take (i + 1) = marks k (i + 1)) := ⟨hP2, ht2⟩
          clear hP2 ht2 fz HPP HM
          refine wpAnyH_ready (rs := [10]) (by kernel_rfl) (by simp) ?_
          refine AllReadyH.cons (o := { dst := none, op := Go.Op.store 36 (Go.Operand.tmp 40) (Go.Operand.tmp 39), type := 0, pos := "apart.go:180", after := #[{ on := 9, ground := Go.Ground.data }, { on := 8, ground := Go.Ground.data }, { on := 7, ground := Go.Ground.chain }, { on := 0, ground := Go.Ground.phase }, { on := 1, ground := Go.Ground.phase }, { on := 2, ground := Go.Ground.phase }, { on := 3, ground := Go.Ground.phase }, { on := 4, ground := Go.Ground.phase }, { on := 5, ground := Go.Ground.phase }, { on := 6, ground := Go.Ground.phase }, { on := 7, ground := Go.Ground.phase }, { on := 8, ground := Go.Ground.phase }], guard := none }) rfl (fun K hK => ?_) AllReadyH.nil
          go_simp
          refine hK.out _ _ (hb9) (fun hHeld2 => ?_)
          clear hK hHeld hHeld2
          try simp only [Act.put, List.setIfInBounds_toArray, List.set_cons_zero, List.set_cons_succ]
          refine wpAnyH_done (by kernel_rfl) ?_ _
          go_wp2
          go_roundw
          case rel => exact ⟨i + 1, m2, by go_num, by omega, HP2⟩
          case measure => simp [intOf]; omega
        · have hic : i = c k := by omega
          subst hic
          rw [hFk] at hcell
          have HP : Hid (Ph1 w wr b n F c (k + 1) m') := hP.out.1.next hP.out.2
          have hili : ¬ ((c k : Int) < (c k : Int)) := by omega
          clear hP hpos hFk
          generalize c k = ck at *
          go_wp2
          go_roundw
          case rel => exact ⟨k + 1, m', by go_num, by omega, HP⟩
          case measure => simp [intOf]; omega
    · have hkk : k = n := by omega
      subst hkk
      have H2 : Hid (Ph2 w wr b k F c (.slice none 0 0) 0 F (fun _ => [])) := Ph2.zero hP.out hb HF.out
      clear hP hk
      have hki : ¬ ((k : Int) < (k : Int)) := by omega
      go_wp2
      go_loopw [5, 6] (fun gv kv wr => ∃ (j : Nat) (G : Nat → Value) (q : Nat → List TokD), kv = .int .i64 (j : Int) ∧ j ≤ k ∧ Hid (Ph2 w wr b k F c gv j G q ∧ ∀ i, i < j → q i = marks i (c i + 64))) (fun _ kv _ => k - (intOf kv).toNat)
      case atStart => exact ⟨0, _, _, rfl, Nat.zero_le _, H2.out, fun i hi => by omega⟩
      case round =>
        obtain ⟨j, G, q, rfl, hjk, HP⟩ := hrel
        clear H2
        by_cases hj : j < k
        · have hji : (j : Int) < (k : Int) := by omega
          obtain ⟨ao, cap, hFj, hlc, hcm, -⟩ := HP.out.1.ap.form j hj
          simp only [marks_len] at hFj hlc
          have hcell := HP.out.1.ap.cell j hj
          rw [hFj] at hcell
          have hcj := hsz j
          have HG : Hid (Gw wr wr (F j) (.slice ao (c j) cap) j (c j) 0) := by
            have h1 := HP.out.1.ap.row j hj
            have h2 : Gw wr wr (F j) (F j) j (c j) 0 := ⟨h1, h1, Keep.refl _ _, .inl rfl⟩
            rw [← hFj]
            exact h2
          have HFj : Hid (F j = .slice ao (c j) cap) := hFj
          have hcj0 : (0 : Int) ≤ (c j : Int) := by omega
          clear hFj
          rename World => w1
          go_wp2
          go_loopw [7, 8] (fun vv iv w2 => ∃ (i : Nat), iv = .int .i64 (i : Int) ∧ i ≤ 64 ∧ Hid (Gw w1 w2 (F j) vv j (c j) i)) (fun _ iv _ => 64 - (intOf iv).toNat)
          case atStart => exact ⟨0, rfl, by omega, HG⟩
          case round =>
            clear HG
            obtain ⟨i, rfl, hi, hG⟩ := hrel
            obtain ⟨hP2, hd1, hd2, hd3⟩ := HP.out.1.grown hj hG.out
            have hcell2 := hP2.ap.cell j hj
            rw [HFj.out] at hcell2
            by_cases hil : i < 64
            · have hili : (i : Int) < 64 := by omega
              have HM : Hid (∀ w, Calls Try.prog 20 #[.int .i64 (j : Int), .int .i64 ((c j : Int) + (i : Int))] w fun e w' => e = .returned (.string (ba (markLL j (c j + i)))) ∧ Keep [] w w') := fun w => by
                have := markG_any j (c j + i) w
                rw [Int.natCast_add] at this
                exact this
              clear hP2 hd1 hd2 hd3 hcell
              go_wp2_with fail
              refine (HM.out _).mono ?_
              rintro e w9 ⟨rfl, k9⟩
              have HS : Hid _ := src_tok w9 (mkT j (c j + i))
              have hG9 : Hid (Gw w1 w9 (F j) u7 j (c j) i) := hG.out.same k9
              have HR : Hid (RowT (w9.alloc (.cells #[.int .i64 (-7), .string (ba (markLL j (c j + i))), .int .i64 0, .int .i64 0] 36 (0, 0))) u7 (marks j (c j + i))) := hG9.out.row.keep (Keep.alloc1 w9 _) (Off.nil _)
              have hal : Hid (((marks j (c j + i)).length + 1) * 40 ≤ 140737488355328 ∧ (marks j (c j + i)).length + 1 ≤ maxLen) := by
                show _ ∧ _
                rw [marks_len]
                refine ⟨by omega, ?_⟩
                unfold maxLen; omega
              clear k9 hG HM hcell2
              go_wp2_with (at_builtin; refine wp_appC infoT rfl rfl (.tmp 55) (.tmp 66) 23 23 rfl Try.underlying23 u7 (marks j (c j + i)).length (toksC (marks j (c j + i))) rfl HR.out _ 1 (tokC (mkT j (c j + i))) rfl HS.out hal.out.1 hal.out.2 ?_)
              intro v' w8 g1 g2 g3 _ g5
              have HG2 : Hid (Gw w1 w8 (F j) v' j (c j) (i + 1)) := hG9.out.step g2 g3 (by
                have e9 : marks j (c j + (i + 1)) = marks j (c j + i) ++ [mkT j (c j + i)] := marks_succ j (c j + i)
                rw [e9]
                show RowC _ _ _ _ _ _
                rw [toksC_snoc, List.length_append]
                exact g1) g5
              clear g1 g2 g3 g5 HR HS hal hG9
              go_wp2
              go_roundw
              case rel => exact ⟨i + 1, by go_num, by omega, HG2⟩
              case measure => simp [intOf]; omega
            · have hi64 : i = 64 := by omega
              subst hi64
              obtain ⟨a7, l7, c7, rfl⟩ : ∃ a l cp, u7 = .slice a l cp := by
                obtain ⟨a, cp, h, _⟩ := hG.out.row.formA
                exact ⟨a, _, cp, h⟩
              have hsrc := srcS wr (.slice a7 l7 c7) rfl
              have hgs : RowC (wr.alloc (.cells #[(.slice a7 l7 c7)] TK)) TK 1 u5 j ((List.range j).map G) := RowC.keep hP2.gr.gs (Keep.alloc1 wr _) (Off.nil _)
              have HN : Hid (Ph2 w wr b k F c u5 j G q ∧ RowT wr (.slice a7 l7 c7) (marks j (c j + 64)) ∧ (∀ i, i < j → ∀ x, (G i).ownBlock = some x → (Value.slice a7 l7 c7).ownBlock ≠ some x) ∧ (∀ x, u5.ownBlock = some x → (Value.slice a7 l7 c7).ownBlock ≠ some x) ∧ ((Value.slice a7 l7 c7).ownBlock = (F j).ownBlock ∨ ∀ x, (Value.slice a7 l7 c7).ownBlock = some x → w.heap.size ≤ x)) := ⟨hP2, hG.out.row, hd1, hd2, hd3⟩
              clear hG hP2 hd1 hd2 hd3 hcell hcell2
              go_wp2_with (first
                | (at_builtin; refine wp_appC infoS rfl rfl (.tmp 68) (.tmp 70) 38 38 rfl underKK _ j ((List.range j).map G) rfl hgs _ 1 [(.slice a7 l7 c7)] rfl hsrc (by omega) (by simp only [maxLen]; omega) ?_))
              intro v' w9 g1 g2 g3 _ _
              have HP9 : Hid (Ph2 w w9 b k F c v' (j + 1) (updF G j (.slice a7 l7 c7)) (updF q j (marks j (c j + 64))) ∧ ∀ i, i < j + 1 → updF q j (marks j (c j + 64)) i = marks i (c i + 64)) := by
                refine ⟨HN.out.1.next hj HN.out.2.1 HN.out.2.2.1 HN.out.2.2.2.1 HN.out.2.2.2.2 g1 g2 g3, fun i hi => ?_⟩
                by_cases e : i = j
                · subst e
                  rw [updF_at]
                · rw [updF_ne _ _ _ e]
                  exact HP.out.2 i (by omega)
              clear g1 g2 g3 hsrc hgs HN
              go_wp2
              go_roundw
              case rel => exact ⟨j + 1, _, _, by go_num, by omega, HP9⟩
              case measure => simp [intOf]; omega
        · have hjj : j = k := by omega
          subst hjj
          clear hj
          rename World => w3
          go_wp2
          go_loopw [9] (fun kv wr => ∃ (k : Nat), kv = .int .i64 (k : Int) ∧ k ≤ j ∧ Hid (Keep [] w3 wr)) (fun kv _ => j - (intOf kv).toNat)
          case atStart => exact ⟨0, rfl, Nat.zero_le _, Keep.refl _ _⟩
          case round =>
            obtain ⟨k, rfl, hkj, HK⟩ := hrel
            by_cases hk : k < j
            · have hki2 : (k : Int) < (j : Int) := by omega
              obtain ⟨r, hr, hrl⟩ := marks_app k (c k) 64
              obtain ⟨ao, cap, ag, capg, gg, gc, hgv, hg1, hg2, hgk, hG1, hG2, hlk, hF1, hF2, hcF, hcG⟩ := HP.out.1.look hk ((HP.out.2 k hk).trans hr)
              rw [hrl] at hgk hG1 hcG
              have HC : Hid ((∀ i, i < c k → ∃ g1, ao = some ⟨g1, 0, none⟩ ∧ Tc w3 g1 i (mkT k i)) ∧ (∀ i, i < c k + 64 → ∃ g2, ag = some ⟨g2, 0, none⟩ ∧ Tc w3 g2 i (mkT k i)) ∧ w3.cell? ⟨gg, k, none⟩ = some (.slice ag (c k + 64) capg) ∧ w3.cell? ⟨b, k, none⟩ = some (.slice ao (c k) cap)) := by
                refine ⟨hcF, fun i hi => ?_, hgk, hlk⟩
                obtain ⟨g2, h1, h, h2⟩ := hcG i hi
                refine ⟨g2, h1, ?_⟩
                have e : (q k)[i]? = some (mkT k i) := by rw [HP.out.2 k hk, List.getElem?_eq_getElem (by rw [marks_len]; omega), marks_get]
                obtain ⟨_, e2⟩ := List.getElem?_eq_some_iff.1 e
                rwa [e2] at h2
              have hck := hsz k
              clear hr hcF hcG hgk hlk
              subst hgv
              generalize c k = ck at hG1 hF1 HC hck
              go_wp2
              go_loopw [10] (fun iv wr => ∃ (i : Nat), iv = .int .i64 (i : Int) ∧ i ≤ ck + 64 ∧ Hid (Keep [] w3 wr)) (fun iv _ => ck + 64 - (intOf iv).toNat)
              case atStart => exact ⟨0, rfl, Nat.zero_le _, HK⟩
              case round =>
                clear HK
                obtain ⟨i, rfl, hi, HK⟩ := hrel
                by_cases hil : i < ck + 64
                · obtain ⟨g2, rfl, hc2⟩ := HC.out.2.1 i hil
                  have hili : (i : Int) < (ck : Int) + 64 := by omega
                  have HM : Hid (∀ w, Calls Try.prog 20 #[.int .i64 (k : Int), .int .i64 (i : Int)] w fun e w' => e = .returned (.string (ba (markLL k i))) ∧ Keep [] w w') := fun w => markG_any k i w
                  have hgk2 := HK.out.cell' HC.out.2.2.1 (by simp)
                  by_cases hin : i < ck
                  · obtain ⟨g1, rfl, hc1⟩ := HC.out.1 i hin
                    have hini : (i : Int) < (ck : Int) := by omega
                    have HS : Hid (∀ wx, Keep [] w3 wx → wx.cell? ⟨gg, k, none⟩ = some (.slice (some ⟨g2, 0, none⟩) (ck + 64) capg) ∧ wx.cell? ⟨b, k, none⟩ = some (.slice (some ⟨g1, 0, none⟩) ck cap) ∧ wx.cell? ⟨g2, i * 4, none⟩ = some (.int .i64 (-7)) ∧ wx.cell? ⟨g2, i * 4 + 1, none⟩ = some (.string (ba (markLL k i))) ∧ wx.cell? ⟨g2, i * 4 + 2, none⟩ = some (.int .i64 0) ∧ wx.cell? ⟨g2, i * 4 + 3, none⟩ = some (.int .i64 0) ∧ wx.cell? ⟨g1, i * 4, none⟩ = some (.int .i64 (-7)) ∧ wx.cell? ⟨g1, i * 4 + 1, none⟩ = some (.string (ba (markLL k i))) ∧ wx.cell? ⟨g1, i * 4 + 2, none⟩ = some (.int .i64 0) ∧ wx.cell? ⟨g1, i * 4 + 3, none⟩ = some (.int .i64 0) ∧ Keep [] w3 wx) := fun wx kx => ⟨kx.cell' HC.out.2.2.1 (by simp), kx.cell' HC.out.2.2.2 (by simp), (hc2.keep kx (by simp)).c0, (hc2.keep kx (by simp)).c1, (hc2.keep kx (by simp)).c2, (hc2.keep kx (by simp)).c3, (hc1.keep kx (by simp)).c0, (hc1.keep kx (by simp)).c1, (hc1.keep kx (by simp)).c2, (hc1.keep kx (by simp)).c3, kx⟩
                    clear HC hc1 hc2
                    go_wp2
                    refine wp_region_held_drew (S := (fun w' => w'.cell? ⟨gg, k, none⟩ = some (.slice (some ⟨g2, 0, none⟩) (ck + 64) capg) ∧ w'.cell? ⟨b, k, none⟩ = some (.slice (some ⟨g1, 0, none⟩) ck cap) ∧ w'.cell? ⟨g2, i * 4, none⟩ = some (.int .i64 (-7)) ∧ w'.cell? ⟨g2, i * 4 + 1, none⟩ = some (.string (ba (markLL k i))) ∧ w'.cell? ⟨g2, i * 4 + 2, none⟩ = some (.int .i64 0) ∧ w'.cell? ⟨g2, i * 4 + 3, none⟩ = some (.int .i64 0) ∧ w'.cell? ⟨g1, i * 4, none⟩ = some (.int .i64 (-7)) ∧ w'.cell? ⟨g1, i * 4 + 1, none⟩ = some (.string (ba (markLL k i))) ∧ w'.cell? ⟨g1, i * 4 + 2, none⟩ = some (.int .i64 0) ∧ w'.cell? ⟨g1, i * 4 + 3, none⟩ = some (.int .i64 0) ∧ Keep [] w3 w')) (by kernel_rfl) (HS.out _ HK.out.drew) (fun hHeld => ?_)
                    try dsimp only at hHeld
                    refine wpAnyH_take (i := 0) (oi := { dst := some 87, op := Go.Op.move (Go.Operand.tmp 5), type := 38, pos := "apart.go:193", after := #[], guard := none }) (v := ?_) rfl (by kernel_rfl) (by kernel_rfl) (by kernel_rfl) (fun _ _ _ h => h) (Or.inl ⟨by rfl, ?_⟩) (by assumption) ?_
                    rotate_left
                    · intro w7 hSw
                      try dsimp only at hSw
                      first | (go_simp; done) | (go_simp; with_reducible rfl)
                    try simp only [Act.put, List.setIfInBounds_toArray, List.set_cons_zero, List.set_cons_succ]
                    refine wpAnyH_take (i := 1) (oi := { dst := some 88, op := Go.Op.move (Go.Operand.tmp 9), type := 3, pos := "apart.go:193", after := #[], guard := none }) (v := ?_) rfl (by kernel_rfl) (by kernel_rfl) (by kernel_rfl) (fun _ _ _ h => h) (Or.inl ⟨by rfl, ?_⟩) (by assumption) ?_
                    rotate_left
                    · intro w7 hSw
                      try dsimp only at hSw
                      first | (go_simp; done) | (go_simp; with_reducible rfl)
                    try simp only [Act.put, List.setIfInBounds_toArray, List.set_cons_zero, List.set_cons_succ]
                    refine wpAnyH_take (i := 2) (oi := { dst := some 89, op := Go.Op.indexAddr 38 (Go.Operand.tmp 87) (Go.Operand.tmp 88), type := 0, pos := "apart.go:193", after := #[{ on := 0, ground := Go.Ground.data }, { on := 1, ground := Go.Ground.data }], guard := none }) (v := ?_) rfl (by kernel_rfl) (by kernel_rfl) (by kernel_rfl) (fun _ _ _ h => h) (Or.inl ⟨by rfl, ?_⟩) (by assumption) ?_
                    rotate_left
                    · intro w7 hSw
                      try dsimp only at hSw
                      first | (go_simp; done) | (go_simp; with_reducible rfl)
                    try simp only [Act.put, List.setIfInBounds_toArray, List.set_cons_zero, List.set_cons_succ]
                    refine wpAnyH_take (i := 3) (oi := { dst := some 90, op := Go.Op.load 23 (Go.Operand.tmp 89), type := 23, pos := "apart.go:193", after := #[{ on := 2, ground := Go.Ground.data }], guard := none }) (v := ?_) rfl (by kernel_rfl) (by kernel_rfl) (by kernel_rfl) (fun _ _ _ h => h) (Or.inl ⟨by rfl, ?_⟩) (by assumption) ?_
                    rotate_left
                    · intro w7 hSw
                      try dsimp only at hSw
                      first | (go_simp; done) | (go_simp; with_reducible rfl)
                    try simp only [Act.put, List.setIfInBounds_toArray, List.set_cons_zero, List.set_cons_succ]
                    refine wpAnyH_take (i := 4) (oi := { dst := some 91, op := Go.Op.move (Go.Operand.tmp 10), type := 3, pos := "apart.go:193", after := #[], guard := none }) (v := ?_) rfl (by kernel_rfl) (by kernel_rfl) (by kernel_rfl) (fun _ _ _ h => h) (Or.inl ⟨by rfl, ?_⟩) (by assumption) ?_
                    rotate_left
                    · intro w7 hSw
                      try dsimp only at hSw
                      first | (go_simp; done) | (go_simp; with_reducible rfl)
                    try simp only [Act.put, List.setIfInBounds_toArray, List.set_cons_zero, List.set_cons_succ]
                    refine wpAnyH_take (i := 5) (oi := { dst := some 92, op := Go.Op.indexAddr 23 (Go.Operand.tmp 90) (Go.Operand.tmp 91), type := 0, pos := "apart.go:193", after := #[{ on := 3, ground := Go.Ground.data }, { on := 4, ground := Go.Ground.data }], guard := none }) (v := ?_) rfl (by kernel_rfl) (by kernel_rfl) (by kernel_rfl) (fun _ _ _ h => h) (Or.inl ⟨by rfl, ?_⟩) (by assumption) ?_
                    rotate_left
                    · intro w7 hSw
                      try dsimp only at hSw
                      first | (go_simp; done) | (go_simp; with_reducible rfl)
                    try simp only [Act.put, List.setIfInBounds_toArray, List.set_cons_zero, List.set_cons_succ]
                    refine wpAnyH_take (i := 6) (oi := { dst := some 93, op := Go.Op.load 36 (Go.Operand.tmp 92), type := 36, pos := "apart.go:193", after := #[{ on := 5, ground := Go.Ground.data }], guard := none }) (v := ?_) rfl (by kernel_rfl) (by kernel_rfl) (by kernel_rfl) (fun _ _ _ h => h) (Or.inl ⟨by rfl, ?_⟩) (by assumption) ?_
                    rotate_left
                    · intro w7 hSw
                      try dsimp only at hSw
                      first | (go_simp; done) | (go_simp; with_reducible rfl)
                    try simp only [Act.put, List.setIfInBounds_toArray, List.set_cons_zero, List.set_cons_succ]
                    refine wpAnyH_take (i := 7) (oi := { dst := some 94, op := Go.Op.move (Go.Operand.tmp 9), type := 3, pos := "apart.go:193", after := #[], guard := none }) (v := ?_) rfl (by kernel_rfl) (by kernel_rfl) (by kernel_rfl) (fun _ _ _ h => h) (Or.inl ⟨by rfl, ?_⟩) (by assumption) ?_
                    rotate_left
                    · intro w7 hSw
                      try dsimp only at hSw
                      first | (go_simp; done) | (go_simp; with_reducible rfl)
                    try simp only [Act.put, List.setIfInBounds_toArray, List.set_cons_zero, List.set_cons_succ]
                    refine wpAnyH_take (i := 8) (oi := { dst := some 95, op := Go.Op.move (Go.Operand.tmp 10), type := 3, pos := "apart.go:193", after := #[], guard := none }) (v := ?_) rfl (by kernel_rfl) (by kernel_rfl) (by kernel_rfl) (fun _ _ _ h => h) (Or.inl ⟨by rfl, ?_⟩) (by assumption) ?_
                    rotate_left
                    · intro w7 hSw
                      try dsimp only at hSw
                      first | (go_simp; done) | (go_simp; with_reducible rfl)
                    try simp only [Act.put, List.setIfInBounds_toArray, List.set_cons_zero, List.set_cons_succ]
                    refine wpAnyH_ready (rs := [9]) (by kernel_rfl) (by simp) ?_
                    refine AllReadyH.cons (o := { dst := some 96, op := Go.Op.call { callee := Go.Callee.value (Go.Operand.func 20), args := #[Go.Operand.tmp 94, Go.Operand.tmp 95], argTypes := #[3, 3] }, type := 9, pos := "apart.go:193", after := #[{ on := 7, ground := Go.Ground.data }, { on := 8, ground := Go.Ground.data }], guard := none }) rfl (fun K hK => ?_) AllReadyH.nil
                    go_simp
                    (go_at_call 20; refine (HM.out _).mono ?_; rintro e9 w9 ⟨rfl, k9⟩)
                    go_wp2_with fail
                    refine hK.out _ _ (HS.out _ (hHeld.2.2.2.2.2.2.2.2.2.2.trans' k9)) (fun hHeld2 => ?_)
                    try dsimp only at hHeld2
                    clear hK hHeld
                    have hHeld := hHeld2
                    clear hHeld2
                    try simp only [Act.put, List.setIfInBounds_toArray, List.set_cons_zero, List.set_cons_succ]
                    refine wpAnyH_take (i := 10) (oi := { dst := some 97, op := Go.Op.build 36 #[(0, Go.Operand.const (Go.Value.int Go.IntKind.i64 (-7))), (1, Go.Operand.tmp 96)], type := 36, pos := "apart.go:193", after := #[{ on := 9, ground := Go.Ground.data }], guard := none }) (v := ?_) rfl (by kernel_rfl) (by kernel_rfl) (by kernel_rfl) (fun _ _ _ h => h) (Or.inl ⟨by rfl, ?_⟩) (by assumption) ?_
                    rotate_left
                    · intro w7 hSw
                      try dsimp only at hSw
                      first | (go_simp; done) | (go_simp; with_reducible rfl)
                    try simp only [Act.put, List.setIfInBounds_toArray, List.set_cons_zero, List.set_cons_succ]
                    refine wpAnyH_take (i := 11) (oi := { dst := some 98, op := Go.Op.binOp Go.BinOp.eql 36 (Go.Operand.tmp 93) (Go.Operand.tmp 97) 36, type := 4, pos := "apart.go:193", after := #[{ on := 6, ground := Go.Ground.data }, { on := 10, ground := Go.Ground.data }], guard := none }) (v := ?_) rfl (by kernel_rfl) (by kernel_rfl) (by kernel_rfl) (fun _ _ _ h => h) (Or.inl ⟨by rfl, ?_⟩) (by assumption) ?_
                    rotate_left
                    · intro w7 hSw
                      try dsimp only at hSw
                      first | (go_simp; done) | (go_simp; with_reducible rfl)
                    try simp only [Act.put, List.setIfInBounds_toArray, List.set_cons_zero, List.set_cons_succ]
                    refine wpAnyH_take (i := 12) (oi := { dst := some 99, op := Go.Op.unOp Go.UnOp.not 4 (Go.Operand.tmp 98), type := 4, pos := "apart.go:193", after := #[{ on := 11, ground := Go.Ground.data }], guard := none }) (v := ?_) rfl (by kernel_rfl) (by kernel_rfl) (by kernel_rfl) (fun _ _ _ h => h) (Or.inl ⟨by rfl, ?_⟩) (by assumption) ?_
                    rotate_left
                    · intro w7 hSw
                      try dsimp only at hSw
                      first | (go_simp; done) | (go_simp; with_reducible rfl)
                    try simp only [Act.put, List.setIfInBounds_toArray, List.set_cons_zero, List.set_cons_succ]
                    refine wpAnyH_take (i := 13) (oi := { dst := some 100, op := Go.Op.move (Go.Operand.tmp 99), type := 4, pos := "apart.go:193", after := #[{ on := 12, ground := Go.Ground.data }, { on := 9, ground := Go.Ground.chain }], guard := none }) (v := ?_) rfl (by kernel_rfl) (by kernel_rfl) (by kernel_rfl) (fun _ _ _ h => h) (Or.inl ⟨by rfl, ?_⟩) (by assumption) ?_
                    rotate_left
                    · intro w7 hSw
                      try dsimp only at hSw
                      first | (go_simp; done) | (go_simp; with_reducible rfl)
                    try simp only [Act.put, List.setIfInBounds_toArray, List.set_cons_zero, List.set_cons_succ]
                    refine wpAnyH_take (i := 14) (oi := { dst := some 101, op := Go.Op.move (Go.Operand.tmp 10), type := 3, pos := "apart.go:193", after := #[{ on := 13, ground := Go.Ground.guard }], guard := some (13, false) }) (v := ?_) rfl (by kernel_rfl) (by kernel_rfl) (by kernel_rfl) (fun _ _ _ h => h) (Or.inl ⟨by rfl, ?_⟩) (by assumption) ?_
                    rotate_left
                    · intro w7 hSw
                      try dsimp only at hSw
                      first | (go_simp; done) | (go_simp; with_reducible rfl)
                    try simp only [Act.put, List.setIfInBounds_toArray, List.set_cons_zero, List.set_cons_succ]
                    refine wpAnyH_take (i := 15) (oi := { dst := some 102, op := Go.Op.move (Go.Operand.tmp 0), type := 38, pos := "apart.go:193", after := #[{ on := 13, ground := Go.Ground.guard }], guard := some (13, false) }) (v := ?_) rfl (by kernel_rfl) (by kernel_rfl) (by kernel_rfl) (fun _ _ _ h => h) (Or.inl ⟨by rfl, ?_⟩) (by assumption) ?_
                    rotate_left
                    · intro w7 hSw
                      try dsimp only at hSw
                      first | (go_simp; done) | (go_simp; with_reducible rfl)
                    try simp only [Act.put, List.setIfInBounds_toArray, List.set_cons_zero, List.set_cons_succ]
                    refine wpAnyH_take (i := 16) (oi := { dst := some 103, op := Go.Op.move (Go.Operand.tmp 9), type := 3, pos := "apart.go:193", after := #[{ on := 13, ground := Go.Ground.guard }], guard := some (13, false) }) (v := ?_) rfl (by kernel_rfl) (by kernel_rfl) (by kernel_rfl) (fun _ _ _ h => h) (Or.inl ⟨by rfl, ?_⟩) (by assumption) ?_
                    rotate_left
                    · intro w7 hSw
                      try dsimp only at hSw
                      first | (go_simp; done) | (go_simp; with_reducible rfl)
                    try simp only [Act.put, List.setIfInBounds_toArray, List.set_cons_zero, List.set_cons_succ]
                    refine wpAnyH_take (i := 17) (oi := { dst := some 104, op := Go.Op.indexAddr 38 (Go.Operand.tmp 102) (Go.Operand.tmp 103), type := 0, pos := "apart.go:193", after := #[{ on := 15, ground := Go.Ground.data }, { on := 16, ground := Go.Ground.data }, { on := 13, ground := Go.Ground.guard }], guard := some (13, false) }) (v := ?_) rfl (by kernel_rfl) (by kernel_rfl) (by kernel_rfl) (fun _ _ _ h => h) (Or.inl ⟨by rfl, ?_⟩) (by assumption) ?_
                    rotate_left
                    · intro w7 hSw
                      try dsimp only at hSw
                      first | (go_simp; done) | (go_simp; with_reducible rfl)
                    try simp only [Act.put, List.setIfInBounds_toArray, List.set_cons_zero, List.set_cons_succ]
                    refine wpAnyH_take (i := 18) (oi := { dst := some 105, op := Go.Op.load 23 (Go.Operand.tmp 104), type := 23, pos := "apart.go:193", after := #[{ on := 17, ground := Go.Ground.data }, { on := 13, ground := Go.Ground.guard }], guard := some (13, false) }) (v := ?_) rfl (by kernel_rfl) (by kernel_rfl) (by kernel_rfl) (fun _ _ _ h => h) (Or.inl ⟨by rfl, ?_⟩) (by assumption) ?_
                    rotate_left
                    · intro w7 hSw
                      try dsimp only at hSw
                      first | (go_simp; done) | (go_simp; with_reducible rfl)
                    try simp only [Act.put, List.setIfInBounds_toArray, List.set_cons_zero, List.set_cons_succ]
                    refine wpAnyH_take (i := 19) (oi := { dst := some 106, op := Go.Op.call { callee := Go.Callee.builtin Go.Builtin.len, args := #[Go.Operand.tmp 105], argTypes := #[23] }, type := 3, pos := "apart.go:193", after := #[{ on := 18, ground := Go.Ground.data }, { on := 13, ground := Go.Ground.guard }], guard := some (13, false) }) (v := ?_) rfl (by kernel_rfl) (by kernel_rfl) (by kernel_rfl) (fun _ _ _ h => h) (Or.inl ⟨by rfl, ?_⟩) (by assumption) ?_
                    rotate_left
                    · intro w7 hSw
                      try dsimp only at hSw
                      first | (go_simp; done) | (go_simp; with_reducible rfl)
                    try simp only [Act.put, List.setIfInBounds_toArray, List.set_cons_zero, List.set_cons_succ]
                    refine wpAnyH_take (i := 20) (oi := { dst := some 107, op := Go.Op.binOp Go.BinOp.lss 3 (Go.Operand.tmp 101) (Go.Operand.tmp 106) 3, type := 4, pos := "apart.go:193", after := #[{ on := 14, ground := Go.Ground.data }, { on := 19, ground := Go.Ground.data }, { on := 13, ground := Go.Ground.guard }], guard := some (13, false) }) (v := ?_) rfl (by kernel_rfl) (by kernel_rfl) (by kernel_rfl) (fun _ _ _ h => h) (Or.inl ⟨by rfl, ?_⟩) (by assumption) ?_
                    rotate_left
                    · intro w7 hSw
                      try dsimp only at hSw
                      first | (go_simp; done) | (go_simp; with_reducible rfl)
                    try simp only [Act.put, List.setIfInBounds_toArray, List.set_cons_zero, List.set_cons_succ]
                    refine wpAnyH_take (i := 21) (oi := { dst := some 108, op := Go.Op.move (Go.Operand.tmp 107), type := 4, pos := "apart.go:193", after := #[{ on := 20, ground := Go.Ground.data }, { on := 13, ground := Go.Ground.chain }, { on := 13, ground := Go.Ground.guard }], guard := some (13, false) }) (v := ?_) rfl (by kernel_rfl) (by kernel_rfl) (by kernel_rfl) (fun _ _ _ h => h) (Or.inl ⟨by rfl, ?_⟩) (by assumption) ?_
                    rotate_left
                    · intro w7 hSw
                      try dsimp only at hSw
                      first | (go_simp; done) | (go_simp; with_reducible rfl)
                    try simp only [Act.put, List.setIfInBounds_toArray, List.set_cons_zero, List.set_cons_succ]
                    refine wpAnyH_take (i := 22) (oi := { dst := some 109, op := Go.Op.move (Go.Operand.tmp 0), type := 38, pos := "apart.go:193", after := #[{ on := 21, ground := Go.Ground.guard }], guard := some (21, true) }) (v := ?_) rfl (by kernel_rfl) (by kernel_rfl) (by kernel_rfl) (fun _ _ _ h => h) (Or.inl ⟨by rfl, ?_⟩) (by assumption) ?_
                    rotate_left
                    · intro w7 hSw
                      try dsimp only at hSw
                      first | (go_simp; done) | (go_simp; with_reducible rfl)
                    try simp only [Act.put, List.setIfInBounds_toArray, List.set_cons_zero, List.set_cons_succ]
                    refine wpAnyH_take (i := 23) (oi := { dst := some 110, op := Go.Op.move (Go.Operand.tmp 9), type := 3, pos := "apart.go:193", after := #[{ on := 21, ground := Go.Ground.guard }], guard := some (21, true) }) (v := ?_) rfl (by kernel_rfl) (by kernel_rfl) (by kernel_rfl) (fun _ _ _ h => h) (Or.inl ⟨by rfl, ?_⟩) (by assumption) ?_
                    rotate_left
                    · intro w7 hSw
                      try dsimp only at hSw
                      first | (go_simp; done) | (go_simp; with_reducible rfl)
                    try simp only [Act.put, List.setIfInBounds_toArray, List.set_cons_zero, List.set_cons_succ]
                    refine wpAnyH_take (i := 24) (oi := { dst := some 111, op := Go.Op.indexAddr 38 (Go.Operand.tmp 109) (Go.Operand.tmp 110), type := 0, pos := "apart.go:193", after := #[{ on := 22, ground := Go.Ground.data }, { on := 23, ground := Go.Ground.data }, { on := 21, ground := Go.Ground.guard }], guard := some (21, true) }) (v := ?_) rfl (by kernel_rfl) (by kernel_rfl) (by kernel_rfl) (fun _ _ _ h => h) (Or.inl ⟨by rfl, ?_⟩) (by assumption) ?_
                    rotate_left
                    · intro w7 hSw
                      try dsimp only at hSw
                      first | (go_simp; done) | (go_simp; with_reducible rfl)
                    try simp only [Act.put, List.setIfInBounds_toArray, List.set_cons_zero, List.set_cons_succ]
                    refine wpAnyH_take (i := 25) (oi := { dst := some 112, op := Go.Op.load 23 (Go.Operand.tmp 111), type := 23, pos := "apart.go:193", after := #[{ on := 24, ground := Go.Ground.data }, { on := 21, ground := Go.Ground.guard }], guard := some (21, true) }) (v := ?_) rfl (by kernel_rfl) (by kernel_rfl) (by kernel_rfl) (fun _ _ _ h => h) (Or.inl ⟨by rfl, ?_⟩) (by assumption) ?_
                    rotate_left
                    · intro w7 hSw
                      try dsimp only at hSw
                      first | (go_simp; done) | (go_simp; with_reducible rfl)
                    try simp only [Act.put, List.setIfInBounds_toArray, List.set_cons_zero, List.set_cons_succ]
                    refine wpAnyH_take (i := 26) (oi := { dst := some 113, op := Go.Op.move (Go.Operand.tmp 10), type := 3, pos := "apart.go:193", after := #[{ on := 21, ground := Go.Ground.guard }], guard := some (21, true) }) (v := ?_) rfl (by kernel_rfl) (by kernel_rfl) (by kernel_rfl) (fun _ _ _ h => h) (Or.inl ⟨by rfl, ?_⟩) (by assumption) ?_
                    rotate_left
                    · intro w7 hSw
                      try dsimp only at hSw
                      first | (go_simp; done) | (go_simp; with_reducible rfl)
                    try simp only [Act.put, List.setIfInBounds_toArray, List.set_cons_zero, List.set_cons_succ]
                    refine wpAnyH_take (i := 27) (oi := { dst := some 114, op := Go.Op.indexAddr 23 (Go.Operand.tmp 112) (Go.Operand.tmp 113), type := 0, pos := "apart.go:193", after := #[{ on := 25, ground := Go.Ground.data }, { on := 26, ground := Go.Ground.data }, { on := 21, ground := Go.Ground.guard }], guard := some (21, true) }) (v := ?_) rfl (by kernel_rfl) (by kernel_rfl) (by kernel_rfl) (fun _ _ _ h => h) (Or.inl ⟨by rfl, ?_⟩) (by assumption) ?_
                    rotate_left
                    · intro w7 hSw
                      try dsimp only at hSw
                      first | (go_simp; done) | (go_simp; with_reducible rfl)
                    try simp only [Act.put, List.setIfInBounds_toArray, List.set_cons_zero, List.set_cons_succ]
                    refine wpAnyH_take (i := 28) (oi := { dst := some 115, op := Go.Op.load 36 (Go.Operand.tmp 114), type := 36, pos := "apart.go:193", after := #[{ on := 27, ground := Go.Ground.data }, { on := 21, ground := Go.Ground.guard }], guard := some (21, true) }) (v := ?_) rfl (by kernel_rfl) (by kernel_rfl) (by kernel_rfl) (fun _ _ _ h => h) (Or.inl ⟨by rfl, ?_⟩) (by assumption) ?_
                    rotate_left
                    · intro w7 hSw
                      try dsimp only at hSw
                      first | (go_simp; done) | (go_simp; with_reducible rfl)
                    try simp only [Act.put, List.setIfInBounds_toArray, List.set_cons_zero, List.set_cons_succ]
                    refine wpAnyH_take (i := 29) (oi := { dst := some 116, op := Go.Op.move (Go.Operand.tmp 9), type := 3, pos := "apart.go:193", after := #[{ on := 21, ground := Go.Ground.guard }], guard := some (21, true) }) (v := ?_) rfl (by kernel_rfl) (by kernel_rfl) (by kernel_rfl) (fun _ _ _ h => h) (Or.inl ⟨by rfl, ?_⟩) (by assumption) ?_
                    rotate_left
                    · intro w7 hSw
                      try dsimp only at hSw
                      first | (go_simp; done) | (go_simp; with_reducible rfl)
                    try simp only [Act.put, List.setIfInBounds_toArray, List.set_cons_zero, List.set_cons_succ]
                    refine wpAnyH_take (i := 30) (oi := { dst := some 117, op := Go.Op.move (Go.Operand.tmp 10), type := 3, pos := "apart.go:193", after := #[{ on := 21, ground := Go.Ground.guard }], guard := some (21, true) }) (v := ?_) rfl (by kernel_rfl) (by kernel_rfl) (by kernel_rfl) (fun _ _ _ h => h) (Or.inl ⟨by rfl, ?_⟩) (by assumption) ?_
                    rotate_left
                    · intro w7 hSw
                      try dsimp only at hSw
                      first | (go_simp; done) | (go_simp; with_reducible rfl)
                    try simp only [Act.put, List.setIfInBounds_toArray, List.set_cons_zero, List.set_cons_succ]
                    refine wpAnyH_ready (rs := [31]) (by kernel_rfl) (by simp) ?_
                    refine AllReadyH.cons (o := { dst := some 118, op := Go.Op.call { callee := Go.Callee.value (Go.Operand.func 20), args := #[Go.Operand.tmp 116, Go.Operand.tmp 117], argTypes := #[3, 3] }, type := 9, pos := "apart.go:193", after := #[{ on := 29, ground := Go.Ground.data }, { on := 30, ground := Go.Ground.data }, { on := 21, ground := Go.Ground.chain }, { on := 21, ground := Go.Ground.guard }], guard := some (21, true) }) rfl (fun K hK => ?_) AllReadyH.nil
                    go_simp
                    (go_at_call 20; refine (HM.out _).mono ?_; rintro e9 w9 ⟨rfl, k9⟩)
                    go_wp2_with fail
                    refine hK.out _ _ (HS.out _ (hHeld.2.2.2.2.2.2.2.2.2.2.trans' k9)) (fun hHeld2 => ?_)
                    try dsimp only at hHeld2
                    clear hK hHeld
                    have hHeld := hHeld2
                    clear hHeld2
                    try simp only [Act.put, List.setIfInBounds_toArray, List.set_cons_zero, List.set_cons_succ]
                    refine wpAnyH_take (i := 32) (oi := { dst := some 119, op := Go.Op.build 36 #[(0, Go.Operand.const (Go.Value.int Go.IntKind.i64 (-7))), (1, Go.Operand.tmp 118)], type := 36, pos := "apart.go:193", after := #[{ on := 31, ground := Go.Ground.data }, { on := 21, ground := Go.Ground.guard }], guard := some (21, true) }) (v := ?_) rfl (by kernel_rfl) (by kernel_rfl) (by kernel_rfl) (fun _ _ _ h => h) (Or.inl ⟨by rfl, ?_⟩) (by assumption) ?_
                    rotate_left
                    · intro w7 hSw
                      try dsimp only at hSw
                      first | (go_simp; done) | (go_simp; with_reducible rfl)
                    try simp only [Act.put, List.setIfInBounds_toArray, List.set_cons_zero, List.set_cons_succ]
                    refine wpAnyH_take (i := 33) (oi := { dst := some 120, op := Go.Op.binOp Go.BinOp.eql 36 (Go.Operand.tmp 115) (Go.Operand.tmp 119) 36, type := 4, pos := "apart.go:193", after := #[{ on := 28, ground := Go.Ground.data }, { on := 32, ground := Go.Ground.data }, { on := 21, ground := Go.Ground.guard }], guard := some (21, true) }) (v := ?_) rfl (by kernel_rfl) (by kernel_rfl) (by kernel_rfl) (fun _ _ _ h => h) (Or.inl ⟨by rfl, ?_⟩) (by assumption) ?_
                    rotate_left
                    · intro w7 hSw
                      try dsimp only at hSw
                      first | (go_simp; done) | (go_simp; with_reducible rfl)
                    try simp only [Act.put, List.setIfInBounds_toArray, List.set_cons_zero, List.set_cons_succ]
                    refine wpAnyH_take (i := 34) (oi := { dst := some 121, op := Go.Op.unOp Go.UnOp.not 4 (Go.Operand.tmp 120), type := 4, pos := "apart.go:193", after := #[{ on := 33, ground := Go.Ground.data }, { on := 21, ground := Go.Ground.guard }], guard := some (21, true) }) (v := ?_) rfl (by kernel_rfl) (by kernel_rfl) (by kernel_rfl) (fun _ _ _ h => h) (Or.inl ⟨by rfl, ?_⟩) (by assumption) ?_
                    rotate_left
                    · intro w7 hSw
                      try dsimp only at hSw
                      first | (go_simp; done) | (go_simp; with_reducible rfl)
                    try simp only [Act.put, List.setIfInBounds_toArray, List.set_cons_zero, List.set_cons_succ]
                    refine wpAnyH_take (i := 35) (oi := { dst := some 122, op := Go.Op.pick (Go.Operand.tmp 108) (Go.Operand.tmp 121) (Go.Operand.const (Go.Value.bool false)), type := 4, pos := "apart.go:193", after := #[{ on := 21, ground := Go.Ground.data }, { on := 34, ground := Go.Ground.data }, { on := 13, ground := Go.Ground.guard }], guard := some (13, false) }) (v := ?_) rfl (by kernel_rfl) (by kernel_rfl) (by kernel_rfl) (fun _ _ _ h => h) (Or.inl ⟨by rfl, ?_⟩) (by assumption) ?_
                    rotate_left
                    · intro w7 hSw
                      try dsimp only at hSw
                      first | (go_simp; done) | (go_simp; with_reducible rfl)
                    try simp only [Act.put, List.setIfInBounds_toArray, List.set_cons_zero, List.set_cons_succ]
                    refine wpAnyH_take (i := 36) (oi := { dst := some 123, op := Go.Op.pick (Go.Operand.tmp 100) (Go.Operand.const (Go.Value.bool true)) (Go.Operand.tmp 122), type := 4, pos := "apart.go:193", after := #[{ on := 13, ground := Go.Ground.data }, { on := 35, ground := Go.Ground.data }], guard := none }) (v := ?_) rfl (by kernel_rfl) (by kernel_rfl) (by kernel_rfl) (fun _ _ _ h => h) (Or.inl ⟨by rfl, ?_⟩) (by assumption) ?_
                    rotate_left
                    · intro w7 hSw
                      try dsimp only at hSw
                      first | (go_simp; done) | (go_simp; with_reducible rfl)
                    try simp only [Act.put, List.setIfInBounds_toArray, List.set_cons_zero, List.set_cons_succ]
                    refine wpAnyH_done (by kernel_rfl) ?_ _
                    have HZ : Hid (Keep [] w3 _) := hHeld.2.2.2.2.2.2.2.2.2.2
                    clear hHeld
                    go_wp2
                    go_roundw
                    case rel => exact ⟨i + 1, by go_num, by omega, HZ⟩
                    case measure => simp [intOf]; omega
                  · have hini : ¬ (i : Int) < (ck : Int) := by omega
                    have hind : decide (i < ck) = false := by simp; omega
                    have HS : Hid (∀ wx, Keep [] w3 wx → wx.cell? ⟨gg, k, none⟩ = some (.slice (some ⟨g2, 0, none⟩) (ck + 64) capg) ∧ wx.cell? ⟨b, k, none⟩ = some (.slice ao ck cap) ∧ wx.cell? ⟨g2, i * 4, none⟩ = some (.int .i64 (-7)) ∧ wx.cell? ⟨g2, i * 4 + 1, none⟩ = some (.string (ba (markLL k i))) ∧ wx.cell? ⟨g2, i * 4 + 2, none⟩ = some (.int .i64 0) ∧ wx.cell? ⟨g2, i * 4 + 3, none⟩ = some (.int .i64 0) ∧ Keep [] w3 wx) := fun wx kx => ⟨kx.cell' HC.out.2.2.1 (by simp), kx.cell' HC.out.2.2.2 (by simp), (hc2.keep kx (by simp)).c0, (hc2.keep kx (by simp)).c1, (hc2.keep kx (by simp)).c2, (hc2.keep kx (by simp)).c3, kx⟩
                    clear HC hc2
                    go_wp2
                    refine wp_region_held_drew (S := (fun w' => w'.cell? ⟨gg, k, none⟩ = some (.slice (some ⟨g2, 0, none⟩) (ck + 64) capg) ∧ w'.cell? ⟨b, k, none⟩ = some (.slice ao ck cap) ∧ w'.cell? ⟨g2, i * 4, none⟩ = some (.int .i64 (-7)) ∧ w'.cell? ⟨g2, i * 4 + 1, none⟩ = some (.string (ba (markLL k i))) ∧ w'.cell? ⟨g2, i * 4 + 2, none⟩ = some (.int .i64 0) ∧ w'.cell? ⟨g2, i * 4 + 3, none⟩ = some (.int .i64 0) ∧ Keep [] w3 w')) (by kernel_rfl) (HS.out _ HK.out.drew) (fun hHeld => ?_)
                    try dsimp only at hHeld
                    refine wpAnyH_take (i := 0) (oi := { dst := some 87, op := Go.Op.move (Go.Operand.tmp 5), type := 38, pos := "apart.go:193", after := #[], guard := none }) (v := ?_) rfl (by kernel_rfl) (by kernel_rfl) (by kernel_rfl) (fun _ _ _ h => h) (Or.inl ⟨by rfl, ?_⟩) (by assumption) ?_
                    rotate_left
                    · intro w7 hSw
                      try dsimp only at hSw
                      first | (go_simp; done) | (go_simp; with_reducible rfl)
                    try simp only [Act.put, List.setIfInBounds_toArray, List.set_cons_zero, List.set_cons_succ]
                    refine wpAnyH_take (i := 1) (oi := { dst := some 88, op := Go.Op.move (Go.Operand.tmp 9), type := 3, pos := "apart.go:193", after := #[], guard := none }) (v := ?_) rfl (by kernel_rfl) (by kernel_rfl) (by kernel_rfl) (fun _ _ _ h => h) (Or.inl ⟨by rfl, ?_⟩) (by assumption) ?_
                    rotate_left
                    · intro w7 hSw
                      try dsimp only at hSw
                      first | (go_simp; done) | (go_simp; with_reducible rfl)
                    try simp only [Act.put, List.setIfInBounds_toArray, List.set_cons_zero, List.set_cons_succ]
                    refine wpAnyH_take (i := 2) (oi := { dst := some 89, op := Go.Op.indexAddr 38 (Go.Operand.tmp 87) (Go.Operand.tmp 88), type := 0, pos := "apart.go:193", after := #[{ on := 0, ground := Go.Ground.data }, { on := 1, ground := Go.Ground.data }], guard := none }) (v := ?_) rfl (by kernel_rfl) (by kernel_rfl) (by kernel_rfl) (fun _ _ _ h => h) (Or.inl ⟨by rfl, ?_⟩) (by assumption) ?_
                    rotate_left
                    · intro w7 hSw
                      try dsimp only at hSw
                      first | (go_simp; done) | (go_simp; with_reducible rfl)
                    try simp only [Act.put, List.setIfInBounds_toArray, List.set_cons_zero, List.set_cons_succ]
                    refine wpAnyH_take (i := 3) (oi := { dst := some 90, op := Go.Op.load 23 (Go.Operand.tmp 89), type := 23, pos := "apart.go:193", after := #[{ on := 2, ground := Go.Ground.data }], guard := none }) (v := ?_) rfl (by kernel_rfl) (by kernel_rfl) (by kernel_rfl) (fun _ _ _ h => h) (Or.inl ⟨by rfl, ?_⟩) (by assumption) ?_
                    rotate_left
                    · intro w7 hSw
                      try dsimp only at hSw
                      first | (go_simp; done) | (go_simp; with_reducible rfl)
                    try simp only [Act.put, List.setIfInBounds_toArray, List.set_cons_zero, List.set_cons_succ]
                    refine wpAnyH_take (i := 4) (oi := { dst := some 91, op := Go.Op.move (Go.Operand.tmp 10), type := 3, pos := "apart.go:193", after := #[], guard := none }) (v := ?_) rfl (by kernel_rfl) (by kernel_rfl) (by kernel_rfl) (fun _ _ _ h => h) (Or.inl ⟨by rfl, ?_⟩) (by assumption) ?_
                    rotate_left
                    · intro w7 hSw
                      try dsimp only at hSw
                      first | (go_simp; done) | (go_simp; with_reducible rfl)
                    try simp only [Act.put, List.setIfInBounds_toArray, List.set_cons_zero, List.set_cons_succ]
                    refine wpAnyH_take (i := 5) (oi := { dst := some 92, op := Go.Op.indexAddr 23 (Go.Operand.tmp 90) (Go.Operand.tmp 91), type := 0, pos := "apart.go:193", after := #[{ on := 3, ground := Go.Ground.data }, { on := 4, ground := Go.Ground.data }], guard := none }) (v := ?_) rfl (by kernel_rfl) (by kernel_rfl) (by kernel_rfl) (fun _ _ _ h => h) (Or.inl ⟨by rfl, ?_⟩) (by assumption) ?_
                    rotate_left
                    · intro w7 hSw
                      try dsimp only at hSw
                      first | (go_simp; done) | (go_simp; with_reducible rfl)
                    try simp only [Act.put, List.setIfInBounds_toArray, List.set_cons_zero, List.set_cons_succ]
                    refine wpAnyH_take (i := 6) (oi := { dst := some 93, op := Go.Op.load 36 (Go.Operand.tmp 92), type := 36, pos := "apart.go:193", after := #[{ on := 5, ground := Go.Ground.data }], guard := none }) (v := ?_) rfl (by kernel_rfl) (by kernel_rfl) (by kernel_rfl) (fun _ _ _ h => h) (Or.inl ⟨by rfl, ?_⟩) (by assumption) ?_
                    rotate_left
                    · intro w7 hSw
                      try dsimp only at hSw
                      first | (go_simp; done) | (go_simp; with_reducible rfl)
                    try simp only [Act.put, List.setIfInBounds_toArray, List.set_cons_zero, List.set_cons_succ]
                    refine wpAnyH_take (i := 7) (oi := { dst := some 94, op := Go.Op.move (Go.Operand.tmp 9), type := 3, pos := "apart.go:193", after := #[], guard := none }) (v := ?_) rfl (by kernel_rfl) (by kernel_rfl) (by kernel_rfl) (fun _ _ _ h => h) (Or.inl ⟨by rfl, ?_⟩) (by assumption) ?_
                    rotate_left
                    · intro w7 hSw
                      try dsimp only at hSw
                      first | (go_simp; done) | (go_simp; with_reducible rfl)
                    try simp only [Act.put, List.setIfInBounds_toArray, List.set_cons_zero, List.set_cons_succ]
                    refine wpAnyH_take (i := 8) (oi := { dst := some 95, op := Go.Op.move (Go.Operand.tmp 10), type := 3, pos := "apart.go:193", after := #[], guard := none }) (v := ?_) rfl (by kernel_rfl) (by kernel_rfl) (by kernel_rfl) (fun _ _ _ h => h) (Or.inl ⟨by rfl, ?_⟩) (by assumption) ?_
                    rotate_left
                    · intro w7 hSw
                      try dsimp only at hSw
                      first | (go_simp; done) | (go_simp; with_reducible rfl)
                    try simp only [Act.put, List.setIfInBounds_toArray, List.set_cons_zero, List.set_cons_succ]
                    refine wpAnyH_ready (rs := [9]) (by kernel_rfl) (by simp) ?_
                    refine AllReadyH.cons (o := { dst := some 96, op := Go.Op.call { callee := Go.Callee.value (Go.Operand.func 20), args := #[Go.Operand.tmp 94, Go.Operand.tmp 95], argTypes := #[3, 3] }, type := 9, pos := "apart.go:193", after := #[{ on := 7, ground := Go.Ground.data }, { on := 8, ground := Go.Ground.data }], guard := none }) rfl (fun K hK => ?_) AllReadyH.nil
                    go_simp
                    (go_at_call 20; refine (HM.out _).mono ?_; rintro e9 w9 ⟨rfl, k9⟩)
                    go_wp2_with fail
                    refine hK.out _ _ (HS.out _ (hHeld.2.2.2.2.2.2.trans' k9)) (fun hHeld2 => ?_)
                    try dsimp only at hHeld2
                    clear hK hHeld
                    have hHeld := hHeld2
                    clear hHeld2
                    try simp only [Act.put, List.setIfInBounds_toArray, List.set_cons_zero, List.set_cons_succ]
                    refine wpAnyH_take (i := 10) (oi := { dst := some 97, op := Go.Op.build 36 #[(0, Go.Operand.const (Go.Value.int Go.IntKind.i64 (-7))), (1, Go.Operand.tmp 96)], type := 36, pos := "apart.go:193", after := #[{ on := 9, ground := Go.Ground.data }], guard := none }) (v := ?_) rfl (by kernel_rfl) (by kernel_rfl) (by kernel_rfl) (fun _ _ _ h => h) (Or.inl ⟨by rfl, ?_⟩) (by assumption) ?_
                    rotate_left
                    · intro w7 hSw
                      try dsimp only at hSw
                      first | (go_simp; done) | (go_simp; with_reducible rfl)
                    try simp only [Act.put, List.setIfInBounds_toArray, List.set_cons_zero, List.set_cons_succ]
                    refine wpAnyH_take (i := 11) (oi := { dst := some 98, op := Go.Op.binOp Go.BinOp.eql 36 (Go.Operand.tmp 93) (Go.Operand.tmp 97) 36, type := 4, pos := "apart.go:193", after := #[{ on := 6, ground := Go.Ground.data }, { on := 10, ground := Go.Ground.data }], guard := none }) (v := ?_) rfl (by kernel_rfl) (by kernel_rfl) (by kernel_rfl) (fun _ _ _ h => h) (Or.inl ⟨by rfl, ?_⟩) (by assumption) ?_
                    rotate_left
                    · intro w7 hSw
                      try dsimp only at hSw
                      first | (go_simp; done) | (go_simp; with_reducible rfl)
                    try simp only [Act.put, List.setIfInBounds_toArray, List.set_cons_zero, List.set_cons_succ]
                    refine wpAnyH_take (i := 12) (oi := { dst := some 99, op := Go.Op.unOp Go.UnOp.not 4 (Go.Operand.tmp 98), type := 4, pos := "apart.go:193", after := #[{ on := 11, ground := Go.Ground.data }], guard := none }) (v := ?_) rfl (by kernel_rfl) (by kernel_rfl) (by kernel_rfl) (fun _ _ _ h => h) (Or.inl ⟨by rfl, ?_⟩) (by assumption) ?_
                    rotate_left
                    · intro w7 hSw
                      try dsimp only at hSw
                      first | (go_simp; done) | (go_simp; with_reducible rfl)
                    try simp only [Act.put, List.setIfInBounds_toArray, List.set_cons_zero, List.set_cons_succ]
                    refine wpAnyH_take (i := 13) (oi := { dst := some 100, op := Go.Op.move (Go.Operand.tmp 99), type := 4, pos := "apart.go:193", after := #[{ on := 12, ground := Go.Ground.data }, { on := 9, ground := Go.Ground.chain }], guard := none }) (v := ?_) rfl (by kernel_rfl) (by kernel_rfl) (by kernel_rfl) (fun _ _ _ h => h) (Or.inl ⟨by rfl, ?_⟩) (by assumption) ?_
                    rotate_left
                    · intro w7 hSw
                      try dsimp only at hSw
                      first | (go_simp; done) | (go_simp; with_reducible rfl)
                    try simp only [Act.put, List.setIfInBounds_toArray, List.set_cons_zero, List.set_cons_succ]
                    refine wpAnyH_take (i := 14) (oi := { dst := some 101, op := Go.Op.move (Go.Operand.tmp 10), type := 3, pos := "apart.go:193", after := #[{ on := 13, ground := Go.Ground.guard }], guard := some (13, false) }) (v := ?_) rfl (by kernel_rfl) (by kernel_rfl) (by kernel_rfl) (fun _ _ _ h => h) (Or.inl ⟨by rfl, ?_⟩) (by assumption) ?_
                    rotate_left
                    · intro w7 hSw
                      try dsimp only at hSw
                      first | (go_simp; done) | (go_simp; with_reducible rfl)
                    try simp only [Act.put, List.setIfInBounds_toArray, List.set_cons_zero, List.set_cons_succ]
                    refine wpAnyH_take (i := 15) (oi := { dst := some 102, op := Go.Op.move (Go.Operand.tmp 0), type := 38, pos := "apart.go:193", after := #[{ on := 13, ground := Go.Ground.guard }], guard := some (13, false) }) (v := ?_) rfl (by kernel_rfl) (by kernel_rfl) (by kernel_rfl) (fun _ _ _ h => h) (Or.inl ⟨by rfl, ?_⟩) (by assumption) ?_
                    rotate_left
                    · intro w7 hSw
                      try dsimp only at hSw
                      first | (go_simp; done) | (go_simp; with_reducible rfl)
                    try simp only [Act.put, List.setIfInBounds_toArray, List.set_cons_zero, List.set_cons_succ]
                    refine wpAnyH_take (i := 16) (oi := { dst := some 103, op := Go.Op.move (Go.Operand.tmp 9), type := 3, pos := "apart.go:193", after := #[{ on := 13, ground := Go.Ground.guard }], guard := some (13, false) }) (v := ?_) rfl (by kernel_rfl) (by kernel_rfl) (by kernel_rfl) (fun _ _ _ h => h) (Or.inl ⟨by rfl, ?_⟩) (by assumption) ?_
                    rotate_left
                    · intro w7 hSw
                      try dsimp only at hSw
                      first | (go_simp; done) | (go_simp; with_reducible rfl)
                    try simp only [Act.put, List.setIfInBounds_toArray, List.set_cons_zero, List.set_cons_succ]
                    refine wpAnyH_take (i := 17) (oi := { dst := some 104, op := Go.Op.indexAddr 38 (Go.Operand.tmp 102) (Go.Operand.tmp 103), type := 0, pos := "apart.go:193", after := #[{ on := 15, ground := Go.Ground.data }, { on := 16, ground := Go.Ground.data }, { on := 13, ground := Go.Ground.guard }], guard := some (13, false) }) (v := ?_) rfl (by kernel_rfl) (by kernel_rfl) (by kernel_rfl) (fun _ _ _ h => h) (Or.inl ⟨by rfl, ?_⟩) (by assumption) ?_
                    rotate_left
                    · intro w7 hSw
                      try dsimp only at hSw
                      first | (go_simp; done) | (go_simp; with_reducible rfl)
                    try simp only [Act.put, List.setIfInBounds_toArray, List.set_cons_zero, List.set_cons_succ]
                    refine wpAnyH_take (i := 18) (oi := { dst := some 105, op := Go.Op.load 23 (Go.Operand.tmp 104), type := 23, pos := "apart.go:193", after := #[{ on := 17, ground := Go.Ground.data }, { on := 13, ground := Go.Ground.guard }], guard := some (13, false) }) (v := ?_) rfl (by kernel_rfl) (by kernel_rfl) (by kernel_rfl) (fun _ _ _ h => h) (Or.inl ⟨by rfl, ?_⟩) (by assumption) ?_
                    rotate_left
                    · intro w7 hSw
                      try dsimp only at hSw
                      first | (go_simp; done) | (go_simp; with_reducible rfl)
                    try simp only [Act.put, List.setIfInBounds_toArray, List.set_cons_zero, List.set_cons_succ]
                    refine wpAnyH_take (i := 19) (oi := { dst := some 106, op := Go.Op.call { callee := Go.Callee.builtin Go.Builtin.len, args := #[Go.Operand.tmp 105], argTypes := #[23] }, type := 3, pos := "apart.go:193", after := #[{ on := 18, ground := Go.Ground.data }, { on := 13, ground := Go.Ground.guard }], guard := some (13, false) }) (v := ?_) rfl (by kernel_rfl) (by kernel_rfl) (by kernel_rfl) (fun _ _ _ h => h) (Or.inl ⟨by rfl, ?_⟩) (by assumption) ?_
                    rotate_left
                    · intro w7 hSw
                      try dsimp only at hSw
                      first | (go_simp; done) | (go_simp; with_reducible rfl)
                    try simp only [Act.put, List.setIfInBounds_toArray, List.set_cons_zero, List.set_cons_succ]
                    refine wpAnyH_take (i := 20) (oi := { dst := some 107, op := Go.Op.binOp Go.BinOp.lss 3 (Go.Operand.tmp 101) (Go.Operand.tmp 106) 3, type := 4, pos := "apart.go:193", after := #[{ on := 14, ground := Go.Ground.data }, { on := 19, ground := Go.Ground.data }, { on := 13, ground := Go.Ground.guard }], guard := some (13, false) }) (v := ?_) rfl (by kernel_rfl) (by kernel_rfl) (by kernel_rfl) (fun _ _ _ h => h) (Or.inl ⟨by rfl, ?_⟩) (by assumption) ?_
                    rotate_left
                    · intro w7 hSw
                      try dsimp only at hSw
                      first | (go_simp; done) | (go_simp; with_reducible rfl)
                    try simp only [Act.put, List.setIfInBounds_toArray, List.set_cons_zero, List.set_cons_succ]
                    refine wpAnyH_take (i := 21) (oi := { dst := some 108, op := Go.Op.move (Go.Operand.tmp 107), type := 4, pos := "apart.go:193", after := #[{ on := 20, ground := Go.Ground.data }, { on := 13, ground := Go.Ground.chain }, { on := 13, ground := Go.Ground.guard }], guard := some (13, false) }) (v := ?_) rfl (by kernel_rfl) (by kernel_rfl) (by kernel_rfl) (fun _ _ _ h => h) (Or.inl ⟨by rfl, ?_⟩) (by assumption) ?_
                    rotate_left
                    · intro w7 hSw
                      try dsimp only at hSw
                      first | (go_simp; done) | (go_simp; with_reducible rfl)
                    try simp only [Act.put, List.setIfInBounds_toArray, List.set_cons_zero, List.set_cons_succ]
                    refine wpAnyH_take (i := 22) (oi := { dst := some 109, op := Go.Op.move (Go.Operand.tmp 0), type := 38, pos := "apart.go:193", after := #[{ on := 21, ground := Go.Ground.guard }], guard := some (21, true) }) (v := undef) rfl (by kernel_rfl) (by kernel_rfl) (by kernel_rfl) (fun _ _ _ h => h) (Or.inr ⟨by rfl, rfl⟩) (by assumption) ?_
                    try simp only [Act.put, List.setIfInBounds_toArray, List.set_cons_zero, List.set_cons_succ]
                    refine wpAnyH_take (i := 23) (oi := { dst := some 110, op := Go.Op.move (Go.Operand.tmp 9), type := 3, pos := "apart.go:193", after := #[{ on := 21, ground := Go.Ground.guard }], guard := some (21, true) }) (v := undef) rfl (by kernel_rfl) (by kernel_rfl) (by kernel_rfl) (fun _ _ _ h => h) (Or.inr ⟨by rfl, rfl⟩) (by assumption) ?_
                    try simp only [Act.put, List.setIfInBounds_toArray, List.set_cons_zero, List.set_cons_succ]
                    refine wpAnyH_take (i := 24) (oi := { dst := some 111, op := Go.Op.indexAddr 38 (Go.Operand.tmp 109) (Go.Operand.tmp 110), type := 0, pos := "apart.go:193", after := #[{ on := 22, ground := Go.Ground.data }, { on := 23, ground := Go.Ground.data }, { on := 21, ground := Go.Ground.guard }], guard := some (21, true) }) (v := undef) rfl (by kernel_rfl) (by kernel_rfl) (by kernel_rfl) (fun _ _ _ h => h) (Or.inr ⟨by rfl, rfl⟩) (by assumption) ?_
                    try simp only [Act.put, List.setIfInBounds_toArray, List.set_cons_zero, List.set_cons_succ]
                    refine wpAnyH_take (i := 25) (oi := { dst := some 112, op := Go.Op.load 23 (Go.Operand.tmp 111), type := 23, pos := "apart.go:193", after := #[{ on := 24, ground := Go.Ground.data }, { on := 21, ground := Go.Ground.guard }], guard := some (21, true) }) (v := undef) rfl (by kernel_rfl) (by kernel_rfl) (by kernel_rfl) (fun _ _ _ h => h) (Or.inr ⟨by rfl, rfl⟩) (by assumption) ?_
                    try simp only [Act.put, List.setIfInBounds_toArray, List.set_cons_zero, List.set_cons_succ]
                    refine wpAnyH_take (i := 26) (oi := { dst := some 113, op := Go.Op.move (Go.Operand.tmp 10), type := 3, pos := "apart.go:193", after := #[{ on := 21, ground := Go.Ground.guard }], guard := some (21, true) }) (v := undef) rfl (by kernel_rfl) (by kernel_rfl) (by kernel_rfl) (fun _ _ _ h => h) (Or.inr ⟨by rfl, rfl⟩) (by assumption) ?_
                    try simp only [Act.put, List.setIfInBounds_toArray, List.set_cons_zero, List.set_cons_succ]
                    refine wpAnyH_take (i := 27) (oi := { dst := some 114, op := Go.Op.indexAddr 23 (Go.Operand.tmp 112) (Go.Operand.tmp 113), type := 0, pos := "apart.go:193", after := #[{ on := 25, ground := Go.Ground.data }, { on := 26, ground := Go.Ground.data }, { on := 21, ground := Go.Ground.guard }], guard := some (21, true) }) (v := undef) rfl (by kernel_rfl) (by kernel_rfl) (by kernel_rfl) (fun _ _ _ h => h) (Or.inr ⟨by rfl, rfl⟩) (by assumption) ?_
                    try simp only [Act.put, List.setIfInBounds_toArray, List.set_cons_zero, List.set_cons_succ]
                    refine wpAnyH_take (i := 28) (oi := { dst := some 115, op := Go.Op.load 36 (Go.Operand.tmp 114), type := 36, pos := "apart.go:193", after := #[{ on := 27, ground := Go.Ground.data }, { on := 21, ground := Go.Ground.guard }], guard := some (21, true) }) (v := undef) rfl (by kernel_rfl) (by kernel_rfl) (by kernel_rfl) (fun _ _ _ h => h) (Or.inr ⟨by rfl, rfl⟩) (by assumption) ?_
                    try simp only [Act.put, List.setIfInBounds_toArray, List.set_cons_zero, List.set_cons_succ]
                    refine wpAnyH_take (i := 29) (oi := { dst := some 116, op := Go.Op.move (Go.Operand.tmp 9), type := 3, pos := "apart.go:193", after := #[{ on := 21, ground := Go.Ground.guard }], guard := some (21, true) }) (v := undef) rfl (by kernel_rfl) (by kernel_rfl) (by kernel_rfl) (fun _ _ _ h => h) (Or.inr ⟨by rfl, rfl⟩) (by assumption) ?_
                    try simp only [Act.put, List.setIfInBounds_toArray, List.set_cons_zero, List.set_cons_succ]
                    refine wpAnyH_take (i := 30) (oi := { dst := some 117, op := Go.Op.move (Go.Operand.tmp 10), type := 3, pos := "apart.go:193", after := #[{ on := 21, ground := Go.Ground.guard }], guard := some (21, true) }) (v := undef) rfl (by kernel_rfl) (by kernel_rfl) (by kernel_rfl) (fun _ _ _ h => h) (Or.inr ⟨by rfl, rfl⟩) (by assumption) ?_
                    try simp only [Act.put, List.setIfInBounds_toArray, List.set_cons_zero, List.set_cons_succ]
                    refine wpAnyH_take (i := 31) (oi := { dst := some 118, op := Go.Op.call { callee := Go.Callee.value (Go.Operand.func 20), args := #[Go.Operand.tmp 116, Go.Operand.tmp 117], argTypes := #[3, 3] }, type := 9, pos := "apart.go:193", after := #[{ on := 29, ground := Go.Ground.data }, { on := 30, ground := Go.Ground.data }, { on := 21, ground := Go.Ground.chain }, { on := 21, ground := Go.Ground.guard }], guard := some (21, true) }) (v := undef) rfl (by kernel_rfl) (by kernel_rfl) (by kernel_rfl) (fun _ _ _ h => h) (Or.inr ⟨by rfl, rfl⟩) (by assumption) ?_
                    try simp only [Act.put, List.setIfInBounds_toArray, List.set_cons_zero, List.set_cons_succ]
                    refine wpAnyH_take (i := 32) (oi := { dst := some 119, op := Go.Op.build 36 #[(0, Go.Operand.const (Go.Value.int Go.IntKind.i64 (-7))), (1, Go.Operand.tmp 118)], type := 36, pos := "apart.go:193", after := #[{ on := 31, ground := Go.Ground.data }, { on := 21, ground := Go.Ground.guard }], guard := some (21, true) }) (v := undef) rfl (by kernel_rfl) (by kernel_rfl) (by kernel_rfl) (fun _ _ _ h => h) (Or.inr ⟨by rfl, rfl⟩) (by assumption) ?_
                    try simp only [Act.put, List.setIfInBounds_toArray, List.set_cons_zero, List.set_cons_succ]
                    refine wpAnyH_take (i := 33) (oi := { dst := some 120, op := Go.Op.binOp Go.BinOp.eql 36 (Go.Operand.tmp 115) (Go.Operand.tmp 119) 36, type := 4, pos := "apart.go:193", after := #[{ on := 28, ground := Go.Ground.data }, { on := 32, ground := Go.Ground.data }, { on := 21, ground := Go.Ground.guard }], guard := some (21, true) }) (v := undef) rfl (by kernel_rfl) (by kernel_rfl) (by kernel_rfl) (fun _ _ _ h => h) (Or.inr ⟨by rfl, rfl⟩) (by assumption) ?_
                    try simp only [Act.put, List.setIfInBounds_toArray, List.set_cons_zero, List.set_cons_succ]
                    refine wpAnyH_take (i := 34) (oi := { dst := some 121, op := Go.Op.unOp Go.UnOp.not 4 (Go.Operand.tmp 120), type := 4, pos := "apart.go:193", after := #[{ on := 33, ground := Go.Ground.data }, { on := 21, ground := Go.Ground.guard }], guard := some (21, true) }) (v := undef) rfl (by kernel_rfl) (by kernel_rfl) (by kernel_rfl) (fun _ _ _ h => h) (Or.inr ⟨by rfl, rfl⟩) (by assumption) ?_
                    try simp only [Act.put, List.setIfInBounds_toArray, List.set_cons_zero, List.set_cons_succ]
                    refine wpAnyH_take (i := 35) (oi := { dst := some 122, op := Go.Op.pick (Go.Operand.tmp 108) (Go.Operand.tmp 121) (Go.Operand.const (Go.Value.bool false)), type := 4, pos := "apart.go:193", after := #[{ on := 21, ground := Go.Ground.data }, { on := 34, ground := Go.Ground.data }, { on := 13, ground := Go.Ground.guard }], guard := some (13, false) }) (v := ?_) rfl (by kernel_rfl) (by kernel_rfl) (by kernel_rfl) (fun _ _ _ h => h) (Or.inl ⟨by rfl, ?_⟩) (by assumption) ?_
                    rotate_left
                    · intro w7 hSw
                      try dsimp only at hSw
                      first | (go_simp; done) | (go_simp; with_reducible rfl)
                    try simp only [Act.put, List.setIfInBounds_toArray, List.set_cons_zero, List.set_cons_succ]
                    refine wpAnyH_take (i := 36) (oi := { dst := some 123, op := Go.Op.pick (Go.Operand.tmp 100) (Go.Operand.const (Go.Value.bool true)) (Go.Operand.tmp 122), type := 4, pos := "apart.go:193", after := #[{ on := 13, ground := Go.Ground.data }, { on := 35, ground := Go.Ground.data }], guard := none }) (v := ?_) rfl (by kernel_rfl) (by kernel_rfl) (by kernel_rfl) (fun _ _ _ h => h) (Or.inl ⟨by rfl, ?_⟩) (by assumption) ?_
                    rotate_left
                    · intro w7 hSw
                      try dsimp only at hSw
                      first | (go_simp; done) | (go_simp; with_reducible rfl)
                    try simp only [Act.put, List.setIfInBounds_toArray, List.set_cons_zero, List.set_cons_succ]
                    refine wpAnyH_done (by kernel_rfl) ?_ _
                    have HZ : Hid (Keep [] w3 _) := hHeld.2.2.2.2.2.2
                    clear hHeld
                    go_wp2
                    go_roundw
                    case rel => exact ⟨i + 1, by go_num, by omega, HZ⟩
                    case measure => simp [intOf]; omega
                · have hili : ¬ ((i : Int) < (ck : Int) + 64) := by omega
                  have hgk2 := HK.out.cell' HC.out.2.2.1 (by simp)
                  clear HC
                  go_wp2
                  go_roundw
                  case rel => exact ⟨k + 1, by go_num, by omega, HK⟩
                  case measure => simp [intOf]; omega
            · have hki2 : ¬ ((k : Int) < (j : Int)) := by omega
              have HP4 : Hid (Ph2 w wr b j F c u5 j G q ∧ ∀ i, i < j → ∃ r, q i = marks i (c i) ++ r) := by
                refine ⟨HP.out.1.same HK.out, fun i hi => ?_⟩
                obtain ⟨r, hr, _⟩ := marks_app i (c i) 64
                exact ⟨r, by rw [HP.out.2 i hi, hr]⟩
              clear HP HK hk
              go_wp2
              go_loopw [11] (fun kv wr => ∃ (k : Nat) (G : Nat → Value) (q : Nat → List TokD), kv = .int .i64 (k : Int) ∧ k ≤ j ∧ Hid (Ph2 w wr b j F c u5 j G q ∧ ∀ i, i < j → ∃ r, q i = marks i (c i) ++ r)) (fun kv _ => j - (intOf kv).toNat)
              case atStart => exact ⟨0, _, _, rfl, Nat.zero_le _, HP4⟩
              case round =>
                clear HP4
                obtain ⟨k, G, q, rfl, hkj, hP⟩ := hrel
                by_cases hk : k < j
                · have hki3 : (k : Int) < (j : Int) := by omega
                  obtain ⟨ao, cap, hFk, hlc, hcm, -⟩ := hP.out.1.ap.form k hk
                  simp only [marks_len] at hFk hlc
                  have hcell := hP.out.1.ap.cell k hk
                  rw [hFk] at hcell
                  obtain ⟨gg, gc, hgv, hg1, hg2, -, -⟩ := hP.out.1.form (by omega)
                  have hck := hsz k
                  have HP : Hid (Ph2 w wr b j F c u5 j G q ∧ (∀ i, i < j → ∃ r, q i = marks i (c i) ++ r) ∧ F k = .slice ao (c k) cap ∧ u5 = .slice (some ⟨gg, 0, none⟩) j gc) := ⟨hP.out.1, hP.out.2, hFk, hgv⟩
                  clear hP hFk hgv
                  rename World => w5
                  go_wp2
                  go_loopw [12, 13] (fun mv iv wr => ∃ (i : Nat) (l : List TokD), iv = .int .i64 (i : Int) ∧ i ≤ 64 ∧ Hid (RowT wr mv l ∧ l.length = i ∧ Keep [] w5 wr ∧ Fresh w5 wr mv)) (fun _ iv _ => 64 - (intOf iv).toNat)
                  case atStart => exact ⟨0, [], rfl, by omega, World.ownsRow_nil _ 0 36 4, rfl, Keep.refl _ _, Fresh.nil _ _⟩
                  case round =>
                    obtain ⟨i, l, rfl, hi, hI⟩ := hrel
                    by_cases hil : i < 64
                    · have hili : (i : Int) < 64 := by omega
                      have HM : Hid (∀ w, Calls Try.prog 20 #[.int .i64 ((k : Int) + (j : Int)), .int .i64 (i : Int)] w fun e w' => e = .returned (.string (ba (markLL (k + j) i))) ∧ Keep [] w w') := fun w => by
                        have := markG_any (k + j) i w
                        rw [Int.natCast_add] at this
                        exact this
                      clear hcell
                      go_wp2_with fail
                      refine (HM.out _).mono ?_
                      rintro e w9 ⟨rfl, k9⟩
                      have HS : Hid _ := src_tok w9 (mkT (k + j) i)
                      have HR : Hid (RowT (w9.alloc (.cells #[.int .i64 (-7), .string (ba (markLL (k + j) i)), .int .i64 0, .int .i64 0] 36 (0, 0))) u12 l) := (hI.out.1.keep k9 (Off.nil _)).keep (Keep.alloc1 w9 _) (Off.nil _)
                      have hal : Hid ((l.length + 1) * 40 ≤ 140737488355328 ∧ l.length + 1 ≤ maxLen) := by
                        show _ ∧ _
                        rw [hI.out.2.1]
                        refine ⟨by omega, ?_⟩
                        unfold maxLen; omega
                      have hI9 : Hid (Keep [] w5 w9 ∧ Fresh w5 w9 u12 ∧ l.length = i) := ⟨hI.out.2.2.1.trans' k9, hI.out.2.2.2.later k9.size, hI.out.2.1⟩
                      clear k9 hI HM
                      go_wp2_with (at_builtin; refine wp_appC infoT rfl rfl (.tmp 134) (.tmp 142) 23 23 rfl Try.underlying23 u12 l.length (toksC l) rfl HR.out _ 1 (tokC (mkT (k + j) i)) rfl HS.out hal.out.1 hal.out.2 ?_)
                      intro v' w8 g1 g2 g3 _ _
                      have HR8 : Hid (RowT w8 v' (l ++ [mkT (k + j) i]) ∧ (l ++ [mkT (k + j) i]).length = i + 1 ∧ Keep [] w5 w8 ∧ Fresh w5 w8 v') := by
                        have hz := g2.size
                        simp at hz
                        refine ⟨?_, by rw [List.length_append, hI9.out.2.2]; rfl, (hI9.out.1.alloc _).more g2 (fun x hx => .inr (hI9.out.2.1 x (by simpa using hx)).1), ?_⟩
                        · show RowC _ _ _ _ _ _
                          rw [toksC_snoc, List.length_append]
                          exact g1
                        · have hs5 := hI9.out.1.size
                          rcases g3 with e | e
                          · intro x hx
                            rw [e] at hx
                            have := hI9.out.2.1 x hx
                            omega
                          · intro x hx
                            have := e x hx
                            simp at this
                            omega
                      clear g1 g2 g3 HS HR hal hI9
                      go_wp2
                      go_roundw
                      case rel => exact ⟨i + 1, _, by go_num, by omega, HR8⟩
                      case measure => simp [intOf]; omega
                    · have hi64 : i = 64 := by omega
                      subst hi64
                      have hsrc : Hid _ := hI.out.1.src
                      have hcell5 := hI.out.2.2.1.cell' hcell (by simp)
                      have hP6 := HP.out.1.same hI.out.2.2.1
                      have hrF := hP6.ap.row k hk
                      rw [HP.out.2.2.1] at hrF
                      have HrF : Hid _ := hrF
                      have HB : Hid (((marks k (c k)).length + l.length) * 40 ≤ 140737488355328 ∧ (marks k (c k)).length + l.length ≤ maxLen) := by
                        show _ ∧ _
                        rw [marks_len, hI.out.2.1]
                        refine ⟨by omega, ?_⟩
                        unfold maxLen; omega
                      have HP6 : Hid (Ph2 w wr b j F c u5 j G q) := hP6
                      have HQ : Hid ((∀ i, i < j → ∃ r, q i = marks i (c i) ++ r) ∧ F k = .slice ao (c k) cap ∧ u5 = .slice (some ⟨gg, 0, none⟩) j gc) := HP.out.2
                      have HU : Hid (u5 = .slice (some ⟨gg, 0, none⟩) j gc) := HP.out.2.2.2
                      have hl64 : Hid (l.length = 64) := hI.out.2.1
                      clear HP hP6 hI hcell hrF
                      obtain rfl := HU.out
                      clear HU
                      go_wp2_with (first
                        | (at_builtin; refine wp_appC infoT rfl rfl (.tmp 149) (.tmp 150) 23 23 rfl Try.underlying23 _ (marks k (c k)).length (toksC (marks k (c k))) rfl HrF.out _ l.length (toksC l) rfl hsrc.out HB.out.1 HB.out.2 ?_))
                      intro v' w9 g1 g2 g3 g4 g5
                      rw [← HQ.out.2.1] at g2 g3 g5
                      obtain ⟨hc9, hf9⟩ := HP6.out.form9 hk rfl g2
                      have g1' : RowT w9 v' (marks k (c k) ++ l) := by
                        show RowC _ _ _ _ _ _
                        rw [toksC_app, List.length_append]
                        exact g1
                      have HP9 : Hid (Ph2 w (w9.setCell ⟨gg, k, none⟩ v') b j F c (.slice (some ⟨gg, 0, none⟩) j gc) j (updF G k v') (updF q k (marks k (c k) ++ l)) ∧ ∀ i, i < j → ∃ r, updF q k (marks k (c k) ++ l) i = marks i (c i) ++ r) := by
                        refine ⟨HP6.out.again hk rfl g2 g3 g1' g5, fun i hi => ?_⟩
                        by_cases e : i = k
                        · subst e
                          exact ⟨l, updF_at _ _ _⟩
                        · rw [updF_ne _ _ _ e]
                          exact HQ.out.1 i hi
                      obtain ⟨a9, c9, rfl⟩ := g4
                      clear g1 g1' g2 g3 g5 hsrc HrF hcell5 HP6 HQ HB
                      go_wp2
                      go_roundw
                      case rel => exact ⟨k + 1, _, _, by go_num, by omega, HP9⟩
                      case measure => simp [intOf]; omega
                · have hki3 : ¬ ((k : Int) < (j : Int)) := by omega
                  have HP : Hid (Ph2 w wr b j F c u5 j G q ∧ ∀ i, i < j → ∃ r, q i = marks i (c i) ++ r) := hP
                  clear hP hk
                  rename World => w6
                  go_wp2
                  go_loopw [14] (fun kv wr => ∃ (k : Nat), kv = .int .i64 (k : Int) ∧ k ≤ j ∧ Hid (Keep [] w6 wr)) (fun kv _ => j - (intOf kv).toNat)
                  case atStart => exact ⟨0, rfl, Nat.zero_le _, Keep.refl _ _⟩
                  case round =>
                    obtain ⟨k, rfl, hkj, HK⟩ := hrel
                    by_cases hk : k < j
                    · have hki4 : (k : Int) < (j : Int) := by omega
                      obtain ⟨r, hr⟩ := HP.out.2 k hk
                      obtain ⟨ao, cap, ag, capg, gg, gc, hgv, hg1, hg2, hgk, hG1, hG2, hlk, hF1, hF2, hcF, hcG⟩ := HP.out.1.look hk hr
                      have HC : Hid ((∀ i, i < c k → ∃ g1, ao = some ⟨g1, 0, none⟩ ∧ Tc w6 g1 i (mkT k i)) ∧ (∀ i, i < c k → ∃ g2, ag = some ⟨g2, 0, none⟩ ∧ Tc w6 g2 i (mkT k i)) ∧ w6.cell? ⟨gg, k, none⟩ = some (.slice ag (c k + r.length) capg) ∧ w6.cell? ⟨b, k, none⟩ = some (.slice ao (c k) cap)) := by
                        refine ⟨hcF, fun i hi => ?_, hgk, hlk⟩
                        obtain ⟨g2, h1, h, h2⟩ := hcG i (by omega)
                        refine ⟨g2, h1, ?_⟩
                        have e : (q k)[i]? = some (mkT k i) := by
                          rw [hr, List.getElem?_append_left (by rw [marks_len]; exact hi), List.getElem?_eq_getElem (by rw [marks_len]; omega), marks_get]
                        obtain ⟨_, e2⟩ := List.getElem?_eq_some_iff.1 e
                        rwa [e2] at h2
                      have hck := hsz k
                      clear hr hcF hcG hgk hlk
                      subst hgv
                      generalize r.length = rl at hG1 HC
                      generalize c k = ck at hG1 hF1 HC hck
                      have hlk2 := HK.out.cell' HC.out.2.2.2 (by simp)
                      go_wp2
                      go_loopw [15] (fun iv wr => ∃ (i : Nat), iv = .int .i64 (i : Int) ∧ i ≤ ck ∧ Hid (Keep [] w6 wr)) (fun iv _ => ck - (intOf iv).toNat)
                      case atStart => exact ⟨0, rfl, Nat.zero_le _, HK⟩
                      case round =>
                        clear HK hlk2
                        obtain ⟨i, rfl, hi, HK⟩ := hrel
                        have hlk2 := HK.out.cell' HC.out.2.2.2 (by simp)
                        by_cases hil : i < ck
                        · obtain ⟨g2, rfl, hc2⟩ := HC.out.2.1 i hil
                          obtain ⟨g1, rfl, hc1⟩ := HC.out.1 i hil
                          have hili : (i : Int) < (ck : Int) := by omega
                          have hili2 : (i : Int) < (ck : Int) + (rl : Int) := by omega
                          have HM : Hid (∀ w, Calls Try.prog 20 #[.int .i64 (k : Int), .int .i64 (i : Int)] w fun e w' => e = .returned (.string (ba (markLL k i))) ∧ Keep [] w w') := fun w => markG_any k i w
                          have HS : Hid (∀ wx, Keep [] w6 wx → wx.cell? ⟨gg, k, none⟩ = some (.slice (some ⟨g2, 0, none⟩) (ck + rl) capg) ∧ wx.cell? ⟨b, k, none⟩ = some (.slice (some ⟨g1, 0, none⟩) ck cap) ∧ wx.cell? ⟨g2, i * 4, none⟩ = some (.int .i64 (-7)) ∧ wx.cell? ⟨g2, i * 4 + 1, none⟩ = some (.string (ba (markLL k i))) ∧ wx.cell? ⟨g2, i * 4 + 2, none⟩ = some (.int .i64 0) ∧ wx.cell? ⟨g2, i * 4 + 3, none⟩ = some (.int .i64 0) ∧ wx.cell? ⟨g1, i * 4, none⟩ = some (.int .i64 (-7)) ∧ wx.cell? ⟨g1, i * 4 + 1, none⟩ = some (.string (ba (markLL k i))) ∧ wx.cell? ⟨g1, i * 4 + 2, none⟩ = some (.int .i64 0) ∧ wx.cell? ⟨g1, i * 4 + 3, none⟩ = some (.int .i64 0) ∧ Keep [] w6 wx) := fun wx kx => ⟨kx.cell' HC.out.2.2.1 (by simp), kx.cell' HC.out.2.2.2 (by simp), (hc2.keep kx (by simp)).c0, (hc2.keep kx (by simp)).c1, (hc2.keep kx (by simp)).c2, (hc2.keep kx (by simp)).c3, (hc1.keep kx (by simp)).c0, (hc1.keep kx (by simp)).c1, (hc1.keep kx (by simp)).c2, (hc1.keep kx (by simp)).c3, kx⟩
                          clear HC hc1 hc2
                          go_wp2
                          refine wp_region_held_drew (S := (fun w' => w'.cell? ⟨gg, k, none⟩ = some (.slice (some ⟨g2, 0, none⟩) (ck + rl) capg) ∧ w'.cell? ⟨b, k, none⟩ = some (.slice (some ⟨g1, 0, none⟩) ck cap) ∧ w'.cell? ⟨g2, i * 4, none⟩ = some (.int .i64 (-7)) ∧ w'.cell? ⟨g2, i * 4 + 1, none⟩ = some (.string (ba (markLL k i))) ∧ w'.cell? ⟨g2, i * 4 + 2, none⟩ = some (.int .i64 0) ∧ w'.cell? ⟨g2, i * 4 + 3, none⟩ = some (.int .i64 0) ∧ w'.cell? ⟨g1, i * 4, none⟩ = some (.int .i64 (-7)) ∧ w'.cell? ⟨g1, i * 4 + 1, none⟩ = some (.string (ba (markLL k i))) ∧ w'.cell? ⟨g1, i * 4 + 2, none⟩ = some (.int .i64 0) ∧ w'.cell? ⟨g1, i * 4 + 3, none⟩ = some (.int .i64 0) ∧ Keep [] w6 w')) (by kernel_rfl) (HS.out _ HK.out.drew) (fun hHeld => ?_)
                          try dsimp only at hHeld
                          refine wpAnyH_take (i := 0) (oi := { dst := some 168, op := Go.Op.move (Go.Operand.tmp 0), type := 38, pos := "apart.go:207", after := #[], guard := none }) (v := ?_) rfl (by kernel_rfl) (by kernel_rfl) (by kernel_rfl) (fun _ _ _ h => h) (Or.inl ⟨by rfl, ?_⟩) (by assumption) ?_
                          rotate_left
                          · intro w7 hSw
                            try dsimp only at hSw
                            first | (go_simp; done) | (go_simp; with_reducible rfl)
                          try simp only [Act.put, List.setIfInBounds_toArray, List.set_cons_zero, List.set_cons_succ]
                          refine wpAnyH_take (i := 1) (oi := { dst := some 169, op := Go.Op.move (Go.Operand.tmp 14), type := 3, pos := "apart.go:207", after := #[], guard := none }) (v := ?_) rfl (by kernel_rfl) (by kernel_rfl) (by kernel_rfl) (fun _ _ _ h => h) (Or.inl ⟨by rfl, ?_⟩) (by assumption) ?_
                          rotate_left
                          · intro w7 hSw
                            try dsimp only at hSw
                            first | (go_simp; done) | (go_simp; with_reducible rfl)
                          try simp only [Act.put, List.setIfInBounds_toArray, List.set_cons_zero, List.set_cons_succ]
                          refine wpAnyH_take (i := 2) (oi := { dst := some 170, op := Go.Op.indexAddr 38 (Go.Operand.tmp 168) (Go.Operand.tmp 169), type := 0, pos := "apart.go:207", after := #[{ on := 0, ground := Go.Ground.data }, { on := 1, ground := Go.Ground.data }], guard := none }) (v := ?_) rfl (by kernel_rfl) (by kernel_rfl) (by kernel_rfl) (fun _ _ _ h => h) (Or.inl ⟨by rfl, ?_⟩) (by assumption) ?_
                          rotate_left
                          · intro w7 hSw
                            try dsimp only at hSw
                            first | (go_simp; done) | (go_simp; with_reducible rfl)
                          try simp only [Act.put, List.setIfInBounds_toArray, List.set_cons_zero, List.set_cons_succ]
                          refine wpAnyH_take (i := 3) (oi := { dst := some 171, op := Go.Op.load 23 (Go.Operand.tmp 170), type := 23, pos := "apart.go:207", after := #[{ on := 2, ground := Go.Ground.data }], guard := none }) (v := ?_) rfl (by kernel_rfl) (by kernel_rfl) (by kernel_rfl) (fun _ _ _ h => h) (Or.inl ⟨by rfl, ?_⟩) (by assumption) ?_
                          rotate_left
                          · intro w7 hSw
                            try dsimp only at hSw
                            first | (go_simp; done) | (go_simp; with_reducible rfl)
                          try simp only [Act.put, List.setIfInBounds_toArray, List.set_cons_zero, List.set_cons_succ]
                          refine wpAnyH_take (i := 4) (oi := { dst := some 172, op := Go.Op.move (Go.Operand.tmp 15), type := 3, pos := "apart.go:207", after := #[], guard := none }) (v := ?_) rfl (by kernel_rfl) (by kernel_rfl) (by kernel_rfl) (fun _ _ _ h => h) (Or.inl ⟨by rfl, ?_⟩) (by assumption) ?_
                          rotate_left
                          · intro w7 hSw
                            try dsimp only at hSw
                            first | (go_simp; done) | (go_simp; with_reducible rfl)
                          try simp only [Act.put, List.setIfInBounds_toArray, List.set_cons_zero, List.set_cons_succ]
                          refine wpAnyH_take (i := 5) (oi := { dst := some 173, op := Go.Op.indexAddr 23 (Go.Operand.tmp 171) (Go.Operand.tmp 172), type := 0, pos := "apart.go:207", after := #[{ on := 3, ground := Go.Ground.data }, { on := 4, ground := Go.Ground.data }], guard := none }) (v := ?_) rfl (by kernel_rfl) (by kernel_rfl) (by kernel_rfl) (fun _ _ _ h => h) (Or.inl ⟨by rfl, ?_⟩) (by assumption) ?_
                          rotate_left
                          · intro w7 hSw
                            try dsimp only at hSw
                            first | (go_simp; done) | (go_simp; with_reducible rfl)
                          try simp only [Act.put, List.setIfInBounds_toArray, List.set_cons_zero, List.set_cons_succ]
                          refine wpAnyH_take (i := 6) (oi := { dst := some 174, op := Go.Op.load 36 (Go.Operand.tmp 173), type := 36, pos := "apart.go:207", after := #[{ on := 5, ground := Go.Ground.data }], guard := none }) (v := ?_) rfl (by kernel_rfl) (by kernel_rfl) (by kernel_rfl) (fun _ _ _ h => h) (Or.inl ⟨by rfl, ?_⟩) (by assumption) ?_
                          rotate_left
                          · intro w7 hSw
                            try dsimp only at hSw
                            first | (go_simp; done) | (go_simp; with_reducible rfl)
                          try simp only [Act.put, List.setIfInBounds_toArray, List.set_cons_zero, List.set_cons_succ]
                          refine wpAnyH_take (i := 7) (oi := { dst := some 175, op := Go.Op.move (Go.Operand.tmp 14), type := 3, pos := "apart.go:207", after := #[], guard := none }) (v := ?_) rfl (by kernel_rfl) (by kernel_rfl) (by kernel_rfl) (fun _ _ _ h => h) (Or.inl ⟨by rfl, ?_⟩) (by assumption) ?_
                          rotate_left
                          · intro w7 hSw
                            try dsimp only at hSw
                            first | (go_simp; done) | (go_simp; with_reducible rfl)
                          try simp only [Act.put, List.setIfInBounds_toArray, List.set_cons_zero, List.set_cons_succ]
                          refine wpAnyH_take (i := 8) (oi := { dst := some 176, op := Go.Op.move (Go.Operand.tmp 15), type := 3, pos := "apart.go:207", after := #[], guard := none }) (v := ?_) rfl (by kernel_rfl) (by kernel_rfl) (by kernel_rfl) (fun _ _ _ h => h) (Or.inl ⟨by rfl, ?_⟩) (by assumption) ?_
                          rotate_left
                          · intro w7 hSw
                            try dsimp only at hSw
                            first | (go_simp; done) | (go_simp; with_reducible rfl)
                          try simp only [Act.put, List.setIfInBounds_toArray, List.set_cons_zero, List.set_cons_succ]
                          refine wpAnyH_ready (rs := [9]) (by kernel_rfl) (by simp) ?_
                          refine AllReadyH.cons (o := { dst := some 177, op := Go.Op.call { callee := Go.Callee.value (Go.Operand.func 20), args := #[Go.Operand.tmp 175, Go.Operand.tmp 176], argTypes := #[3, 3] }, type := 9, pos := "apart.go:207", after := #[{ on := 7, ground := Go.Ground.data }, { on := 8, ground := Go.Ground.data }], guard := none }) rfl (fun K hK => ?_) AllReadyH.nil
                          go_simp
                          (go_at_call 20; refine (HM.out _).mono ?_; rintro e9 w9 ⟨rfl, k9⟩)
                          go_wp2_with fail
                          refine hK.out _ _ (HS.out _ (hHeld.2.2.2.2.2.2.2.2.2.2.trans' k9)) (fun hHeld2 => ?_)
                          try dsimp only at hHeld2
                          clear hK hHeld
                          have hHeld := hHeld2
                          clear hHeld2
                          try simp only [Act.put, List.setIfInBounds_toArray, List.set_cons_zero, List.set_cons_succ]
                          refine wpAnyH_take (i := 10) (oi := { dst := some 178, op := Go.Op.build 36 #[(0, Go.Operand.const (Go.Value.int Go.IntKind.i64 (-7))), (1, Go.Operand.tmp 177)], type := 36, pos := "apart.go:207", after := #[{ on := 9, ground := Go.Ground.data }], guard := none }) (v := ?_) rfl (by kernel_rfl) (by kernel_rfl) (by kernel_rfl) (fun _ _ _ h => h) (Or.inl ⟨by rfl, ?_⟩) (by assumption) ?_
                          rotate_left
                          · intro w7 hSw
                            try dsimp only at hSw
                            first | (go_simp; done) | (go_simp; with_reducible rfl)
                          try simp only [Act.put, List.setIfInBounds_toArray, List.set_cons_zero, List.set_cons_succ]
                          refine wpAnyH_take (i := 11) (oi := { dst := some 179, op := Go.Op.binOp Go.BinOp.eql 36 (Go.Operand.tmp 174) (Go.Operand.tmp 178) 36, type := 4, pos := "apart.go:207", after := #[{ on := 6, ground := Go.Ground.data }, { on := 10, ground := Go.Ground.data }], guard := none }) (v := ?_) rfl (by kernel_rfl) (by kernel_rfl) (by kernel_rfl) (fun _ _ _ h => h) (Or.inl ⟨by rfl, ?_⟩) (by assumption) ?_
                          rotate_left
                          · intro w7 hSw
                            try dsimp only at hSw
                            first | (go_simp; done) | (go_simp; with_reducible rfl)
                          try simp only [Act.put, List.setIfInBounds_toArray, List.set_cons_zero, List.set_cons_succ]
                          refine wpAnyH_take (i := 12) (oi := { dst := some 180, op := Go.Op.unOp Go.UnOp.not 4 (Go.Operand.tmp 179), type := 4, pos := "apart.go:207", after := #[{ on := 11, ground := Go.Ground.data }], guard := none }) (v := ?_) rfl (by kernel_rfl) (by kernel_rfl) (by kernel_rfl) (fun _ _ _ h => h) (Or.inl ⟨by rfl, ?_⟩) (by assumption) ?_
                          rotate_left
                          · intro w7 hSw
                            try dsimp only at hSw
                            first | (go_simp; done) | (go_simp; with_reducible rfl)
                          try simp only [Act.put, List.setIfInBounds_toArray, List.set_cons_zero, List.set_cons_succ]
                          refine wpAnyH_take (i := 13) (oi := { dst := some 181, op := Go.Op.move (Go.Operand.tmp 180), type := 4, pos := "apart.go:207", after := #[{ on := 12, ground := Go.Ground.data }, { on := 9, ground := Go.Ground.chain }], guard := none }) (v := ?_) rfl (by kernel_rfl) (by kernel_rfl) (by kernel_rfl) (fun _ _ _ h => h) (Or.inl ⟨by rfl, ?_⟩) (by assumption) ?_
                          rotate_left
                          · intro w7 hSw
                            try dsimp only at hSw
                            first | (go_simp; done) | (go_simp; with_reducible rfl)
                          try simp only [Act.put, List.setIfInBounds_toArray, List.set_cons_zero, List.set_cons_succ]
                          refine wpAnyH_take (i := 14) (oi := { dst := some 182, op := Go.Op.move (Go.Operand.tmp 5), type := 38, pos := "apart.go:207", after := #[{ on := 13, ground := Go.Ground.guard }], guard := some (13, false) }) (v := ?_) rfl (by kernel_rfl) (by kernel_rfl) (by kernel_rfl) (fun _ _ _ h => h) (Or.inl ⟨by rfl, ?_⟩) (by assumption) ?_
                          rotate_left
                          · intro w7 hSw
                            try dsimp only at hSw
                            first | (go_simp; done) | (go_simp; with_reducible rfl)
                          try simp only [Act.put, List.setIfInBounds_toArray, List.set_cons_zero, List.set_cons_succ]
                          refine wpAnyH_take (i := 15) (oi := { dst := some 183, op := Go.Op.move (Go.Operand.tmp 14), type := 3, pos := "apart.go:207", after := #[{ on := 13, ground := Go.Ground.guard }], guard := some (13, false) }) (v := ?_) rfl (by kernel_rfl) (by kernel_rfl) (by kernel_rfl) (fun _ _ _ h => h) (Or.inl ⟨by rfl, ?_⟩) (by assumption) ?_
                          rotate_left
                          · intro w7 hSw
                            try dsimp only at hSw
                            first | (go_simp; done) | (go_simp; with_reducible rfl)
                          try simp only [Act.put, List.setIfInBounds_toArray, List.set_cons_zero, List.set_cons_succ]
                          refine wpAnyH_take (i := 16) (oi := { dst := some 184, op := Go.Op.indexAddr 38 (Go.Operand.tmp 182) (Go.Operand.tmp 183), type := 0, pos := "apart.go:207", after := #[{ on := 14, ground := Go.Ground.data }, { on := 15, ground := Go.Ground.data }, { on := 13, ground := Go.Ground.guard }], guard := some (13, false) }) (v := ?_) rfl (by kernel_rfl) (by kernel_rfl) (by kernel_rfl) (fun _ _ _ h => h) (Or.inl ⟨by rfl, ?_⟩) (by assumption) ?_
                          rotate_left
                          · intro w7 hSw
                            try dsimp only at hSw
                            first | (go_simp; done) | (go_simp; with_reducible rfl)
                          try simp only [Act.put, List.setIfInBounds_toArray, List.set_cons_zero, List.set_cons_succ]
                          refine wpAnyH_take (i := 17) (oi := { dst := some 185, op := Go.Op.load 23 (Go.Operand.tmp 184), type := 23, pos := "apart.go:207", after := #[{ on := 16, ground := Go.Ground.data }, { on := 13, ground := Go.Ground.guard }], guard := some (13, false) }) (v := ?_) rfl (by kernel_rfl) (by kernel_rfl) (by kernel_rfl) (fun _ _ _ h => h) (Or.inl ⟨by rfl, ?_⟩) (by assumption) ?_
                          rotate_left
                          · intro w7 hSw
                            try dsimp only at hSw
                            first | (go_simp; done) | (go_simp; with_reducible rfl)
                          try simp only [Act.put, List.setIfInBounds_toArray, List.set_cons_zero, List.set_cons_succ]
                          refine wpAnyH_take (i := 18) (oi := { dst := some 186, op := Go.Op.move (Go.Operand.tmp 15), type := 3, pos := "apart.go:207", after := #[{ on := 13, ground := Go.Ground.guard }], guard := some (13, false) }) (v := ?_) rfl (by kernel_rfl) (by kernel_rfl) (by kernel_rfl) (fun _ _ _ h => h) (Or.inl ⟨by rfl, ?_⟩) (by assumption) ?_
                          rotate_left
                          · intro w7 hSw
                            try dsimp only at hSw
                            first | (go_simp; done) | (go_simp; with_reducible rfl)
                          try simp only [Act.put, List.setIfInBounds_toArray, List.set_cons_zero, List.set_cons_succ]
                          refine wpAnyH_take (i := 19) (oi := { dst := some 187, op := Go.Op.indexAddr 23 (Go.Operand.tmp 185) (Go.Operand.tmp 186), type := 0, pos := "apart.go:207", after := #[{ on := 17, ground := Go.Ground.data }, { on := 18, ground := Go.Ground.data }, { on := 13, ground := Go.Ground.guard }], guard := some (13, false) }) (v := ?_) rfl (by kernel_rfl) (by kernel_rfl) (by kernel_rfl) (fun _ _ _ h => h) (Or.inl ⟨by rfl, ?_⟩) (by assumption) ?_
                          rotate_left
                          · intro w7 hSw
                            try dsimp only at hSw
                            first | (go_simp; done) | (go_simp; with_reducible rfl)
                          try simp only [Act.put, List.setIfInBounds_toArray, List.set_cons_zero, List.set_cons_succ]
                          refine wpAnyH_take (i := 20) (oi := { dst := some 188, op := Go.Op.load 36 (Go.Operand.tmp 187), type := 36, pos := "apart.go:207", after := #[{ on := 19, ground := Go.Ground.data }, { on := 13, ground := Go.Ground.guard }], guard := some (13, false) }) (v := ?_) rfl (by kernel_rfl) (by kernel_rfl) (by kernel_rfl) (fun _ _ _ h => h) (Or.inl ⟨by rfl, ?_⟩) (by assumption) ?_
                          rotate_left
                          · intro w7 hSw
                            try dsimp only at hSw
                            first | (go_simp; done) | (go_simp; with_reducible rfl)
                          try simp only [Act.put, List.setIfInBounds_toArray, List.set_cons_zero, List.set_cons_succ]
                          refine wpAnyH_take (i := 21) (oi := { dst := some 189, op := Go.Op.move (Go.Operand.tmp 14), type := 3, pos := "apart.go:207", after := #[{ on := 13, ground := Go.Ground.guard }], guard := some (13, false) }) (v := ?_) rfl (by kernel_rfl) (by kernel_rfl) (by kernel_rfl) (fun _ _ _ h => h) (Or.inl ⟨by rfl, ?_⟩) (by assumption) ?_
                          rotate_left
                          · intro w7 hSw
                            try dsimp only at hSw
                            first | (go_simp; done) | (go_simp; with_reducible rfl)
                          try simp only [Act.put, List.setIfInBounds_toArray, List.set_cons_zero, List.set_cons_succ]
                          refine wpAnyH_take (i := 22) (oi := { dst := some 190, op := Go.Op.move (Go.Operand.tmp 15), type := 3, pos := "apart.go:207", after := #[{ on := 13, ground := Go.Ground.guard }], guard := some (13, false) }) (v := ?_) rfl (by kernel_rfl) (by kernel_rfl) (by kernel_rfl) (fun _ _ _ h => h) (Or.inl ⟨by rfl, ?_⟩) (by assumption) ?_
                          rotate_left
                          · intro w7 hSw
                            try dsimp only at hSw
                            first | (go_simp; done) | (go_simp; with_reducible rfl)
                          try simp only [Act.put, List.setIfInBounds_toArray, List.set_cons_zero, List.set_cons_succ]
                          refine wpAnyH_ready (rs := [23]) (by kernel_rfl) (by simp) ?_
                          refine AllReadyH.cons (o := { dst := some 191, op := Go.Op.call { callee := Go.Callee.value (Go.Operand.func 20), args := #[Go.Operand.tmp 189, Go.Operand.tmp 190], argTypes := #[3, 3] }, type := 9, pos := "apart.go:207", after := #[{ on := 21, ground := Go.Ground.data }, { on := 22, ground := Go.Ground.data }, { on := 13, ground := Go.Ground.chain }, { on := 13, ground := Go.Ground.guard }], guard := some (13, false) }) rfl (fun K hK => ?_) AllReadyH.nil
                          go_simp
                          (go_at_call 20; refine (HM.out _).mono ?_; rintro e9 w9 ⟨rfl, k9⟩)
                          go_wp2_with fail
                          refine hK.out _ _ (HS.out _ (hHeld.2.2.2.2.2.2.2.2.2.2.trans' k9)) (fun hHeld2 => ?_)
                          try dsimp only at hHeld2
                          clear hK hHeld
                          have hHeld := hHeld2
                          clear hHeld2
                          try simp only [Act.put, List.setIfInBounds_toArray, List.set_cons_zero, List.set_cons_succ]
                          refine wpAnyH_take (i := 24) (oi := { dst := some 192, op := Go.Op.build 36 #[(0, Go.Operand.const (Go.Value.int Go.IntKind.i64 (-7))), (1, Go.Operand.tmp 191)], type := 36, pos := "apart.go:207", after := #[{ on := 23, ground := Go.Ground.data }, { on := 13, ground := Go.Ground.guard }], guard := some (13, false) }) (v := ?_) rfl (by kernel_rfl) (by kernel_rfl) (by kernel_rfl) (fun _ _ _ h => h) (Or.inl ⟨by rfl, ?_⟩) (by assumption) ?_
                          rotate_left
                          · intro w7 hSw
                            try dsimp only at hSw
                            first | (go_simp; done) | (go_simp; with_reducible rfl)
                          try simp only [Act.put, List.setIfInBounds_toArray, List.set_cons_zero, List.set_cons_succ]
                          refine wpAnyH_take (i := 25) (oi := { dst := some 193, op := Go.Op.binOp Go.BinOp.eql 36 (Go.Operand.tmp 188) (Go.Operand.tmp 192) 36, type := 4, pos := "apart.go:207", after := #[{ on := 20, ground := Go.Ground.data }, { on := 24, ground := Go.Ground.data }, { on := 13, ground := Go.Ground.guard }], guard := some (13, false) }) (v := ?_) rfl (by kernel_rfl) (by kernel_rfl) (by kernel_rfl) (fun _ _ _ h => h) (Or.inl ⟨by rfl, ?_⟩) (by assumption) ?_
                          rotate_left
                          · intro w7 hSw
                            try dsimp only at hSw
                            first | (go_simp; done) | (go_simp; with_reducible rfl)
                          try simp only [Act.put, List.setIfInBounds_toArray, List.set_cons_zero, List.set_cons_succ]
                          refine wpAnyH_take (i := 26) (oi := { dst := some 194, op := Go.Op.unOp Go.UnOp.not 4 (Go.Operand.tmp 193), type := 4, pos := "apart.go:207", after := #[{ on := 25, ground := Go.Ground.data }, { on := 13, ground := Go.Ground.guard }], guard := some (13, false) }) (v := ?_) rfl (by kernel_rfl) (by kernel_rfl) (by kernel_rfl) (fun _ _ _ h => h) (Or.inl ⟨by rfl, ?_⟩) (by assumption) ?_
                          rotate_left
                          · intro w7 hSw
                            try dsimp only at hSw
                            first | (go_simp; done) | (go_simp; with_reducible rfl)
                          try simp only [Act.put, List.setIfInBounds_toArray, List.set_cons_zero, List.set_cons_succ]
                          refine wpAnyH_take (i := 27) (oi := { dst := some 195, op := Go.Op.pick (Go.Operand.tmp 181) (Go.Operand.const (Go.Value.bool true)) (Go.Operand.tmp 194), type := 4, pos := "apart.go:207", after := #[{ on := 13, ground := Go.Ground.data }, { on := 26, ground := Go.Ground.data }], guard := none }) (v := ?_) rfl (by kernel_rfl) (by kernel_rfl) (by kernel_rfl) (fun _ _ _ h => h) (Or.inl ⟨by rfl, ?_⟩) (by assumption) ?_
                          rotate_left
                          · intro w7 hSw
                            try dsimp only at hSw
                            first | (go_simp; done) | (go_simp; with_reducible rfl)
                          try simp only [Act.put, List.setIfInBounds_toArray, List.set_cons_zero, List.set_cons_succ]
                          refine wpAnyH_done (by kernel_rfl) ?_ _
                          have HZ : Hid (Keep [] w6 _) := hHeld.2.2.2.2.2.2.2.2.2.2
                          clear hHeld
                          go_wp2
                          go_roundw
                          case rel => exact ⟨i + 1, by go_num, by omega, HZ⟩
                          case measure => simp [intOf]; omega
                        · have hili : ¬ ((i : Int) < (ck : Int)) := by omega
                          clear HC
                          go_wp2
                          go_roundw
                          case rel => exact ⟨k + 1, by go_num, by omega, HK⟩
                          case measure => simp [intOf]; omega
                    · have hki4 : ¬ ((k : Int) < (j : Int)) := by omega
                      have HZ : Hid (Keep (blks j F) w wr) := HP.out.1.kp.more HK.out (fun _ hx => by cases hx)
                      clear HP
                      go_wp2
                      go_ret
                      exact ⟨rfl, HZ.out⟩
end Go.Proofs.Ytmglbcldjhdhkab
