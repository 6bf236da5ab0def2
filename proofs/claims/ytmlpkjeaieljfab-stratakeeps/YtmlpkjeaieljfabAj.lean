/- Rows of numbers that lie apart: ApartInts answers true, and nothing but these rows is another one. -/
import Derived.Test.YtmlpkjeaieljfabAi
namespace Go.Proofs.Ytmlpkjeaieljfab
namespace Ia
open Go.RowKit Go.PlainAid

theorem Ap.form {w : World} {b n : Nat} {F : Nat → Value} {m : Nat → List Int} (h : Ap w b n F m) (k : Nat) (hk : k < n) : ∃ ao cap, F k = .slice ao (m k).length cap ∧ (m k).length ≤ cap ∧ cap ≤ 9223372036854775807 ∧ (0 < (m k).length → ∃ g, ao = some ⟨g, 0, none⟩) := by
  rcases (h.row k hk).cases with ⟨h0, hv⟩ | ⟨g, cap, hv, h1, h2, _⟩
  · exact ⟨none, 0, by rw [hv, h0]; rfl, by simp [h0], by omega, fun h => by simp [h0] at h⟩
  · exact ⟨some ⟨g, 0, none⟩, cap, hv, h1, h2, fun _ => ⟨g, rfl⟩⟩

set_option maxRecDepth 1000000 in
set_option maxHeartbeats 12800000 in
theorem apart_any (b n : Nat) (F : Nat → Value) (m0 : Nat → List Int) (c : Nat → Nat) (w : World) (hA : Ap w b n F m0) (hc : ∀ k, (m0 k).length = c k) (hn : n ≤ 100) (hb : b < w.heap.size) (hsz : ∀ k, c k ≤ 1099511627776) :
    Calls Try.prog 16 #[.slice (some ⟨b, 0, none⟩) n n] w fun e w' => e = .returned (.bool true) ∧ Keep (blks n F) w w' := by
  have HF : Hid (∀ j, j < n → ∀ x, (F j).ownBlock = some x → x < w.heap.size) := fun j hj x hx => (hA.row j hj).lt x hx
  have H0 : Hid (Ph1 w w b n F c 0 m0) := ⟨hA, hc, fun j hj => by omega, Keep.refl _ _⟩
  clear hA hc
  go_enter Try.func16, Try.ntmps16
  go_wp2
  go_loopw [3] (fun kv wr => ∃ (k : Nat) (m : Nat → List Int), kv = .int .i64 (k : Int) ∧ k ≤ n ∧ Ph1 w wr b n F c k m) (fun kv _ => n - (intOf kv).toNat)
  case atStart => exact ⟨0, m0, rfl, Nat.zero_le _, H0.out⟩
  case round =>
    obtain ⟨k, m, rfl, hkn, hP⟩ := hrel
    clear H0
    by_cases hk : k < n
    · have hki : (k : Int) < (n : Int) := by omega
      obtain ⟨ao, cap, hFk, hlc, hcm, hpos⟩ := hP.ap.form k hk
      rw [hP.len k] at hFk hlc hpos
      have hck := hsz k
      have HP : Hid (Ph1 w wr b n F c k m) := hP
      clear hP
      go_wp2
      go_loopw [4] (fun iv wr => ∃ (i : Nat) (m : Nat → List Int), iv = .int .i64 (i : Int) ∧ i ≤ c k ∧ Ph1 w wr b n F c k m ∧ (m k).take i = marks k i) (fun iv _ => c k - (intOf iv).toNat)
      case atStart => exact ⟨0, m, rfl, Nat.zero_le _, HP.out, by simp [marks]⟩
      case round =>
        obtain ⟨i, m', rfl, hi, hP, ht⟩ := hrel
        clear HP
        have hcell := hP.ap.cell k hk
        by_cases hil : i < c k
        · obtain ⟨g, rfl⟩ := hpos (by omega)
          obtain ⟨m2, hP2, ht2⟩ := hP.step hk hil hFk ht
          have hrow := hP.ap.row k hk
          rw [hFk] at hcell hrow
          have hci : wr.cell? ⟨g, i, none⟩ = some (.int .i64 ((m' k).getD i 0)) := by
            have hl := hP.len k
            rcases hrow.cases with ⟨_, hv⟩ | ⟨g', cap', hv, _, _, _, h4, _⟩
            · simp at hv
            · simp at hv
              obtain ⟨rfl, _⟩ := hv
              exact h4 i (by omega)
          have hfr : wr.frozen? ⟨g, i, none⟩ = false := by
            rcases hrow.cases with ⟨_, hv⟩ | ⟨g', cap', hv, _, _, _, _, h5⟩
            · simp at hv
            · simp at hv
              obtain ⟨rfl, _⟩ := hv
              exact h5 i
          have hM : ∀ w9, Calls Try.prog 24 #[.int .i64 (k : Int), .int .i64 (i : Int)] w9 fun e w' => e = .returned (.int .i64 (mkB k i)) ∧ w' = w9 := fun w9 => markByte_any k i (by omega) (by omega) w9
          have HP2 : Hid (Ph1 w (wr.setCell ⟨g, i, none⟩ (.int .i64 (mkB k i))) b n F c k m2 ∧ (m2 k).take (i + 1) = marks k (i + 1)) := ⟨hP2, ht2⟩
          generalize mkB k i = x at hM HP2
          generalize (m' k).getD i 0 = y at hci
          have hili : (i : Int) < (c k : Int) := by omega
          clear hP hP2 ht2 ht hrow hpos hFk
          generalize c k = ck at *
          go_wp2
          go_region_with (first | (go_at_call 24; refine (hM _).mono ?_; rintro e9 w9 ⟨rfl, hw9⟩; obtain rfl := hw9.symm))
          all_goals
            go_wp2
            go_roundw
            case rel => exact ⟨i + 1, m2, by go_num, by omega, HP2.out.1.drew, HP2.out.2⟩
            case measure => simp [intOf]; omega
        · have hic : i = c k := by omega
          subst hic
          rw [hFk] at hcell
          have HP : Hid (Ph1 w wr b n F c (k + 1) m') := hP.next ht
          have hili : ¬ ((c k : Int) < (c k : Int)) := by omega
          clear hP ht hpos hFk
          generalize c k = ck at *
          go_wp2
          go_roundw
          case rel => exact ⟨k + 1, m', by go_num, by omega, HP.out⟩
          case measure => simp [intOf]; omega
    · have hkk : k = n := by omega
      subst hkk
      have H2 : Hid (Ph2 w wr b k F c (.slice none 0 0) 0 F (fun _ => [])) := Ph2.zero hP hb HF.out
      clear hP hk
      have hki : ¬ ((k : Int) < (k : Int)) := by omega
      go_wp2
      go_loopw [5, 6] (fun gv kv wr => ∃ (j : Nat) (G : Nat → Value) (q : Nat → List Int), kv = .int .i64 (j : Int) ∧ j ≤ k ∧ Ph2 w wr b k F c gv j G q ∧ ∀ i, i < j → q i = marks i (c i + 64)) (fun _ kv _ => k - (intOf kv).toNat)
      case atStart => exact ⟨0, _, _, rfl, Nat.zero_le _, H2.out, fun i hi => by omega⟩
      case round =>
        obtain ⟨j, G, q, rfl, hjk, hP, hq⟩ := hrel
        clear H2
        by_cases hj : j < k
        · have hji : (j : Int) < (k : Int) := by omega
          obtain ⟨ao, cap, hFj, hlc, hcm, -⟩ := hP.ap.form j hj
          simp only [marks_len] at hFj hlc
          have hcell := hP.ap.cell j hj
          rw [hFj] at hcell
          have hcj := hsz j
          have HG : Hid (Gw wr wr (F j) (.slice ao (c j) cap) j (c j) 0) := by
            have h1 := hP.ap.row j hj
            have h2 : Gw wr wr (F j) (F j) j (c j) 0 := ⟨h1, h1, Keep.refl _ _, .inl rfl⟩
            rw [← hFj]
            exact h2
          have HP : Hid (Ph2 w wr b k F c u5 j G q ∧ ∀ i, i < j → q i = marks i (c i + 64)) := ⟨hP, hq⟩
          have HFj : Hid (F j = .slice ao (c j) cap) := hFj
          have hcj0 : (0 : Int) ≤ (c j : Int) := by omega
          clear hP hq hFj
          rename World => w1
          go_wp2
          go_loopw [7, 8] (fun vv iv w2 => ∃ (i : Nat), iv = .int .i64 (i : Int) ∧ i ≤ 64 ∧ Gw w1 w2 (F j) vv j (c j) i) (fun _ iv _ => 64 - (intOf iv).toNat)
          case atStart => exact ⟨0, rfl, by omega, HG.out⟩
          case round =>
            obtain ⟨i, rfl, hi, hG⟩ := hrel
            clear HG
            obtain ⟨hP2, hd1, hd2, hd3⟩ := HP.out.1.grown hj hG
            have hcell2 := hP2.ap.cell j hj
            rw [HFj.out] at hcell2
            by_cases hil : i < 64
            · have hili : (i : Int) < 64 := by omega
              have hM : ∀ w9, Calls Try.prog 24 #[.int .i64 (j : Int), .int .i64 ((c j : Int) + (i : Int))] w9 fun e w' => e = .returned (.int .i64 (mkB j (c j + i))) ∧ w' = w9 := fun w9 => by
                have := markByte_any j (c j + i) (by omega) (by omega) w9
                rw [Int.natCast_add] at this
                exact this
              have hx := marks_succ j (c j + i)
              generalize mkB j (c j + i) = x at hM hx
              have hsrc := src_one wr x
              have hr2 : Row (wr.alloc (.cells #[.int .i64 x] TB)) u7 (marks j (c j + i)) := hG.row.keep (Keep.alloc1 wr _) (Off.nil _)
              have HB : Hid ((marks j (c j + i)).length + [x].length ≤ 17592186044416) := by
                show (marks j (c j + i)).length + [x].length ≤ 17592186044416
                simp [marks_len]; omega
              have HX : Hid (marks j (c j + (i + 1)) = marks j (c j + i) ++ [x]) := hx
              have HG : Hid (Gw w1 wr (F j) u7 j (c j) i) := hG
              clear hx hG hP2 hd1 hd2 hd3 hcell
              go_wp2_with (first
                | (go_at_call 24; refine (hM _).mono ?_; rintro e9 w9 ⟨rfl, hw9⟩; obtain rfl := hw9.symm)
                | (at_builtin; refine wp_app2 rfl (.tmp 54) (.tmp 64) 28 28 rfl underS _ (marks j (c j + i)) rfl hr2 _ [x] rfl hsrc HB.out ?_))
              intro v' w9 g1 g2 g3 g4 g5
              have HG2 : Hid (Gw w1 w9 (F j) v' j (c j) (i + 1)) := HG.out.step g2 g3 (by rw [HX.out]; exact g1) g5
              clear g1 g2 g3 g4 g5 hsrc hr2 hM hcell2
              go_wp2
              go_roundw
              case rel => exact ⟨i + 1, by go_num, by omega, HG2.out⟩
              case measure => simp [intOf]; omega
            · have hi64 : i = 64 := by omega
              subst hi64
              obtain ⟨a7, l7, c7, rfl⟩ : ∃ a l cp, u7 = .slice a l cp := by
                obtain ⟨a, cp, h, _⟩ := hG.row.formA
                exact ⟨a, _, cp, h⟩
              have hsrc := srcS wr (.slice a7 l7 c7) rfl
              have hgs : RowC (wr.alloc (.cells #[(.slice a7 l7 c7)] TS)) TS 1 u5 j ((List.range j).map G) := hP2.gr.gs.keep (Keep.alloc1 wr _) (Off.nil _)
              have HN : Hid (Ph2 w wr b k F c u5 j G q ∧ Row wr (.slice a7 l7 c7) (marks j (c j + 64)) ∧ (∀ i, i < j → ∀ x, (G i).ownBlock = some x → (Value.slice a7 l7 c7).ownBlock ≠ some x) ∧ (∀ x, u5.ownBlock = some x → (Value.slice a7 l7 c7).ownBlock ≠ some x) ∧ ((Value.slice a7 l7 c7).ownBlock = (F j).ownBlock ∨ ∀ x, (Value.slice a7 l7 c7).ownBlock = some x → w.heap.size ≤ x)) := ⟨hP2, hG.row, hd1, hd2, hd3⟩
              clear hG hP2 hd1 hd2 hd3 hcell hcell2
              go_wp2_with (first
                | (at_builtin; refine wp_appC infoS rfl rfl (.tmp 66) (.tmp 68) 41 41 rfl underSS _ j ((List.range j).map G) rfl hgs _ 1 [(.slice a7 l7 c7)] rfl hsrc (by omega) (by simp only [maxLen]; omega) ?_))
              intro v' w9 g1 g2 g3 g4 g5
              have HP9 : Hid (Ph2 w w9 b k F c v' (j + 1) (updF G j (.slice a7 l7 c7)) (updF q j (marks j (c j + 64)))) := HN.out.1.next hj HN.out.2.1 HN.out.2.2.1 HN.out.2.2.2.1 HN.out.2.2.2.2 g1 g2 g3
              have HQ : Hid (∀ i, i < j + 1 → updF q j (marks j (c j + 64)) i = marks i (c i + 64)) := by
                intro i hi
                by_cases e : i = j
                · subst e
                  rw [updF_at]
                · rw [updF_ne _ _ _ e]
                  exact HP.out.2 i (by omega)
              clear g1 g2 g3 g4 g5 hsrc hgs HN
              go_wp2
              go_roundw
              case rel => exact ⟨j + 1, _, _, by go_num, by omega, HP9.out, HQ.out⟩
              case measure => simp [intOf]; omega
        · have hjj : j = k := by omega
          subst hjj
          have HP : Hid (Ph2 w wr b j F c u5 j G q ∧ ∀ i, i < j → q i = marks i (c i + 64)) := ⟨hP, hq⟩
          clear hP hq hj
          rename World => w3
          go_wp2
          go_loopw [9] (fun kv wr => ∃ (k t : Nat), kv = .int .i64 (k : Int) ∧ k ≤ j ∧ wr = w3.drewN t) (fun kv _ => j - (intOf kv).toNat)
          case atStart => exact ⟨0, 0, rfl, Nat.zero_le _, rfl⟩
          case round =>
            obtain ⟨k, t, rfl, hkj, rfl⟩ := hrel
            by_cases hk : k < j
            · have hki2 : (k : Int) < (j : Int) := by omega
              obtain ⟨r, hr, hrl⟩ := marks_app k (c k) 64
              obtain ⟨ao, cap, ag, capg, gg, gc, hgv, hg1, hg2, hgk, hG1, hG2, hlk, hF1, hF2, hcF, hcG⟩ := HP.out.1.look hk ((HP.out.2 k hk).trans hr)
              rw [hrl] at hgk hG1 hcG
              rw [HP.out.2 k hk] at hcG
              have HC : Hid ((∀ i, i < c k → ∃ g1, ao = some ⟨g1, 0, none⟩ ∧ w3.cell? ⟨g1, i, none⟩ = some (.int .i64 (mkB k i))) ∧ (∀ i, i < c k + 64 → ∃ g2, ag = some ⟨g2, 0, none⟩ ∧ w3.cell? ⟨g2, i, none⟩ = some (.int .i64 (mkB k i)))) := by
                refine ⟨hcF, fun i hi => ?_⟩
                obtain ⟨g2, h1, h2⟩ := hcG i hi
                exact ⟨g2, h1, by rw [h2, marks_get k _ i hi]⟩
              have hck := hsz k
              clear hr hcF hcG
              subst hgv
              generalize c k = ck at hgk hG1 hlk hF1 HC hck
              go_wp2
              go_loopw [10] (fun iv wr => ∃ (i t : Nat), iv = .int .i64 (i : Int) ∧ i ≤ ck + 64 ∧ wr = w3.drewN t) (fun iv _ => ck + 64 - (intOf iv).toNat)
              case atStart => exact ⟨0, t, rfl, Nat.zero_le _, rfl⟩
              case round =>
                obtain ⟨i, t, rfl, hi, rfl⟩ := hrel
                by_cases hil : i < ck + 64
                · obtain ⟨g2, rfl, hc2⟩ := HC.out.2 i hil
                  have hili : (i : Int) < (ck : Int) + 64 := by omega
                  by_cases hin : i < ck
                  · obtain ⟨g1, rfl, hc1⟩ := HC.out.1 i hin
                    have hini : (i : Int) < (ck : Int) := by omega
                    have hM : ∀ n, Calls Try.prog 24 #[.int .i64 (k : Int), .int .i64 (i : Int)] (w3.drewN n) fun e w' => e = .returned (.int .i64 (mkB k i)) ∧ w' = w3.drewN n := fun n => markByte_any k i (by omega) (by omega) (w3.drewN n)
                    generalize mkB k i = y at hc1 hc2 hM
                    clear HC
                    go_wp2
                    go_quiet (first | (go_at_call 24; refine (hM _).mono ?_; rintro e9 w9 ⟨rfl, rfl⟩; exact ⟨rfl, _, rfl⟩))
                    go_wp2
                    go_roundw
                    case rel => exact ⟨i + 1, _, by go_num, by omega, rfl⟩
                    case measure => simp [intOf]; omega
                  · obtain ⟨d, rfl⟩ : ∃ d, i = ck + d := ⟨i - ck, by omega⟩
                    have hM : ∀ n, Calls Try.prog 24 #[.int .i64 (k : Int), .int .i64 ((ck : Int) + (d : Int))] (w3.drewN n) fun e w' => e = .returned (.int .i64 (mkB k (ck + d))) ∧ w' = w3.drewN n := fun n => by
                      have := markByte_any k (ck + d) (by omega) (by omega) (w3.drewN n)
                      rw [Int.natCast_add] at this
                      exact this
                    generalize mkB k (ck + d) = y at hc2 hM
                    have g1 : decide (ck + d < ck) = false := by simp
                    have g5 : decide ((ck : Int) + (d : Int) < (ck : Int)) = false := by simp; omega
                    have g4 : (ck : Int) ≤ (ck : Int) + (d : Int) := by omega
                    have hjn : (0 : Int) ≤ (ck : Int) + (d : Int) := by omega
                    have hdd : d < 64 := by omega
                    clear HC
                    go_wp2
                    go_quiet (first | (go_at_call 24; refine (hM _).mono ?_; rintro e9 w9 ⟨rfl, rfl⟩; exact ⟨rfl, _, rfl⟩))
                    go_wp2
                    go_roundw
                    case rel => exact ⟨ck + d + 1, _, by go_num, by omega, rfl⟩
                    case measure => simp [intOf]; omega
                · have hili : ¬ ((i : Int) < (ck : Int) + 64) := by omega
                  clear HC
                  go_wp2
                  go_roundw
                  case rel => exact ⟨k + 1, t, by go_num, by omega, rfl⟩
                  case measure => simp [intOf]; omega
            · have hki2 : ¬ ((k : Int) < (j : Int)) := by omega
              have HP4 : Hid (Ph2 w (w3.drewN t) b j F c u5 j G q ∧ ∀ i, i < j → ∃ r, q i = marks i (c i) ++ r) := by
                refine ⟨HP.out.1.same ((Keep.refl [] _).drewN t), fun i hi => ?_⟩
                obtain ⟨r, hr, _⟩ := marks_app i (c i) 64
                exact ⟨r, by rw [HP.out.2 i hi, hr]⟩
              clear HP
              generalize w3.drewN t = w4 at HP4 ⊢
              go_wp2
              go_loopw [11] (fun kv wr => ∃ (k : Nat) (G : Nat → Value) (q : Nat → List Int), kv = .int .i64 (k : Int) ∧ k ≤ j ∧ Ph2 w wr b j F c u5 j G q ∧ ∀ i, i < j → ∃ r, q i = marks i (c i) ++ r) (fun kv _ => j - (intOf kv).toNat)
              case atStart => exact ⟨0, _, _, rfl, Nat.zero_le _, HP4.out.1, HP4.out.2⟩
              case round =>
                clear HP4
                obtain ⟨k, G, q, rfl, hkj, hP, hq⟩ := hrel
                by_cases hk : k < j
                · have hki3 : (k : Int) < (j : Int) := by omega
                  obtain ⟨ao, cap, hFk, hlc, hcm, -⟩ := hP.ap.form k hk
                  simp only [marks_len] at hFk hlc
                  have hcell := hP.ap.cell k hk
                  rw [hFk] at hcell
                  obtain ⟨gg, gc, hgv, hg1, hg2, -, -⟩ := hP.form (by omega)
                  have hck := hsz k
                  have HP : Hid (Ph2 w wr b j F c u5 j G q ∧ (∀ i, i < j → ∃ r, q i = marks i (c i) ++ r) ∧ F k = .slice ao (c k) cap ∧ u5 = .slice (some ⟨gg, 0, none⟩) j gc) := ⟨hP, hq, hFk, hgv⟩
                  clear hP hq hFk hgv
                  rename World => w5
                  go_wp2
                  go_loopw [12, 13] (fun mv iv wr => ∃ (i : Nat) (l : List Int), iv = .int .i64 (i : Int) ∧ i ≤ 64 ∧ Row wr mv l ∧ l.length = i ∧ Keep [] w5 wr ∧ Fresh w5 wr mv) (fun _ iv _ => 64 - (intOf iv).toNat)
                  case atStart => exact ⟨0, [], rfl, by omega, Row.nil _, rfl, Keep.refl _ _, Fresh.nil _ _⟩
                  case round =>
                    obtain ⟨i, l, rfl, hi, hrow, hl, hK, hfr⟩ := hrel
                    by_cases hil : i < 64
                    · have hili : (i : Int) < 64 := by omega
                      have hM : ∀ w9, Calls Try.prog 24 #[.int .i64 ((k : Int) + (j : Int)), .int .i64 (i : Int)] w9 fun e w' => e = .returned (.int .i64 (mkB (k + j) i)) ∧ w' = w9 := fun w9 => by
                        have := markByte_any (k + j) i (by omega) (by omega) w9
                        rw [Int.natCast_add] at this
                        exact this
                      generalize mkB (k + j) i = x at hM
                      have hsrc := src_one wr x
                      have hr2 : Row (wr.alloc (.cells #[.int .i64 x] TB)) u12 l := hrow.keep (Keep.alloc1 wr _) (Off.nil _)
                      have HB : Hid (l.length + [x].length ≤ 17592186044416) := by
                        show l.length + [x].length ≤ 17592186044416
                        simp; omega
                      have HKF : Hid (Keep [] w5 wr ∧ Fresh w5 wr u12 ∧ l.length = i) := ⟨hK, hfr, hl⟩
                      clear hrow hl hK hfr hcell
                      go_wp2_with (first
                        | (go_at_call 24; refine (hM _).mono ?_; rintro e9 w9 ⟨rfl, hw9⟩; obtain rfl := hw9.symm)
                        | (at_builtin; refine wp_app rfl (.tmp 130) (.tmp 137) 28 28 rfl underS _ l rfl hr2 _ [x] rfl hsrc HB.out ?_))
                      intro v' w9 g1 g2 g3 g4
                      have HA : Hid (Keep [] w5 w9 ∧ Fresh w5 w9 v') := app_fresh HKF.out.1 HKF.out.2.1 g2 g3
                      have HR : Hid (Row w9 v' (l ++ [x]) ∧ (l ++ [x]).length = i + 1) := ⟨g1, by simp [HKF.out.2.2]⟩
                      clear g1 g2 g3 g4 hsrc hr2 hM
                      go_wp2
                      go_roundw
                      case rel => exact ⟨i + 1, l ++ [x], by go_num, by omega, HR.out.1, HR.out.2, HA.out.1, HA.out.2⟩
                      case measure => simp [intOf]; omega
                    · have hi64 : i = 64 := by omega
                      subst hi64
                      have hsrc := hrow.src
                      have hcell5 := hK.cell' hcell (by simp)
                      have hP6 := HP.out.1.same hK
                      have hrF := hP6.ap.row k hk
                      rw [HP.out.2.2.1] at hrF
                      have HB : Hid ((marks k (c k)).length + l.length ≤ 17592186044416) := by
                        show (marks k (c k)).length + l.length ≤ 17592186044416
                        rw [marks_len]; omega
                      have HP6 : Hid (Ph2 w wr b j F c u5 j G q) := hP6
                      have HQ : Hid ((∀ i, i < j → ∃ r, q i = marks i (c i) ++ r) ∧ F k = .slice ao (c k) cap ∧ u5 = .slice (some ⟨gg, 0, none⟩) j gc) := HP.out.2
                      have HU : Hid (u5 = .slice (some ⟨gg, 0, none⟩) j gc) := HP.out.2.2.2
                      clear HP hP6 hrow hK hfr hcell
                      obtain rfl := HU.out
                      clear HU
                      go_wp2_with (first
                        | (at_builtin; refine wp_app2 rfl (.tmp 144) (.tmp 145) 28 28 rfl underS _ (marks k (c k)) rfl hrF _ l rfl hsrc HB.out ?_))
                      intro v' w9 g1 g2 g3 g4 g5
                      rw [← HQ.out.2.1] at g2 g3 g5
                      obtain ⟨hc9, hf9⟩ := HP6.out.form9 hk rfl g2
                      have HP9 : Hid (Ph2 w (w9.setCell ⟨gg, k, none⟩ v') b j F c (.slice (some ⟨gg, 0, none⟩) j gc) j (updF G k v') (updF q k (marks k (c k) ++ l))) := HP6.out.again hk rfl g2 g3 g1 g5
                      have HQ9 : Hid (∀ i, i < j → ∃ r, updF q k (marks k (c k) ++ l) i = marks i (c i) ++ r) := by
                        intro i hi
                        by_cases e : i = k
                        · subst e
                          exact ⟨l, updF_at _ _ _⟩
                        · rw [updF_ne _ _ _ e]
                          exact HQ.out.1 i hi
                      obtain ⟨a9, c9, rfl⟩ := g4
                      clear g1 g2 g3 g5 hsrc hrF hcell5 HP6 HQ
                      go_wp2
                      go_roundw
                      case rel => exact ⟨k + 1, _, _, by go_num, by omega, HP9.out, HQ9.out⟩
                      case measure => simp [intOf]; omega
                · have hki3 : ¬ ((k : Int) < (j : Int)) := by omega
                  have HP : Hid (Ph2 w wr b j F c u5 j G q ∧ ∀ i, i < j → ∃ r, q i = marks i (c i) ++ r) := ⟨hP, hq⟩
                  clear hP hq
                  rename World => w6
                  go_wp2
                  go_loopw [14] (fun kv wr => ∃ (k t : Nat), kv = .int .i64 (k : Int) ∧ k ≤ j ∧ wr = w6.drewN t) (fun kv _ => j - (intOf kv).toNat)
                  case atStart => exact ⟨0, 0, rfl, Nat.zero_le _, rfl⟩
                  case round =>
                    obtain ⟨k, t, rfl, hkj, rfl⟩ := hrel
                    by_cases hk : k < j
                    · have hki4 : (k : Int) < (j : Int) := by omega
                      obtain ⟨r, hr⟩ := HP.out.2 k hk
                      obtain ⟨ao, cap, ag, capg, gg, gc, hgv, hg1, hg2, hgk, hG1, hG2, hlk, hF1, hF2, hcF, hcG⟩ := HP.out.1.look hk hr
                      have HC : Hid ((∀ i, i < c k → ∃ g1, ao = some ⟨g1, 0, none⟩ ∧ w6.cell? ⟨g1, i, none⟩ = some (.int .i64 (mkB k i))) ∧ (∀ i, i < c k → ∃ g2, ag = some ⟨g2, 0, none⟩ ∧ w6.cell? ⟨g2, i, none⟩ = some (.int .i64 (mkB k i)))) := by
                        refine ⟨hcF, fun i hi => ?_⟩
                        obtain ⟨g2, h1, h2⟩ := hcG i (by omega)
                        refine ⟨g2, h1, ?_⟩
                        rw [h2, hr, List.getD_eq_getElem?_getD, List.getElem?_append_left (by rw [marks_len]; exact hi), ← List.getD_eq_getElem?_getD, marks_get k _ i hi]
                      have hck := hsz k
                      clear hr hcF hcG
                      subst hgv
                      generalize hrl : r.length = rl at hgk hG1
                      clear hrl
                      generalize c k = ck at hgk hG1 hlk hF1 HC hck
                      go_wp2
                      go_loopw [15] (fun iv wr => ∃ (i t : Nat), iv = .int .i64 (i : Int) ∧ i ≤ ck ∧ wr = w6.drewN t) (fun iv _ => ck - (intOf iv).toNat)
                      case atStart => exact ⟨0, t, rfl, Nat.zero_le _, rfl⟩
                      case round =>
                        obtain ⟨i, t, rfl, hi, rfl⟩ := hrel
                        by_cases hil : i < ck
                        · obtain ⟨g2, rfl, hc2⟩ := HC.out.2 i hil
                          obtain ⟨g1, rfl, hc1⟩ := HC.out.1 i hil
                          have hili : (i : Int) < (ck : Int) := by omega
                          have hili2 : (i : Int) < (ck : Int) + (rl : Int) := by omega
                          have hM : ∀ n, Calls Try.prog 24 #[.int .i64 (k : Int), .int .i64 (i : Int)] (w6.drewN n) fun e w' => e = .returned (.int .i64 (mkB k i)) ∧ w' = w6.drewN n := fun n => markByte_any k i (by omega) (by omega) (w6.drewN n)
                          generalize mkB k i = y at hc1 hc2 hM
                          clear HC
                          go_wp2
                          go_quiet (first | (go_at_call 24; refine (hM _).mono ?_; rintro e9 w9 ⟨rfl, rfl⟩; exact ⟨rfl, _, rfl⟩))
                          go_wp2
                          go_roundw
                          case rel => exact ⟨i + 1, _, by go_num, by omega, rfl⟩
                          case measure => simp [intOf]; omega
                        · have hili : ¬ ((i : Int) < (ck : Int)) := by omega
                          clear HC
                          go_wp2
                          go_roundw
                          case rel => exact ⟨k + 1, t, by go_num, by omega, rfl⟩
                          case measure => simp [intOf]; omega
                    · have hki4 : ¬ ((k : Int) < (j : Int)) := by omega
                      have HK : Hid (Keep (blks j F) w (w6.drewN t)) := HP.out.1.kp.drewN t
                      clear HP
                      go_wp2
                      go_ret
                      exact ⟨rfl, HK.out⟩

end Ia
end Go.Proofs.Ytmlpkjeaieljfab
