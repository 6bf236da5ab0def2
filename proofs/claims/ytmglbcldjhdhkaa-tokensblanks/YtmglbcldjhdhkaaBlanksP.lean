/- TokensBlanks, walked. -/
import Derived.Test.YtmglbcldjhdhkaaThereP
import Derived.Test.YtmglbcldjhdhkaaTkKe
namespace Go.Proofs.Ytmglbcldjhdhkaa
open Go.RowKit Go.PlainAid

/-- the slice v reads as the numbers l -/
structure In (w : World) (v : Value) (l : List Int) : Prop where
  ex : ∃ ao cap, v = .slice ao l.length cap ∧ l.length ≤ 9223372036854775807 ∧ (l ≠ [] → ∃ b o, ao = some ⟨b, o, none⟩ ∧ ∀ i (h : i < l.length), w.cell? ⟨b, o + i, none⟩ = some (.int .i64 l[i]))
  rg : ∀ x ∈ l, -9223372036854775808 ≤ x ∧ x ≤ 9223372036854775807
theorem In.at {w w' : World} {ao : Option Addr} {n cap : Nat} {l : List Int} (h : In w (.slice ao n cap) l) (k : Keep [] w w') (i : Nat) (hi : i < l.length) : ∃ b o, ao = some ⟨b, o, none⟩ ∧ w'.cell? ⟨b, o + i, none⟩ = some (.int .i64 l[i]) := by
  obtain ⟨ao2, cap2, e, h1, h4⟩ := h.ex
  simp only [Value.slice.injEq] at e
  obtain ⟨rfl, rfl, rfl⟩ := e
  obtain ⟨b, o, rfl, hc⟩ := h4 (by intro e; subst e; simp at hi)
  exact ⟨b, o, rfl, k.cell' (hc i hi) (by simp)⟩
theorem scan_wv (G : Nat → List UInt8) (P : List TokD) (hall : ∀ t ∈ P, printB t = true) (hg : ∀ i, i ≤ P.length → gapOk (G i)) (hs : ∀ i (_ : i < P.length) r, stopR (oneL P[i]) (G (i + 1) ++ r)) (htx : ∀ t ∈ P, t.text.length ≤ 2147483647) (hl : (txtG G P P.length ++ G P.length).length ≤ 65536) (w : World) :
    Calls Try.prog 9 #[.string (ba (txtG G P P.length ++ G P.length))] w fun e w' => ∃ a c, e = .returned (.tuple #[.slice a (P.length + 1) c, .agg #[.int .i64 0, .int .i64 0, .int .i64 0]]) ∧ Ts4 w' (.slice a (P.length + 1) c) (weaveT (1, 1) (itemsG G 0 P) (G P.length)) ∧ Keep [] w w' := by
  have h := scan_any (ba (txtG G P P.length ++ G P.length)) w (by rw [ba_size]; omega)
  rw [ba_toList, scanT, scan_gaps G P hall hg hs hl] at h
  simp only [Option.getD_some] at h
  refine h.mono ?_
  rintro e w' ⟨v, rfl, r, k, -⟩
  have ht : ∀ t ∈ weaveT (1, 1) (itemsG G 0 P) (G P.length), t.text.length ≤ 140737488351232 := by
    obtain ⟨Q, u, h1, _, h3, h2, h5⟩ := weaveT_app G P (G P.length) (1, 1) 0
    rw [h1]
    intro t ht
    rcases List.mem_append.1 ht with ht | ht
    · obtain ⟨i, hi, rfl⟩ := List.getElem_of_mem ht
      have := sameKT.at h5 i hi (by omega)
      rw [← this.2]
      have := htx P[i] (List.getElem_mem (by omega))
      omega
    · rw [List.mem_singleton.1 ht, h3]; simp
  have T := Ts4.ofRow r ht
  obtain ⟨a, c, e, _⟩ := T.ex
  rw [weaveT_len, itemsG_len] at e
  subst e
  exact ⟨a, c, rfl, T, k⟩
theorem cut_sub (l : List TokD) : (∀ t ∈ cutE l, t ∈ l) ∧ (cutE l).length ≤ l.length := by
  unfold cutE
  constructor
  · intro t ht
    split at ht
    · split at ht
      · exact (List.dropLast_sublist l).subset ht
      · exact ht
    · exact ht
  · split
    · split
      · simp
      · exact Nat.le_refl _
    · exact Nat.le_refl _
theorem ahead_print {P : List TokD} (h : ∀ t ∈ P, printB t = true) : aheadL P = P := by
  rcases List.eq_nil_or_concat P with rfl | ⟨Q, t, hl⟩
  · rfl
  · rw [List.concat_eq_append] at hl
    subst hl
    rw [ahead_snoc, if_neg (kind_ne (h t (by simp))).2]
/-- the text at the head of the i-th round -/
def headT (G : Nat → List UInt8) (P : List TokD) (i : Nat) : List UInt8 := if i ≤ P.length then txtG G P i else txtG G P P.length ++ G P.length

set_option maxRecDepth 1000000 in
set_option maxHeartbeats 8000000 in
theorem blanks_law (v u : Value) (l : List TokD) (gs : List Int) (w : World) (h : Ts4 w v l) (hgs : In w u gs) :
    Calls Try.prog 8 #[v, u] w fun e w' => e = .returned (.bool true) ∧ Keep [] w w' := by
  have hT : Hid (Ts4 w v l) := h
  have hN : Hid (In w u gs) := hgs
  obtain ⟨ag, cg, rfl, hgl, -⟩ := hgs.ex
  cases hb : beyondL l with
  | true =>
    have HB : Hid (Calls Try.prog 13 #[v] w fun e w' => e = .returned (.bool true) ∧ w' = w) := by
      have := beyond_any v l w h
      rwa [hb] at this
    go_enter Try.func8, Try.ntmps8
    go_wp2_with (go_at_call 13; refine (HB.out).mono ?_; rintro e w1 ⟨rfl, rfl⟩)
    go_ret
    exact ⟨rfl, Keep.refl _ _⟩
  | false =>
    have HB : Hid (Calls Try.prog 13 #[v] w fun e w' => e = .returned (.bool false) ∧ w' = w) := by
      have := beyond_any v l w h
      rwa [hb] at this
    obtain ⟨htx, hlen⟩ := beyond_ok hb
    have HTX : Hid _ := htx
    obtain ⟨al, cl, rfl, -⟩ := h.ex
    clear h htx hb hgs
    rcases print_cases l with hp | hp | ⟨hp, hall, hj⟩
    · have HP : Hid (∀ w v, Ts4 w v l → Calls Try.prog 15 #[v] w fun e w' => e = .returned (.tuple #[.string ⟨#[]⟩, .int .i64 50]) ∧ Keep [] w w') := fun w v h => by
        have := print_any v l w h
        rwa [hp] at this
      clear hp
      go_enter Try.func8, Try.ntmps8
      go_wp2_with (first | (go_at_call 13; refine (HB.out).mono ?_; rintro e w1 ⟨rfl, rfl⟩) | (go_at_call 12; refine (awake_any _).mono ?_; rintro e w2 ⟨rfl, k2⟩) | (go_at_call 19; refine (copyT_any _ l w2 (hT.out.keep k2 (Off.nil _)) hlen).mono ?_; rintro e w3 ⟨v3, rfl, r3, k3, -⟩) | (go_at_call 15; refine (HP.out w3 v3 (Ts4.ofRow r3 hT.out.txt)).mono ?_; rintro e w4 ⟨rfl, k4⟩))
      go_ret
      exact ⟨rfl, (k2.trans' k3).trans' k4⟩
    · have HP : Hid (∀ w v, Ts4 w v l → Calls Try.prog 15 #[v] w fun e w' => e = .returned (.tuple #[.string ⟨#[]⟩, .int .i64 3]) ∧ Keep [] w w') := fun w v h => by
        have := print_any v l w h
        rwa [hp] at this
      clear hp
      go_enter Try.func8, Try.ntmps8
      go_wp2_with (first | (go_at_call 13; refine (HB.out).mono ?_; rintro e w1 ⟨rfl, rfl⟩) | (go_at_call 12; refine (awake_any _).mono ?_; rintro e w2 ⟨rfl, k2⟩) | (go_at_call 19; refine (copyT_any _ l w2 (hT.out.keep k2 (Off.nil _)) hlen).mono ?_; rintro e w3 ⟨v3, rfl, r3, k3, -⟩) | (go_at_call 15; refine (HP.out w3 v3 (Ts4.ofRow r3 hT.out.txt)).mono ?_; rintro e w4 ⟨rfl, k4⟩))
      go_ret
      exact ⟨rfl, (k2.trans' k3).trans' k4⟩
    · have HP : Hid (∀ w v, Ts4 w v l → Calls Try.prog 15 #[v] w fun e w' => e = .returned (.tuple #[.string (ba (joinL (cutE l))), .int .i64 0]) ∧ Keep [] w w') := fun w v h => by
        have := print_any v l w h
        rwa [hp] at this
      by_cases hmany : 2000 < l.length
      · have hmi : (2000 : Int) < (l.length : Int) := by omega
        clear hp hall hj
        go_enter Try.func8, Try.ntmps8
        go_wp2_with (first | (go_at_call 13; refine (HB.out).mono ?_; rintro e w1 ⟨rfl, rfl⟩) | (go_at_call 12; refine (awake_any _).mono ?_; rintro e w2 ⟨rfl, k2⟩) | (go_at_call 19; refine (copyT_any _ l w2 (hT.out.keep k2 (Off.nil _)) hlen).mono ?_; rintro e w3 ⟨v3, rfl, r3, k3, -⟩) | (go_at_call 15; refine (HP.out w3 v3 (Ts4.ofRow r3 hT.out.txt)).mono ?_; rintro e w4 ⟨rfl, k4⟩))
        go_ret
        exact ⟨rfl, (k2.trans' k3).trans' k4⟩
      have hmi : decide ((2000 : Int) < (l.length : Int)) = false := by simp; omega
      have hA := ahead_cut l hall
      have HTP : Hid (∀ t ∈ cutE l, t.text.length ≤ 2147483647) := fun t ht => HTX.out t ((cut_sub l).1 t ht)
      have hPl0 := (cut_sub l).2
      have HA : Hid (∀ w v, Ts4 w v l → Calls Try.prog 21 #[v] w fun e w' => ∃ a c, e = .returned (.slice a (cutE l).length c) ∧ Ts4 w (.slice a (cutE l).length c) (cutE l) ∧ w' = w) := fun w v h => by
        have := ahead_any v l w h
        rw [hA] at this
        refine this.mono ?_
        rintro e w' ⟨v', rfl, t, hw⟩
        obtain ⟨a, c, rfl, -⟩ := t.ex
        exact ⟨a, c, rfl, t, hw⟩
      generalize cutE l = P at *
      have hPn : P.length ≤ 2000 := by omega
      have HQ : Hid (∀ w v, Ts4 w v P → Calls Try.prog 20 #[v] w fun e w' => ∃ a c, e = .returned (.tuple #[.slice a P.length c, .bool true]) ∧ RowS w' (.slice a P.length c) (P.map oneL) ∧ Keep [] w w') := fun w v h => by
        refine (pieces_any v P w h hall (fun t ht => Nat.le_trans (one_join P t ht) hj) (by omega)).mono ?_
        rintro e w' ⟨v', rfl, r, k, -⟩
        obtain ⟨a, c, rfl⟩ := r.slice
        rw [List.length_map] at r ⊢
        exact ⟨a, c, rfl, r, k⟩
      obtain ⟨G, hG⟩ : ∃ G, G = gapB P gs := ⟨_, rfl⟩
      have hGl : Hid (∀ i, (G i).length ≤ 9) := fun i => by rw [hG]; exact (gapB_ok P gs i).2
      have HS : Hid (∀ w, (txtG G P P.length ++ G P.length).length ≤ 65536 → Calls Try.prog 9 #[.string (ba (txtG G P P.length ++ G P.length))] w fun e w' => ∃ a c, e = .returned (.tuple #[.slice a (P.length + 1) c, .agg #[.int .i64 0, .int .i64 0, .int .i64 0]]) ∧ Ts4 w' (.slice a (P.length + 1) c) (weaveT (1, 1) (itemsG G 0 P) (G P.length)) ∧ Keep [] w w') := fun w hl => scan_wv G P hall (fun i _ => by rw [hG]; exact (gapB_ok P gs i).1) (fun i hi r => by rw [hG]; exact gapB_stop P gs i hi r) HTP.out hl w
      have HK : Hid (∀ w v a, Ts4 w v P → Ts4 w a (weaveT (1, 1) (itemsG G 0 P) (G P.length)) → Calls Try.prog 22 #[a, v] w fun e w' => e = .returned (.bool true) ∧ Keep [] w w') := fun w v a h h2 => alike_yes a v _ P w h2 h (by
        obtain ⟨Q, u, h1, h7, _, _, h5⟩ := weaveT_app G P (G P.length) (1, 1) 0
        rw [h1, ahead_snoc, if_pos h7, ahead_print hall]
        exact h5)
      have hGe : Hid (∀ i, G i = if 0 < i ∨ (gs.getD i 0).tmod 3 ≠ 0 then (if 0 < i ∧ slashB P i = true then [32] else []) ++ fillK (gs.getD i 0) else []) := fun i => by rw [hG]; rfl
      have hTl : Hid (∀ i, i ≤ P.length → (txtG G P i ++ G i).length ≤ 93545) := fun i hi => by
        have h1 := txt_le G P hGl.out i hi
        have h2 := hGl.out i
        rw [List.length_append]
        omega
      clear hp hall hA hPl0 HTP HTX hG
      go_enter Try.func8, Try.ntmps8
      go_wp2_with (first | (go_at_call 13; refine (HB.out).mono ?_; rintro e w1 ⟨rfl, rfl⟩) | (go_at_call 12; refine (awake_any _).mono ?_; rintro e w2 ⟨rfl, k2⟩) | (go_at_call 19; refine (copyT_any _ l w2 (hT.out.keep k2 (Off.nil _)) hlen).mono ?_; rintro e w3 ⟨v3, rfl, r3, k3, -⟩) | (go_at_call 15; refine (HP.out w3 v3 (Ts4.ofRow r3 hT.out.txt)).mono ?_; rintro e w4 ⟨rfl, k4⟩))
      have hK4 : Hid (Keep [] w1 w4) := (k2.trans' k3).trans' k4
      clear k2 k3 k4 r3 HB HP hmi
      refine (HA.out w4 _ (hT.out.keep hK4.out (Off.nil _))).mono ?_
      rintro e w5 ⟨a5, c5, rfl, T5, rfl⟩
      go_wp2_with fail
      refine (HQ.out _ _ T5).mono ?_
      rintro e w6 ⟨a6, c6, rfl, R6, k6⟩
      have hK6 : Hid (Keep [] w1 w6) := hK4.out.trans' k6
      have hT6 : Hid (Ts4 w6 (.slice a5 P.length c5) P) := T5.keep k6 (Off.nil _)
      have hR7 : Hid (RowS w6 (.slice a6 P.length c6) (P.map oneL)) := R6
      clear R6 k6 T5 hK4 HA HQ hT
      go_wp2
      have hBl0 : Hid (Bl (plcG G P) w6 w6 (.slice none 0 0) (.slice none 0 0) 0) := Bl.start _ _
      go_loopw [9, 10, 11, 12] (fun z9 z10 z11 z12 wr => ∃ (i : Nat), z12 = .int .i64 (i : Int) ∧ i ≤ P.length + 1 ∧ z9 = .string (ba (headT G P i)) ∧ Hid (Bl (plcG G P) w6 wr z10 z11 i)) (fun _ _ _ z12 _ => P.length + 1 - (intOf z12).toNat)
      case atStart => exact ⟨0, rfl, Nat.zero_le _, by unfold headT; rw [if_pos (Nat.zero_le _)]; rfl, hBl0⟩
      case round =>
        clear hBl0
        obtain ⟨i, rfl, hi, rfl, hBl⟩ := hrel
        by_cases hlt : i ≤ P.length
        · have hlti : (i : Int) ≤ (P.length : Int) := by omega
          have hht : headT G P i = txtG G P i := by unfold headT; rw [if_pos hlt]
          rw [hht]
          have hTle : (txtG G P i ++ G i).length ≤ 93545 := hTl.out i hlt
          have hPl : Hid (∀ w, Calls Try.prog 24 #[.string (ba (txtG G P i ++ G i)), .int .i64 ((txtG G P i ++ G i).length : Int)] w fun e w' => e = .returned (.tuple #[.int .i64 ((plcG G P i).1 : Int), .int .i64 ((plcG G P i).2 : Int)]) ∧ w' = w) := fun w => place_any _ w (by omega)
          have hnxt : ∀ (h : i < P.length), headT G P (i + 1) = (txtG G P i ++ G i) ++ oneL P[i] := fun h => by unfold headT; rw [if_pos (by omega), txt_next G P i h]
          have hlst : ¬ i < P.length → headT G P (i + 1) = txtG G P i ++ G i := fun h => by
            have e : i = P.length := by omega
            unfold headT; rw [if_neg (by omega), e]
          have hGi : Hid _ := hGe.out i
          have hal : Hid ((i + 1) * 8 ≤ 140737488355328 ∧ i + 1 ≤ maxLen) := by
            refine ⟨by omega, ?_⟩
            unfold maxLen; omega
          have hXe : ∃ X, txtG G P i ++ G i = X := ⟨_, rfl⟩
          obtain ⟨X, hX0⟩ := hXe
          have hX : Hid (txtG G P i ++ G i = X) := hX0
          rw [hX0] at hPl hnxt hlst hTle
          have hXs : (ba X).size = X.length := ba_size _
          have hTle0 : (txtG G P i).length ≤ 93545 := by have := hTl.out i hlt; rw [List.length_append] at this; omega
          have hTs : (ba (txtG G P i)).size = (txtG G P i).length := ba_size _
          generalize txtG G P i = T at hX hTle0 hTs ⊢
          generalize plcG G P = f at hBl hPl ⊢
          clear hht hX0
          have hkk : ∃ kk, gs.getD i 0 = kk ∧ -9223372036854775808 ≤ kk ∧ kk ≤ 9223372036854775807 := ⟨_, rfl, by
            rw [List.getD_eq_getElem?_getD]
            by_cases h : i < gs.length
            · rw [List.getElem?_eq_getElem h]; exact hN.out.rg _ (List.getElem_mem h)
            · rw [List.getElem?_eq_none (by omega)]; simp⟩
          obtain ⟨kk, hke, hk0, hk1⟩ := hkk
          rw [hke] at hGi
          have hFi : Hid (∀ w, Calls Try.prog 23 #[.int .i64 kk] w fun e w' => e = .returned (.string (ba (fillK kk))) ∧ Keep [] w w') := fun w => filler_any kk w hk0 hk1
          have hFs : (ba (fillK kk)).size = (fillK kk).length := ba_size _
          have hFl : (fillK kk).length ≤ 8 := (fillK_ok kk).2.1
          by_cases hgi : i < gs.length
          · have hgii : (i : Int) < (gs.length : Int) := by omega
            obtain ⟨gb, go, rfl, cg0⟩ := hN.out.at (hK6.out.trans' hBl.out.keep) i hgi
            have hge : gs[i] = kk := by rw [← hke, List.getD_eq_getElem?_getD, List.getElem?_eq_getElem hgi]; rfl
            rw [hge] at cg0
            clear hge hke
            by_cases hm : i < P.length
            · have hmi : (i : Int) < (P.length : Int) := by omega
              obtain ⟨g7, hg7, c7'⟩ := RowS.at hR7.out i (by rw [List.length_map]; exact hm)
              subst hg7
              rw [List.getElem_map] at c7'
              have hcell : Hid (∀ w', Keep [] w6 w' → w'.cell? ⟨g7, i, none⟩ = some (.string (ba (oneL P[i])))) := fun w' k => k.cell' c7' (by simp)
              clear c7'
              have hTTn : Hid _ := hnxt hm
              have hTTl : Hid True := trivial
              have hos : (ba (oneL P[i])).size = (oneL P[i]).length := ba_size _
              have hol : (oneL P[i]).length ≤ 65536 := Nat.le_trans (one_join P _ (List.getElem_mem hm)) hj
              generalize oneL P[i] = o at hcell hTTn hos hol
              obtain ⟨Y, hY0⟩ : ∃ Y, X ++ o = Y := ⟨_, rfl⟩
              have hY : Hid (X ++ o = Y) := hY0
              rw [hY0] at hTTn
              clear hnxt hlst hY0
              by_cases hi0 : i = 0
              · subst hi0
                have hP0 : (0 : Int) ≤ (P.length : Int) := by omega
                have hz1 : (0 : Int) < (gs.length : Int) := by omega
                rw [Nat.add_zero] at cg0
                have hz2 : (0 : Int) < (P.length : Int) := by omega
                by_cases hr : kk.tmod 3 = 0
                · have hri : (kk.tmod 3 != 0) = false := by simp [hr]
                  have hXT : X = T := by
                    rw [← hX.out, hGi.out, if_neg (by simp [hr])]; simp
                  subst hXT
                  clear hr
                  go_wp2_with fail
                  have HKW : Hid (Keep [] wr wr) := Keep.refl _ _
                  refine (hPl.out wr).mono ?_
                  rintro e w5 ⟨rfl, rfl⟩
                  have hR1 : Hid (RowC (w5.alloc (.cells #[.int .i64 ((f 0).1 : Int)] 3 (0, 0))) 3 1 u10 0 (intC (linL f 0))) := RowC.keep (RowC.keep hBl.out.r1 HKW.out (Off.nil _)) (Keep.alloc1 w5 _) (Off.nil _)
                  have hS1 : Hid _ := src_int ((f 0).1 : Int) (heap_alloc_new w5 (.cells #[.int .i64 ((f 0).1 : Int)] 3 (0, 0)))
                  go_wp2_with (at_builtin; refine wp_appC infoI rfl rfl (.tmp 89) (.tmp 91) 42 42 rfl Try.underlying42 u10 0 (intC (linL f 0)) rfl hR1.out _ 1 [.int .i64 ((f 0).1 : Int)] rfl hS1.out hal.out.1 hal.out.2 ?_)
                  intro v9 w9 R9 K9 F9 S9 _
                  obtain ⟨a9, c9, rfl⟩ := S9
                  have HR9 : Hid _ := R9
                  have HK9 : Hid (Keep u10.ownBlock.toList (w5.alloc (.cells #[.int .i64 ((f 0).1 : Int)] 3 (0, 0))) w9) := K9
                  have HF9 : Hid _ := F9
                  have hR2 : Hid (RowC (w9.alloc (.cells #[.int .i64 ((f 0).2 : Int)] 3 (0, 0))) 3 1 u11 0 (intC (colL f 0))) := hBl.out.mid HKW.out _ _ K9 F9
                  have hS2 : Hid _ := src_int ((f 0).2 : Int) (heap_alloc_new w9 (.cells #[.int .i64 ((f 0).2 : Int)] 3 (0, 0)))
                  clear R9 K9 F9 hS1 hR1
                  go_wp2_with (at_builtin; refine wp_appC infoI rfl rfl (.tmp 93) (.tmp 95) 42 42 rfl Try.underlying42 u11 0 (intC (colL f 0)) rfl hR2.out _ 1 [.int .i64 ((f 0).2 : Int)] rfl hS2.out hal.out.1 hal.out.2 ?_)
                  intro v8 w8 R8 K8 F8 S8 _
                  obtain ⟨a8, c8, rfl⟩ := S8
                  have hBl9 : Hid _ := hBl.out.next HKW.out _ _ HR9.out HK9.out HF9.out R8 K8 F8
                  clear R8 K8 F8 HR9 HK9 HF9 hS2 hR2 hBl HKW
                  have hcat9 : ba X ++ ba o = ba Y := by rw [ba_app, hY.out]
                  have c7n := hcell.out _ hBl9.out.keep
                  go_wp2
                  go_roundw
                  case rel => exact ⟨1, by go_num, by omega, by rw [hTTn.out], by first | exact hBl9.out | exact hBl9⟩
                  case measure => first | (simp [intOf]; omega) | simp [intOf]
                · have hri : (kk.tmod 3 != 0) = true := by simp [hr]
                  have hcat : ba T ++ ba (fillK kk) = ba X := by
                    rw [ba_app, ← hX.out, hGi.out, if_pos (.inr hr), if_neg (by simp)]; simp
                  clear hr
                  go_wp2_with fail
                  refine (hFi.out wr).mono ?_
                  rintro e W ⟨rfl, KW⟩
                  have HKW : Hid (Keep [] wr W) := KW
                  clear KW
                  go_wp2_with fail
                  refine (hPl.out W).mono ?_
                  rintro e w5 ⟨rfl, rfl⟩
                  have hR1 : Hid (RowC (w5.alloc (.cells #[.int .i64 ((f 0).1 : Int)] 3 (0, 0))) 3 1 u10 0 (intC (linL f 0))) := RowC.keep (RowC.keep hBl.out.r1 HKW.out (Off.nil _)) (Keep.alloc1 w5 _) (Off.nil _)
                  have hS1 : Hid _ := src_int ((f 0).1 : Int) (heap_alloc_new w5 (.cells #[.int .i64 ((f 0).1 : Int)] 3 (0, 0)))
                  go_wp2_with (at_builtin; refine wp_appC infoI rfl rfl (.tmp 89) (.tmp 91) 42 42 rfl Try.underlying42 u10 0 (intC (linL f 0)) rfl hR1.out _ 1 [.int .i64 ((f 0).1 : Int)] rfl hS1.out hal.out.1 hal.out.2 ?_)
                  intro v9 w9 R9 K9 F9 S9 _
                  obtain ⟨a9, c9, rfl⟩ := S9
                  have HR9 : Hid _ := R9
                  have HK9 : Hid (Keep u10.ownBlock.toList (w5.alloc (.cells #[.int .i64 ((f 0).1 : Int)] 3 (0, 0))) w9) := K9
                  have HF9 : Hid _ := F9
                  have hR2 : Hid (RowC (w9.alloc (.cells #[.int .i64 ((f 0).2 : Int)] 3 (0, 0))) 3 1 u11 0 (intC (colL f 0))) := hBl.out.mid HKW.out _ _ K9 F9
                  have hS2 : Hid _ := src_int ((f 0).2 : Int) (heap_alloc_new w9 (.cells #[.int .i64 ((f 0).2 : Int)] 3 (0, 0)))
                  clear R9 K9 F9 hS1 hR1
                  go_wp2_with (at_builtin; refine wp_appC infoI rfl rfl (.tmp 93) (.tmp 95) 42 42 rfl Try.underlying42 u11 0 (intC (colL f 0)) rfl hR2.out _ 1 [.int .i64 ((f 0).2 : Int)] rfl hS2.out hal.out.1 hal.out.2 ?_)
                  intro v8 w8 R8 K8 F8 S8 _
                  obtain ⟨a8, c8, rfl⟩ := S8
                  have hBl9 : Hid _ := hBl.out.next HKW.out _ _ HR9.out HK9.out HF9.out R8 K8 F8
                  clear R8 K8 F8 HR9 HK9 HF9 hS2 hR2 hBl HKW
                  have hcat9 : ba X ++ ba o = ba Y := by rw [ba_app, hY.out]
                  have c7n := hcell.out _ hBl9.out.keep
                  go_wp2
                  go_roundw
                  case rel => exact ⟨1, by go_num, by omega, by rw [hTTn.out], by first | exact hBl9.out | exact hBl9⟩
                  case measure => first | (simp [intOf]; omega) | simp [intOf]
              · have hi0i : (0 : Int) < (i : Int) := by omega
                obtain ⟨j, rfl⟩ : ∃ j, i = j + 1 := ⟨i - 1, by omega⟩
                obtain ⟨g6, hg6, cP⟩ := RowS.at (RowC.keep hR7.out hBl.out.keep (Off.nil _)) j (by rw [List.length_map]; omega)
                rw [List.getElem_map] at cP
                cases hg6
                by_cases hsl : oneL (P[j]'(by omega)) = [47]
                · have hsB : slashB P (j + 1) = true := by unfold slashB; rw [Nat.add_sub_cancel, List.getElem?_eq_getElem (by omega)]; simp [hsl]
                  rw [hsl] at cP
                  have hTs32 : (ba (T ++ [32])).size = T.length + 1 := by rw [ba_size]; simp
                  have hcat1 : ba T ++ (⟨#[32]⟩ : ByteArray) = ba (T ++ [32]) := ba_app T [32]
                  have hcat : ba (T ++ [32]) ++ ba (fillK kk) = ba X := by
                    rw [ba_app, ← hX.out, hGi.out, if_pos (.inl (by omega)), if_pos ⟨by omega, hsB⟩]; simp
                  have h47 : (ba [47]).toList = [47] := ba_toList _
                  clear hsl hsB
                  go_wp2_with fail
                  refine (hFi.out wr).mono ?_
                  rintro e W ⟨rfl, KW⟩
                  have HKW : Hid (Keep [] wr W) := KW
                  clear KW
                  go_wp2_with fail
                  refine (hPl.out W).mono ?_
                  rintro e w5 ⟨rfl, rfl⟩
                  have hR1 : Hid (RowC (w5.alloc (.cells #[.int .i64 ((f (j + 1)).1 : Int)] 3 (0, 0))) 3 1 u10 (j + 1) (intC (linL f (j + 1)))) := RowC.keep (RowC.keep hBl.out.r1 HKW.out (Off.nil _)) (Keep.alloc1 w5 _) (Off.nil _)
                  have hS1 : Hid _ := src_int ((f (j + 1)).1 : Int) (heap_alloc_new w5 (.cells #[.int .i64 ((f (j + 1)).1 : Int)] 3 (0, 0)))
                  go_wp2_with (at_builtin; refine wp_appC infoI rfl rfl (.tmp 89) (.tmp 91) 42 42 rfl Try.underlying42 u10 (j + 1) (intC (linL f (j + 1))) rfl hR1.out _ 1 [.int .i64 ((f (j + 1)).1 : Int)] rfl hS1.out hal.out.1 hal.out.2 ?_)
                  intro v9 w9 R9 K9 F9 S9 _
                  obtain ⟨a9, c9, rfl⟩ := S9
                  have HR9 : Hid _ := R9
                  have HK9 : Hid (Keep u10.ownBlock.toList (w5.alloc (.cells #[.int .i64 ((f (j + 1)).1 : Int)] 3 (0, 0))) w9) := K9
                  have HF9 : Hid _ := F9
                  have hR2 : Hid (RowC (w9.alloc (.cells #[.int .i64 ((f (j + 1)).2 : Int)] 3 (0, 0))) 3 1 u11 (j + 1) (intC (colL f (j + 1)))) := hBl.out.mid HKW.out _ _ K9 F9
                  have hS2 : Hid _ := src_int ((f (j + 1)).2 : Int) (heap_alloc_new w9 (.cells #[.int .i64 ((f (j + 1)).2 : Int)] 3 (0, 0)))
                  clear R9 K9 F9 hS1 hR1
                  go_wp2_with (at_builtin; refine wp_appC infoI rfl rfl (.tmp 93) (.tmp 95) 42 42 rfl Try.underlying42 u11 (j + 1) (intC (colL f (j + 1))) rfl hR2.out _ 1 [.int .i64 ((f (j + 1)).2 : Int)] rfl hS2.out hal.out.1 hal.out.2 ?_)
                  intro v8 w8 R8 K8 F8 S8 _
                  obtain ⟨a8, c8, rfl⟩ := S8
                  have hBl9 : Hid _ := hBl.out.next HKW.out _ _ HR9.out HK9.out HF9.out R8 K8 F8
                  clear R8 K8 F8 HR9 HK9 HF9 hS2 hR2 hBl HKW
                  have hcat9 : ba X ++ ba o = ba Y := by rw [ba_app, hY.out]
                  have c7n := hcell.out _ hBl9.out.keep
                  go_wp2
                  go_roundw
                  case rel => exact ⟨j + 1 + 1, by go_num, by omega, by rw [hTTn.out], by first | exact hBl9.out | exact hBl9⟩
                  case measure => first | (simp [intOf]; omega) | simp [intOf]
                · have hsB : slashB P (j + 1) = false := by unfold slashB; rw [Nat.add_sub_cancel, List.getElem?_eq_getElem (by omega)]; simp [hsl]
                  have hcat : ba T ++ ba (fillK kk) = ba X := by
                    rw [ba_app, ← hX.out, hGi.out, if_pos (.inl (by omega)), if_neg (by simp [hsB])]; simp
                  have hsl2 : ((ba (oneL (P[j]'(by omega)))).toList == [47]) = false := by rw [ba_toList]; simp [hsl]
                  generalize oneL (P[j]'(by omega)) = po at cP hsl2
                  clear hsl hsB
                  go_wp2_with fail
                  refine (hFi.out wr).mono ?_
                  rintro e W ⟨rfl, KW⟩
                  have HKW : Hid (Keep [] wr W) := KW
                  clear KW
                  go_wp2_with fail
                  refine (hPl.out W).mono ?_
                  rintro e w5 ⟨rfl, rfl⟩
                  have hR1 : Hid (RowC (w5.alloc (.cells #[.int .i64 ((f (j + 1)).1 : Int)] 3 (0, 0))) 3 1 u10 (j + 1) (intC (linL f (j + 1)))) := RowC.keep (RowC.keep hBl.out.r1 HKW.out (Off.nil _)) (Keep.alloc1 w5 _) (Off.nil _)
                  have hS1 : Hid _ := src_int ((f (j + 1)).1 : Int) (heap_alloc_new w5 (.cells #[.int .i64 ((f (j + 1)).1 : Int)] 3 (0, 0)))
                  go_wp2_with (at_builtin; refine wp_appC infoI rfl rfl (.tmp 89) (.tmp 91) 42 42 rfl Try.underlying42 u10 (j + 1) (intC (linL f (j + 1))) rfl hR1.out _ 1 [.int .i64 ((f (j + 1)).1 : Int)] rfl hS1.out hal.out.1 hal.out.2 ?_)
                  intro v9 w9 R9 K9 F9 S9 _
                  obtain ⟨a9, c9, rfl⟩ := S9
                  have HR9 : Hid _ := R9
                  have HK9 : Hid (Keep u10.ownBlock.toList (w5.alloc (.cells #[.int .i64 ((f (j + 1)).1 : Int)] 3 (0, 0))) w9) := K9
                  have HF9 : Hid _ := F9
                  have hR2 : Hid (RowC (w9.alloc (.cells #[.int .i64 ((f (j + 1)).2 : Int)] 3 (0, 0))) 3 1 u11 (j + 1) (intC (colL f (j + 1)))) := hBl.out.mid HKW.out _ _ K9 F9
                  have hS2 : Hid _ := src_int ((f (j + 1)).2 : Int) (heap_alloc_new w9 (.cells #[.int .i64 ((f (j + 1)).2 : Int)] 3 (0, 0)))
                  clear R9 K9 F9 hS1 hR1
                  go_wp2_with (at_builtin; refine wp_appC infoI rfl rfl (.tmp 93) (.tmp 95) 42 42 rfl Try.underlying42 u11 (j + 1) (intC (colL f (j + 1))) rfl hR2.out _ 1 [.int .i64 ((f (j + 1)).2 : Int)] rfl hS2.out hal.out.1 hal.out.2 ?_)
                  intro v8 w8 R8 K8 F8 S8 _
                  obtain ⟨a8, c8, rfl⟩ := S8
                  have hBl9 : Hid _ := hBl.out.next HKW.out _ _ HR9.out HK9.out HF9.out R8 K8 F8
                  clear R8 K8 F8 HR9 HK9 HF9 hS2 hR2 hBl HKW
                  have hcat9 : ba X ++ ba o = ba Y := by rw [ba_app, hY.out]
                  have c7n := hcell.out _ hBl9.out.keep
                  go_wp2
                  go_roundw
                  case rel => exact ⟨j + 1 + 1, by go_num, by omega, by rw [hTTn.out], by first | exact hBl9.out | exact hBl9⟩
                  case measure => first | (simp [intOf]; omega) | simp [intOf]
            · have hmi : ¬ (i : Int) < (P.length : Int) := by omega
              have hTTl : Hid _ := hlst hm
              by_cases hi0 : i = 0
              · subst hi0
                have hP0 : (0 : Int) ≤ (P.length : Int) := by omega
                have hz1 : (0 : Int) < (gs.length : Int) := by omega
                rw [Nat.add_zero] at cg0
                have hz2 : ¬ (0 : Int) < (P.length : Int) := by omega
                by_cases hr : kk.tmod 3 = 0
                · have hri : (kk.tmod 3 != 0) = false := by simp [hr]
                  have hXT : X = T := by
                    rw [← hX.out, hGi.out, if_neg (by simp [hr])]; simp
                  subst hXT
                  clear hr
                  go_wp2_with fail
                  have HKW : Hid (Keep [] wr wr) := Keep.refl _ _
                  refine (hPl.out wr).mono ?_
                  rintro e w5 ⟨rfl, rfl⟩
                  have hR1 : Hid (RowC (w5.alloc (.cells #[.int .i64 ((f 0).1 : Int)] 3 (0, 0))) 3 1 u10 0 (intC (linL f 0))) := RowC.keep (RowC.keep hBl.out.r1 HKW.out (Off.nil _)) (Keep.alloc1 w5 _) (Off.nil _)
                  have hS1 : Hid _ := src_int ((f 0).1 : Int) (heap_alloc_new w5 (.cells #[.int .i64 ((f 0).1 : Int)] 3 (0, 0)))
                  go_wp2_with (at_builtin; refine wp_appC infoI rfl rfl (.tmp 89) (.tmp 91) 42 42 rfl Try.underlying42 u10 0 (intC (linL f 0)) rfl hR1.out _ 1 [.int .i64 ((f 0).1 : Int)] rfl hS1.out hal.out.1 hal.out.2 ?_)
                  intro v9 w9 R9 K9 F9 S9 _
                  obtain ⟨a9, c9, rfl⟩ := S9
                  have HR9 : Hid _ := R9
                  have HK9 : Hid (Keep u10.ownBlock.toList (w5.alloc (.cells #[.int .i64 ((f 0).1 : Int)] 3 (0, 0))) w9) := K9
                  have HF9 : Hid _ := F9
                  have hR2 : Hid (RowC (w9.alloc (.cells #[.int .i64 ((f 0).2 : Int)] 3 (0, 0))) 3 1 u11 0 (intC (colL f 0))) := hBl.out.mid HKW.out _ _ K9 F9
                  have hS2 : Hid _ := src_int ((f 0).2 : Int) (heap_alloc_new w9 (.cells #[.int .i64 ((f 0).2 : Int)] 3 (0, 0)))
                  clear R9 K9 F9 hS1 hR1
                  go_wp2_with (at_builtin; refine wp_appC infoI rfl rfl (.tmp 93) (.tmp 95) 42 42 rfl Try.underlying42 u11 0 (intC (colL f 0)) rfl hR2.out _ 1 [.int .i64 ((f 0).2 : Int)] rfl hS2.out hal.out.1 hal.out.2 ?_)
                  intro v8 w8 R8 K8 F8 S8 _
                  obtain ⟨a8, c8, rfl⟩ := S8
                  have hBl9 : Hid _ := hBl.out.next HKW.out _ _ HR9.out HK9.out HF9.out R8 K8 F8
                  clear R8 K8 F8 HR9 HK9 HF9 hS2 hR2 hBl HKW
                  clear hnxt
                  go_wp2
                  go_roundw
                  case rel => exact ⟨1, by go_num, by omega, by rw [hTTl.out], by first | exact hBl9.out | exact hBl9⟩
                  case measure => first | (simp [intOf]; omega) | simp [intOf]
                · have hri : (kk.tmod 3 != 0) = true := by simp [hr]
                  have hcat : ba T ++ ba (fillK kk) = ba X := by
                    rw [ba_app, ← hX.out, hGi.out, if_pos (.inr hr), if_neg (by simp)]; simp
                  clear hr
                  go_wp2_with fail
                  refine (hFi.out wr).mono ?_
                  rintro e W ⟨rfl, KW⟩
                  have HKW : Hid (Keep [] wr W) := KW
                  clear KW
                  go_wp2_with fail
                  refine (hPl.out W).mono ?_
                  rintro e w5 ⟨rfl, rfl⟩
                  have hR1 : Hid (RowC (w5.alloc (.cells #[.int .i64 ((f 0).1 : Int)] 3 (0, 0))) 3 1 u10 0 (intC (linL f 0))) := RowC.keep (RowC.keep hBl.out.r1 HKW.out (Off.nil _)) (Keep.alloc1 w5 _) (Off.nil _)
                  have hS1 : Hid _ := src_int ((f 0).1 : Int) (heap_alloc_new w5 (.cells #[.int .i64 ((f 0).1 : Int)] 3 (0, 0)))
                  go_wp2_with (at_builtin; refine wp_appC infoI rfl rfl (.tmp 89) (.tmp 91) 42 42 rfl Try.underlying42 u10 0 (intC (linL f 0)) rfl hR1.out _ 1 [.int .i64 ((f 0).1 : Int)] rfl hS1.out hal.out.1 hal.out.2 ?_)
                  intro v9 w9 R9 K9 F9 S9 _
                  obtain ⟨a9, c9, rfl⟩ := S9
                  have HR9 : Hid _ := R9
                  have HK9 : Hid (Keep u10.ownBlock.toList (w5.alloc (.cells #[.int .i64 ((f 0).1 : Int)] 3 (0, 0))) w9) := K9
                  have HF9 : Hid _ := F9
                  have hR2 : Hid (RowC (w9.alloc (.cells #[.int .i64 ((f 0).2 : Int)] 3 (0, 0))) 3 1 u11 0 (intC (colL f 0))) := hBl.out.mid HKW.out _ _ K9 F9
                  have hS2 : Hid _ := src_int ((f 0).2 : Int) (heap_alloc_new w9 (.cells #[.int .i64 ((f 0).2 : Int)] 3 (0, 0)))
                  clear R9 K9 F9 hS1 hR1
                  go_wp2_with (at_builtin; refine wp_appC infoI rfl rfl (.tmp 93) (.tmp 95) 42 42 rfl Try.underlying42 u11 0 (intC (colL f 0)) rfl hR2.out _ 1 [.int .i64 ((f 0).2 : Int)] rfl hS2.out hal.out.1 hal.out.2 ?_)
                  intro v8 w8 R8 K8 F8 S8 _
                  obtain ⟨a8, c8, rfl⟩ := S8
                  have hBl9 : Hid _ := hBl.out.next HKW.out _ _ HR9.out HK9.out HF9.out R8 K8 F8
                  clear R8 K8 F8 HR9 HK9 HF9 hS2 hR2 hBl HKW
                  clear hnxt
                  go_wp2
                  go_roundw
                  case rel => exact ⟨1, by go_num, by omega, by rw [hTTl.out], by first | exact hBl9.out | exact hBl9⟩
                  case measure => first | (simp [intOf]; omega) | simp [intOf]
              · have hi0i : (0 : Int) < (i : Int) := by omega
                obtain ⟨j, rfl⟩ : ∃ j, i = j + 1 := ⟨i - 1, by omega⟩
                obtain ⟨g6, hg6, cP⟩ := RowS.at (RowC.keep hR7.out hBl.out.keep (Off.nil _)) j (by rw [List.length_map]; omega)
                rw [List.getElem_map] at cP
                subst hg6
                by_cases hsl : oneL (P[j]'(by omega)) = [47]
                · have hsB : slashB P (j + 1) = true := by unfold slashB; rw [Nat.add_sub_cancel, List.getElem?_eq_getElem (by omega)]; simp [hsl]
                  rw [hsl] at cP
                  have hTs32 : (ba (T ++ [32])).size = T.length + 1 := by rw [ba_size]; simp
                  have hcat1 : ba T ++ (⟨#[32]⟩ : ByteArray) = ba (T ++ [32]) := ba_app T [32]
                  have hcat : ba (T ++ [32]) ++ ba (fillK kk) = ba X := by
                    rw [ba_app, ← hX.out, hGi.out, if_pos (.inl (by omega)), if_pos ⟨by omega, hsB⟩]; simp
                  have h47 : (ba [47]).toList = [47] := ba_toList _
                  clear hsl hsB
                  go_wp2_with fail
                  refine (hFi.out wr).mono ?_
                  rintro e W ⟨rfl, KW⟩
                  have HKW : Hid (Keep [] wr W) := KW
                  clear KW
                  go_wp2_with fail
                  refine (hPl.out W).mono ?_
                  rintro e w5 ⟨rfl, rfl⟩
                  have hR1 : Hid (RowC (w5.alloc (.cells #[.int .i64 ((f (j + 1)).1 : Int)] 3 (0, 0))) 3 1 u10 (j + 1) (intC (linL f (j + 1)))) := RowC.keep (RowC.keep hBl.out.r1 HKW.out (Off.nil _)) (Keep.alloc1 w5 _) (Off.nil _)
                  have hS1 : Hid _ := src_int ((f (j + 1)).1 : Int) (heap_alloc_new w5 (.cells #[.int .i64 ((f (j + 1)).1 : Int)] 3 (0, 0)))
                  go_wp2_with (at_builtin; refine wp_appC infoI rfl rfl (.tmp 89) (.tmp 91) 42 42 rfl Try.underlying42 u10 (j + 1) (intC (linL f (j + 1))) rfl hR1.out _ 1 [.int .i64 ((f (j + 1)).1 : Int)] rfl hS1.out hal.out.1 hal.out.2 ?_)
                  intro v9 w9 R9 K9 F9 S9 _
                  obtain ⟨a9, c9, rfl⟩ := S9
                  have HR9 : Hid _ := R9
                  have HK9 : Hid (Keep u10.ownBlock.toList (w5.alloc (.cells #[.int .i64 ((f (j + 1)).1 : Int)] 3 (0, 0))) w9) := K9
                  have HF9 : Hid _ := F9
                  have hR2 : Hid (RowC (w9.alloc (.cells #[.int .i64 ((f (j + 1)).2 : Int)] 3 (0, 0))) 3 1 u11 (j + 1) (intC (colL f (j + 1)))) := hBl.out.mid HKW.out _ _ K9 F9
                  have hS2 : Hid _ := src_int ((f (j + 1)).2 : Int) (heap_alloc_new w9 (.cells #[.int .i64 ((f (j + 1)).2 : Int)] 3 (0, 0)))
                  clear R9 K9 F9 hS1 hR1
                  go_wp2_with (at_builtin; refine wp_appC infoI rfl rfl (.tmp 93) (.tmp 95) 42 42 rfl Try.underlying42 u11 (j + 1) (intC (colL f (j + 1))) rfl hR2.out _ 1 [.int .i64 ((f (j + 1)).2 : Int)] rfl hS2.out hal.out.1 hal.out.2 ?_)
                  intro v8 w8 R8 K8 F8 S8 _
                  obtain ⟨a8, c8, rfl⟩ := S8
                  have hBl9 : Hid _ := hBl.out.next HKW.out _ _ HR9.out HK9.out HF9.out R8 K8 F8
                  clear R8 K8 F8 HR9 HK9 HF9 hS2 hR2 hBl HKW
                  clear hnxt
                  go_wp2
                  go_roundw
                  case rel => exact ⟨j + 1 + 1, by go_num, by omega, by rw [hTTl.out], by first | exact hBl9.out | exact hBl9⟩
                  case measure => first | (simp [intOf]; omega) | simp [intOf]
                · have hsB : slashB P (j + 1) = false := by unfold slashB; rw [Nat.add_sub_cancel, List.getElem?_eq_getElem (by omega)]; simp [hsl]
                  have hcat : ba T ++ ba (fillK kk) = ba X := by
                    rw [ba_app, ← hX.out, hGi.out, if_pos (.inl (by omega)), if_neg (by simp [hsB])]; simp
                  have hsl2 : ((ba (oneL (P[j]'(by omega)))).toList == [47]) = false := by rw [ba_toList]; simp [hsl]
                  generalize oneL (P[j]'(by omega)) = po at cP hsl2
                  clear hsl hsB
                  go_wp2_with fail
                  refine (hFi.out wr).mono ?_
                  rintro e W ⟨rfl, KW⟩
                  have HKW : Hid (Keep [] wr W) := KW
                  clear KW
                  go_wp2_with fail
                  refine (hPl.out W).mono ?_
                  rintro e w5 ⟨rfl, rfl⟩
                  have hR1 : Hid (RowC (w5.alloc (.cells #[.int .i64 ((f (j + 1)).1 : Int)] 3 (0, 0))) 3 1 u10 (j + 1) (intC (linL f (j + 1)))) := RowC.keep (RowC.keep hBl.out.r1 HKW.out (Off.nil _)) (Keep.alloc1 w5 _) (Off.nil _)
                  have hS1 : Hid _ := src_int ((f (j + 1)).1 : Int) (heap_alloc_new w5 (.cells #[.int .i64 ((f (j + 1)).1 : Int)] 3 (0, 0)))
                  go_wp2_with (at_builtin; refine wp_appC infoI rfl rfl (.tmp 89) (.tmp 91) 42 42 rfl Try.underlying42 u10 (j + 1) (intC (linL f (j + 1))) rfl hR1.out _ 1 [.int .i64 ((f (j + 1)).1 : Int)] rfl hS1.out hal.out.1 hal.out.2 ?_)
                  intro v9 w9 R9 K9 F9 S9 _
                  obtain ⟨a9, c9, rfl⟩ := S9
                  have HR9 : Hid _ := R9
                  have HK9 : Hid (Keep u10.ownBlock.toList (w5.alloc (.cells #[.int .i64 ((f (j + 1)).1 : Int)] 3 (0, 0))) w9) := K9
                  have HF9 : Hid _ := F9
                  have hR2 : Hid (RowC (w9.alloc (.cells #[.int .i64 ((f (j + 1)).2 : Int)] 3 (0, 0))) 3 1 u11 (j + 1) (intC (colL f (j + 1)))) := hBl.out.mid HKW.out _ _ K9 F9
                  have hS2 : Hid _ := src_int ((f (j + 1)).2 : Int) (heap_alloc_new w9 (.cells #[.int .i64 ((f (j + 1)).2 : Int)] 3 (0, 0)))
                  clear R9 K9 F9 hS1 hR1
                  go_wp2_with (at_builtin; refine wp_appC infoI rfl rfl (.tmp 93) (.tmp 95) 42 42 rfl Try.underlying42 u11 (j + 1) (intC (colL f (j + 1))) rfl hR2.out _ 1 [.int .i64 ((f (j + 1)).2 : Int)] rfl hS2.out hal.out.1 hal.out.2 ?_)
                  intro v8 w8 R8 K8 F8 S8 _
                  obtain ⟨a8, c8, rfl⟩ := S8
                  have hBl9 : Hid _ := hBl.out.next HKW.out _ _ HR9.out HK9.out HF9.out R8 K8 F8
                  clear R8 K8 F8 HR9 HK9 HF9 hS2 hR2 hBl HKW
                  clear hnxt
                  go_wp2
                  go_roundw
                  case rel => exact ⟨j + 1 + 1, by go_num, by omega, by rw [hTTl.out], by first | exact hBl9.out | exact hBl9⟩
                  case measure => first | (simp [intOf]; omega) | simp [intOf]
          · have hgii : ¬ (i : Int) < (gs.length : Int) := by omega
            have hge : kk = 0 := by rw [← hke, List.getD_eq_getElem?_getD, List.getElem?_eq_none (by omega)]; rfl
            subst hge
            clear hke
            by_cases hm : i < P.length
            · have hmi : (i : Int) < (P.length : Int) := by omega
              obtain ⟨g7, hg7, c7'⟩ := RowS.at hR7.out i (by rw [List.length_map]; exact hm)
              subst hg7
              rw [List.getElem_map] at c7'
              have hcell : Hid (∀ w', Keep [] w6 w' → w'.cell? ⟨g7, i, none⟩ = some (.string (ba (oneL P[i])))) := fun w' k => k.cell' c7' (by simp)
              clear c7'
              have hTTn : Hid _ := hnxt hm
              have hTTl : Hid True := trivial
              have hos : (ba (oneL P[i])).size = (oneL P[i]).length := ba_size _
              have hol : (oneL P[i]).length ≤ 65536 := Nat.le_trans (one_join P _ (List.getElem_mem hm)) hj
              generalize oneL P[i] = o at hcell hTTn hos hol
              obtain ⟨Y, hY0⟩ : ∃ Y, X ++ o = Y := ⟨_, rfl⟩
              have hY : Hid (X ++ o = Y) := hY0
              rw [hY0] at hTTn
              clear hnxt hlst hY0
              by_cases hi0 : i = 0
              · subst hi0
                have hP0 : (0 : Int) ≤ (P.length : Int) := by omega
                have hz1 : ¬ (0 : Int) < (gs.length : Int) := by omega
                have hz2 : (0 : Int) < (P.length : Int) := by omega
                by_cases hr : (0 : Int).tmod 3 = 0
                · have hri : ((0 : Int).tmod 3 != 0) = false := by simp [hr]
                  have hXT : X = T := by
                    rw [← hX.out, hGi.out, if_neg (by simp [hr])]; simp
                  subst hXT
                  clear hr
                  go_wp2_with fail
                  have HKW : Hid (Keep [] wr wr) := Keep.refl _ _
                  refine (hPl.out wr).mono ?_
                  rintro e w5 ⟨rfl, rfl⟩
                  have hR1 : Hid (RowC (w5.alloc (.cells #[.int .i64 ((f 0).1 : Int)] 3 (0, 0))) 3 1 u10 0 (intC (linL f 0))) := RowC.keep (RowC.keep hBl.out.r1 HKW.out (Off.nil _)) (Keep.alloc1 w5 _) (Off.nil _)
                  have hS1 : Hid _ := src_int ((f 0).1 : Int) (heap_alloc_new w5 (.cells #[.int .i64 ((f 0).1 : Int)] 3 (0, 0)))
                  go_wp2_with (at_builtin; refine wp_appC infoI rfl rfl (.tmp 89) (.tmp 91) 42 42 rfl Try.underlying42 u10 0 (intC (linL f 0)) rfl hR1.out _ 1 [.int .i64 ((f 0).1 : Int)] rfl hS1.out hal.out.1 hal.out.2 ?_)
                  intro v9 w9 R9 K9 F9 S9 _
                  obtain ⟨a9, c9, rfl⟩ := S9
                  have HR9 : Hid _ := R9
                  have HK9 : Hid (Keep u10.ownBlock.toList (w5.alloc (.cells #[.int .i64 ((f 0).1 : Int)] 3 (0, 0))) w9) := K9
                  have HF9 : Hid _ := F9
                  have hR2 : Hid (RowC (w9.alloc (.cells #[.int .i64 ((f 0).2 : Int)] 3 (0, 0))) 3 1 u11 0 (intC (colL f 0))) := hBl.out.mid HKW.out _ _ K9 F9
                  have hS2 : Hid _ := src_int ((f 0).2 : Int) (heap_alloc_new w9 (.cells #[.int .i64 ((f 0).2 : Int)] 3 (0, 0)))
                  clear R9 K9 F9 hS1 hR1
                  go_wp2_with (at_builtin; refine wp_appC infoI rfl rfl (.tmp 93) (.tmp 95) 42 42 rfl Try.underlying42 u11 0 (intC (colL f 0)) rfl hR2.out _ 1 [.int .i64 ((f 0).2 : Int)] rfl hS2.out hal.out.1 hal.out.2 ?_)
                  intro v8 w8 R8 K8 F8 S8 _
                  obtain ⟨a8, c8, rfl⟩ := S8
                  have hBl9 : Hid _ := hBl.out.next HKW.out _ _ HR9.out HK9.out HF9.out R8 K8 F8
                  clear R8 K8 F8 HR9 HK9 HF9 hS2 hR2 hBl HKW
                  have hcat9 : ba X ++ ba o = ba Y := by rw [ba_app, hY.out]
                  have c7n := hcell.out _ hBl9.out.keep
                  go_wp2
                  go_roundw
                  case rel => exact ⟨1, by go_num, by omega, by rw [hTTn.out], by first | exact hBl9.out | exact hBl9⟩
                  case measure => first | (simp [intOf]; omega) | simp [intOf]
                · exact absurd rfl hr
              · have hi0i : (0 : Int) < (i : Int) := by omega
                obtain ⟨j, rfl⟩ : ∃ j, i = j + 1 := ⟨i - 1, by omega⟩
                obtain ⟨g6, hg6, cP⟩ := RowS.at (RowC.keep hR7.out hBl.out.keep (Off.nil _)) j (by rw [List.length_map]; omega)
                rw [List.getElem_map] at cP
                cases hg6
                by_cases hsl : oneL (P[j]'(by omega)) = [47]
                · have hsB : slashB P (j + 1) = true := by unfold slashB; rw [Nat.add_sub_cancel, List.getElem?_eq_getElem (by omega)]; simp [hsl]
                  rw [hsl] at cP
                  have hTs32 : (ba (T ++ [32])).size = T.length + 1 := by rw [ba_size]; simp
                  have hcat1 : ba T ++ (⟨#[32]⟩ : ByteArray) = ba (T ++ [32]) := ba_app T [32]
                  have hcat : ba (T ++ [32]) ++ ba (fillK (0 : Int)) = ba X := by
                    rw [ba_app, ← hX.out, hGi.out, if_pos (.inl (by omega)), if_pos ⟨by omega, hsB⟩]; simp
                  have h47 : (ba [47]).toList = [47] := ba_toList _
                  clear hsl hsB
                  go_wp2_with fail
                  refine (hFi.out wr).mono ?_
                  rintro e W ⟨rfl, KW⟩
                  have HKW : Hid (Keep [] wr W) := KW
                  clear KW
                  go_wp2_with fail
                  refine (hPl.out W).mono ?_
                  rintro e w5 ⟨rfl, rfl⟩
                  have hR1 : Hid (RowC (w5.alloc (.cells #[.int .i64 ((f (j + 1)).1 : Int)] 3 (0, 0))) 3 1 u10 (j + 1) (intC (linL f (j + 1)))) := RowC.keep (RowC.keep hBl.out.r1 HKW.out (Off.nil _)) (Keep.alloc1 w5 _) (Off.nil _)
                  have hS1 : Hid _ := src_int ((f (j + 1)).1 : Int) (heap_alloc_new w5 (.cells #[.int .i64 ((f (j + 1)).1 : Int)] 3 (0, 0)))
                  go_wp2_with (at_builtin; refine wp_appC infoI rfl rfl (.tmp 89) (.tmp 91) 42 42 rfl Try.underlying42 u10 (j + 1) (intC (linL f (j + 1))) rfl hR1.out _ 1 [.int .i64 ((f (j + 1)).1 : Int)] rfl hS1.out hal.out.1 hal.out.2 ?_)
                  intro v9 w9 R9 K9 F9 S9 _
                  obtain ⟨a9, c9, rfl⟩ := S9
                  have HR9 : Hid _ := R9
                  have HK9 : Hid (Keep u10.ownBlock.toList (w5.alloc (.cells #[.int .i64 ((f (j + 1)).1 : Int)] 3 (0, 0))) w9) := K9
                  have HF9 : Hid _ := F9
                  have hR2 : Hid (RowC (w9.alloc (.cells #[.int .i64 ((f (j + 1)).2 : Int)] 3 (0, 0))) 3 1 u11 (j + 1) (intC (colL f (j + 1)))) := hBl.out.mid HKW.out _ _ K9 F9
                  have hS2 : Hid _ := src_int ((f (j + 1)).2 : Int) (heap_alloc_new w9 (.cells #[.int .i64 ((f (j + 1)).2 : Int)] 3 (0, 0)))
                  clear R9 K9 F9 hS1 hR1
                  go_wp2_with (at_builtin; refine wp_appC infoI rfl rfl (.tmp 93) (.tmp 95) 42 42 rfl Try.underlying42 u11 (j + 1) (intC (colL f (j + 1))) rfl hR2.out _ 1 [.int .i64 ((f (j + 1)).2 : Int)] rfl hS2.out hal.out.1 hal.out.2 ?_)
                  intro v8 w8 R8 K8 F8 S8 _
                  obtain ⟨a8, c8, rfl⟩ := S8
                  have hBl9 : Hid _ := hBl.out.next HKW.out _ _ HR9.out HK9.out HF9.out R8 K8 F8
                  clear R8 K8 F8 HR9 HK9 HF9 hS2 hR2 hBl HKW
                  have hcat9 : ba X ++ ba o = ba Y := by rw [ba_app, hY.out]
                  have c7n := hcell.out _ hBl9.out.keep
                  go_wp2
                  go_roundw
                  case rel => exact ⟨j + 1 + 1, by go_num, by omega, by rw [hTTn.out], by first | exact hBl9.out | exact hBl9⟩
                  case measure => first | (simp [intOf]; omega) | simp [intOf]
                · have hsB : slashB P (j + 1) = false := by unfold slashB; rw [Nat.add_sub_cancel, List.getElem?_eq_getElem (by omega)]; simp [hsl]
                  have hcat : ba T ++ ba (fillK (0 : Int)) = ba X := by
                    rw [ba_app, ← hX.out, hGi.out, if_pos (.inl (by omega)), if_neg (by simp [hsB])]; simp
                  have hsl2 : ((ba (oneL (P[j]'(by omega)))).toList == [47]) = false := by rw [ba_toList]; simp [hsl]
                  generalize oneL (P[j]'(by omega)) = po at cP hsl2
                  clear hsl hsB
                  go_wp2_with fail
                  refine (hFi.out wr).mono ?_
                  rintro e W ⟨rfl, KW⟩
                  have HKW : Hid (Keep [] wr W) := KW
                  clear KW
                  go_wp2_with fail
                  refine (hPl.out W).mono ?_
                  rintro e w5 ⟨rfl, rfl⟩
                  have hR1 : Hid (RowC (w5.alloc (.cells #[.int .i64 ((f (j + 1)).1 : Int)] 3 (0, 0))) 3 1 u10 (j + 1) (intC (linL f (j + 1)))) := RowC.keep (RowC.keep hBl.out.r1 HKW.out (Off.nil _)) (Keep.alloc1 w5 _) (Off.nil _)
                  have hS1 : Hid _ := src_int ((f (j + 1)).1 : Int) (heap_alloc_new w5 (.cells #[.int .i64 ((f (j + 1)).1 : Int)] 3 (0, 0)))
                  go_wp2_with (at_builtin; refine wp_appC infoI rfl rfl (.tmp 89) (.tmp 91) 42 42 rfl Try.underlying42 u10 (j + 1) (intC (linL f (j + 1))) rfl hR1.out _ 1 [.int .i64 ((f (j + 1)).1 : Int)] rfl hS1.out hal.out.1 hal.out.2 ?_)
                  intro v9 w9 R9 K9 F9 S9 _
                  obtain ⟨a9, c9, rfl⟩ := S9
                  have HR9 : Hid _ := R9
                  have HK9 : Hid (Keep u10.ownBlock.toList (w5.alloc (.cells #[.int .i64 ((f (j + 1)).1 : Int)] 3 (0, 0))) w9) := K9
                  have HF9 : Hid _ := F9
                  have hR2 : Hid (RowC (w9.alloc (.cells #[.int .i64 ((f (j + 1)).2 : Int)] 3 (0, 0))) 3 1 u11 (j + 1) (intC (colL f (j + 1)))) := hBl.out.mid HKW.out _ _ K9 F9
                  have hS2 : Hid _ := src_int ((f (j + 1)).2 : Int) (heap_alloc_new w9 (.cells #[.int .i64 ((f (j + 1)).2 : Int)] 3 (0, 0)))
                  clear R9 K9 F9 hS1 hR1
                  go_wp2_with (at_builtin; refine wp_appC infoI rfl rfl (.tmp 93) (.tmp 95) 42 42 rfl Try.underlying42 u11 (j + 1) (intC (colL f (j + 1))) rfl hR2.out _ 1 [.int .i64 ((f (j + 1)).2 : Int)] rfl hS2.out hal.out.1 hal.out.2 ?_)
                  intro v8 w8 R8 K8 F8 S8 _
                  obtain ⟨a8, c8, rfl⟩ := S8
                  have hBl9 : Hid _ := hBl.out.next HKW.out _ _ HR9.out HK9.out HF9.out R8 K8 F8
                  clear R8 K8 F8 HR9 HK9 HF9 hS2 hR2 hBl HKW
                  have hcat9 : ba X ++ ba o = ba Y := by rw [ba_app, hY.out]
                  have c7n := hcell.out _ hBl9.out.keep
                  go_wp2
                  go_roundw
                  case rel => exact ⟨j + 1 + 1, by go_num, by omega, by rw [hTTn.out], by first | exact hBl9.out | exact hBl9⟩
                  case measure => first | (simp [intOf]; omega) | simp [intOf]
            · have hmi : ¬ (i : Int) < (P.length : Int) := by omega
              have hTTl : Hid _ := hlst hm
              by_cases hi0 : i = 0
              · subst hi0
                have hP0 : (0 : Int) ≤ (P.length : Int) := by omega
                have hz1 : ¬ (0 : Int) < (gs.length : Int) := by omega
                have hz2 : ¬ (0 : Int) < (P.length : Int) := by omega
                by_cases hr : (0 : Int).tmod 3 = 0
                · have hri : ((0 : Int).tmod 3 != 0) = false := by simp [hr]
                  have hXT : X = T := by
                    rw [← hX.out, hGi.out, if_neg (by simp [hr])]; simp
                  subst hXT
                  clear hr
                  go_wp2_with fail
                  have HKW : Hid (Keep [] wr wr) := Keep.refl _ _
                  refine (hPl.out wr).mono ?_
                  rintro e w5 ⟨rfl, rfl⟩
                  have hR1 : Hid (RowC (w5.alloc (.cells #[.int .i64 ((f 0).1 : Int)] 3 (0, 0))) 3 1 u10 0 (intC (linL f 0))) := RowC.keep (RowC.keep hBl.out.r1 HKW.out (Off.nil _)) (Keep.alloc1 w5 _) (Off.nil _)
                  have hS1 : Hid _ := src_int ((f 0).1 : Int) (heap_alloc_new w5 (.cells #[.int .i64 ((f 0).1 : Int)] 3 (0, 0)))
                  go_wp2_with (at_builtin; refine wp_appC infoI rfl rfl (.tmp 89) (.tmp 91) 42 42 rfl Try.underlying42 u10 0 (intC (linL f 0)) rfl hR1.out _ 1 [.int .i64 ((f 0).1 : Int)] rfl hS1.out hal.out.1 hal.out.2 ?_)
                  intro v9 w9 R9 K9 F9 S9 _
                  obtain ⟨a9, c9, rfl⟩ := S9
                  have HR9 : Hid _ := R9
                  have HK9 : Hid (Keep u10.ownBlock.toList (w5.alloc (.cells #[.int .i64 ((f 0).1 : Int)] 3 (0, 0))) w9) := K9
                  have HF9 : Hid _ := F9
                  have hR2 : Hid (RowC (w9.alloc (.cells #[.int .i64 ((f 0).2 : Int)] 3 (0, 0))) 3 1 u11 0 (intC (colL f 0))) := hBl.out.mid HKW.out _ _ K9 F9
                  have hS2 : Hid _ := src_int ((f 0).2 : Int) (heap_alloc_new w9 (.cells #[.int .i64 ((f 0).2 : Int)] 3 (0, 0)))
                  clear R9 K9 F9 hS1 hR1
                  go_wp2_with (at_builtin; refine wp_appC infoI rfl rfl (.tmp 93) (.tmp 95) 42 42 rfl Try.underlying42 u11 0 (intC (colL f 0)) rfl hR2.out _ 1 [.int .i64 ((f 0).2 : Int)] rfl hS2.out hal.out.1 hal.out.2 ?_)
                  intro v8 w8 R8 K8 F8 S8 _
                  obtain ⟨a8, c8, rfl⟩ := S8
                  have hBl9 : Hid _ := hBl.out.next HKW.out _ _ HR9.out HK9.out HF9.out R8 K8 F8
                  clear R8 K8 F8 HR9 HK9 HF9 hS2 hR2 hBl HKW
                  clear hnxt
                  go_wp2
                  go_roundw
                  case rel => exact ⟨1, by go_num, by omega, by rw [hTTl.out], by first | exact hBl9.out | exact hBl9⟩
                  case measure => first | (simp [intOf]; omega) | simp [intOf]
                · exact absurd rfl hr
              · have hi0i : (0 : Int) < (i : Int) := by omega
                obtain ⟨j, rfl⟩ : ∃ j, i = j + 1 := ⟨i - 1, by omega⟩
                obtain ⟨g6, hg6, cP⟩ := RowS.at (RowC.keep hR7.out hBl.out.keep (Off.nil _)) j (by rw [List.length_map]; omega)
                rw [List.getElem_map] at cP
                subst hg6
                by_cases hsl : oneL (P[j]'(by omega)) = [47]
                · have hsB : slashB P (j + 1) = true := by unfold slashB; rw [Nat.add_sub_cancel, List.getElem?_eq_getElem (by omega)]; simp [hsl]
                  rw [hsl] at cP
                  have hTs32 : (ba (T ++ [32])).size = T.length + 1 := by rw [ba_size]; simp
                  have hcat1 : ba T ++ (⟨#[32]⟩ : ByteArray) = ba (T ++ [32]) := ba_app T [32]
                  have hcat : ba (T ++ [32]) ++ ba (fillK (0 : Int)) = ba X := by
                    rw [ba_app, ← hX.out, hGi.out, if_pos (.inl (by omega)), if_pos ⟨by omega, hsB⟩]; simp
                  have h47 : (ba [47]).toList = [47] := ba_toList _
                  clear hsl hsB
                  go_wp2_with fail
                  refine (hFi.out wr).mono ?_
                  rintro e W ⟨rfl, KW⟩
                  have HKW : Hid (Keep [] wr W) := KW
                  clear KW
                  go_wp2_with fail
                  refine (hPl.out W).mono ?_
                  rintro e w5 ⟨rfl, rfl⟩
                  have hR1 : Hid (RowC (w5.alloc (.cells #[.int .i64 ((f (j + 1)).1 : Int)] 3 (0, 0))) 3 1 u10 (j + 1) (intC (linL f (j + 1)))) := RowC.keep (RowC.keep hBl.out.r1 HKW.out (Off.nil _)) (Keep.alloc1 w5 _) (Off.nil _)
                  have hS1 : Hid _ := src_int ((f (j + 1)).1 : Int) (heap_alloc_new w5 (.cells #[.int .i64 ((f (j + 1)).1 : Int)] 3 (0, 0)))
                  go_wp2_with (at_builtin; refine wp_appC infoI rfl rfl (.tmp 89) (.tmp 91) 42 42 rfl Try.underlying42 u10 (j + 1) (intC (linL f (j + 1))) rfl hR1.out _ 1 [.int .i64 ((f (j + 1)).1 : Int)] rfl hS1.out hal.out.1 hal.out.2 ?_)
                  intro v9 w9 R9 K9 F9 S9 _
                  obtain ⟨a9, c9, rfl⟩ := S9
                  have HR9 : Hid _ := R9
                  have HK9 : Hid (Keep u10.ownBlock.toList (w5.alloc (.cells #[.int .i64 ((f (j + 1)).1 : Int)] 3 (0, 0))) w9) := K9
                  have HF9 : Hid _ := F9
                  have hR2 : Hid (RowC (w9.alloc (.cells #[.int .i64 ((f (j + 1)).2 : Int)] 3 (0, 0))) 3 1 u11 (j + 1) (intC (colL f (j + 1)))) := hBl.out.mid HKW.out _ _ K9 F9
                  have hS2 : Hid _ := src_int ((f (j + 1)).2 : Int) (heap_alloc_new w9 (.cells #[.int .i64 ((f (j + 1)).2 : Int)] 3 (0, 0)))
                  clear R9 K9 F9 hS1 hR1
                  go_wp2_with (at_builtin; refine wp_appC infoI rfl rfl (.tmp 93) (.tmp 95) 42 42 rfl Try.underlying42 u11 (j + 1) (intC (colL f (j + 1))) rfl hR2.out _ 1 [.int .i64 ((f (j + 1)).2 : Int)] rfl hS2.out hal.out.1 hal.out.2 ?_)
                  intro v8 w8 R8 K8 F8 S8 _
                  obtain ⟨a8, c8, rfl⟩ := S8
                  have hBl9 : Hid _ := hBl.out.next HKW.out _ _ HR9.out HK9.out HF9.out R8 K8 F8
                  clear R8 K8 F8 HR9 HK9 HF9 hS2 hR2 hBl HKW
                  clear hnxt
                  go_wp2
                  go_roundw
                  case rel => exact ⟨j + 1 + 1, by go_num, by omega, by rw [hTTl.out], by first | exact hBl9.out | exact hBl9⟩
                  case measure => first | (simp [intOf]; omega) | simp [intOf]
                · have hsB : slashB P (j + 1) = false := by unfold slashB; rw [Nat.add_sub_cancel, List.getElem?_eq_getElem (by omega)]; simp [hsl]
                  have hcat : ba T ++ ba (fillK (0 : Int)) = ba X := by
                    rw [ba_app, ← hX.out, hGi.out, if_pos (.inl (by omega)), if_neg (by simp [hsB])]; simp
                  have hsl2 : ((ba (oneL (P[j]'(by omega)))).toList == [47]) = false := by rw [ba_toList]; simp [hsl]
                  generalize oneL (P[j]'(by omega)) = po at cP hsl2
                  clear hsl hsB
                  go_wp2_with fail
                  refine (hFi.out wr).mono ?_
                  rintro e W ⟨rfl, KW⟩
                  have HKW : Hid (Keep [] wr W) := KW
                  clear KW
                  go_wp2_with fail
                  refine (hPl.out W).mono ?_
                  rintro e w5 ⟨rfl, rfl⟩
                  have hR1 : Hid (RowC (w5.alloc (.cells #[.int .i64 ((f (j + 1)).1 : Int)] 3 (0, 0))) 3 1 u10 (j + 1) (intC (linL f (j + 1)))) := RowC.keep (RowC.keep hBl.out.r1 HKW.out (Off.nil _)) (Keep.alloc1 w5 _) (Off.nil _)
                  have hS1 : Hid _ := src_int ((f (j + 1)).1 : Int) (heap_alloc_new w5 (.cells #[.int .i64 ((f (j + 1)).1 : Int)] 3 (0, 0)))
                  go_wp2_with (at_builtin; refine wp_appC infoI rfl rfl (.tmp 89) (.tmp 91) 42 42 rfl Try.underlying42 u10 (j + 1) (intC (linL f (j + 1))) rfl hR1.out _ 1 [.int .i64 ((f (j + 1)).1 : Int)] rfl hS1.out hal.out.1 hal.out.2 ?_)
                  intro v9 w9 R9 K9 F9 S9 _
                  obtain ⟨a9, c9, rfl⟩ := S9
                  have HR9 : Hid _ := R9
                  have HK9 : Hid (Keep u10.ownBlock.toList (w5.alloc (.cells #[.int .i64 ((f (j + 1)).1 : Int)] 3 (0, 0))) w9) := K9
                  have HF9 : Hid _ := F9
                  have hR2 : Hid (RowC (w9.alloc (.cells #[.int .i64 ((f (j + 1)).2 : Int)] 3 (0, 0))) 3 1 u11 (j + 1) (intC (colL f (j + 1)))) := hBl.out.mid HKW.out _ _ K9 F9
                  have hS2 : Hid _ := src_int ((f (j + 1)).2 : Int) (heap_alloc_new w9 (.cells #[.int .i64 ((f (j + 1)).2 : Int)] 3 (0, 0)))
                  clear R9 K9 F9 hS1 hR1
                  go_wp2_with (at_builtin; refine wp_appC infoI rfl rfl (.tmp 93) (.tmp 95) 42 42 rfl Try.underlying42 u11 (j + 1) (intC (colL f (j + 1))) rfl hR2.out _ 1 [.int .i64 ((f (j + 1)).2 : Int)] rfl hS2.out hal.out.1 hal.out.2 ?_)
                  intro v8 w8 R8 K8 F8 S8 _
                  obtain ⟨a8, c8, rfl⟩ := S8
                  have hBl9 : Hid _ := hBl.out.next HKW.out _ _ HR9.out HK9.out HF9.out R8 K8 F8
                  clear R8 K8 F8 HR9 HK9 HF9 hS2 hR2 hBl HKW
                  clear hnxt
                  go_wp2
                  go_roundw
                  case rel => exact ⟨j + 1 + 1, by go_num, by omega, by rw [hTTl.out], by first | exact hBl9.out | exact hBl9⟩
                  case measure => first | (simp [intOf]; omega) | simp [intOf]
        · have hlti : ¬ (i : Int) ≤ (P.length : Int) := by omega
          have hie : i = P.length + 1 := by omega
          have hht : headT G P i = txtG G P P.length ++ G P.length := by unfold headT; rw [if_neg hlt]
          rw [hht]
          subst hie
          have hSx : Hid (∀ w, (txtG G P P.length ++ G P.length).length ≤ 65536 → _) := HS.out
          have hXs : (ba (txtG G P P.length ++ G P.length)).size = (txtG G P P.length ++ G P.length).length := ba_size _
          have hK6w : Hid (Keep [] w1 wr) := hK6.out.trans' hBl.out.keep
          generalize txtG G P P.length ++ G P.length = X at hSx hXs ⊢
          by_cases hbig : 65536 < X.length
          · have hbi : (65536 : Int) < (X.length : Int) := by omega
            go_wp2
            go_ret
            exact ⟨rfl, hK6w.out⟩
          · have hbi : ¬ (65536 : Int) < (X.length : Int) := by omega
            obtain ⟨a10, c10, rfl⟩ := RowN.slice (l := linL (plcG G P) (P.length + 1)) (by have := hBl.out.r1; unfold RowN; rw [linL_len]; exact this)
            obtain ⟨a11, c11, rfl⟩ := RowN.slice (l := colL (plcG G P) (P.length + 1)) (by have := hBl.out.r2; unfold RowN; rw [colL_len]; exact this)
            rw [linL_len, colL_len] at *
            have hTr : Hid (Ts4 wr (.slice a5 P.length c5) P) := hT6.out.keep hBl.out.keep (Off.nil _)
            go_wp2_with fail
            refine (hSx.out wr (by omega)).mono ?_
            rintro e w7 ⟨am, cm, rfl, T7, k7⟩
            have hO : Hid (Keep [] wr (w7.alloc (.cells #[.int .i64 0, .int .i64 0, .int .i64 0] 25 (0, 0)))) := k7.alloc _
            have hM7 : Hid (Ts4 (w7.alloc (.cells #[.int .i64 0, .int .i64 0, .int .i64 0] 25 (0, 0))) (.slice am (P.length + 1) cm) (weaveT (1, 1) (itemsG G 0 P) (G P.length))) := T7.keep (Keep.alloc1 w7 _) (Off.nil _)
            have hS7 : (w7.alloc (.cells #[.int .i64 0, .int .i64 0, .int .i64 0] 25 (0, 0))).heap[w7.heap.size]? = some (.cells #[.int .i64 0, .int .i64 0, .int .i64 0] 25 (0, 0)) := heap_alloc_new w7 _
            obtain ⟨s0, s1, s2, -, -, -⟩ := box3 hS7
            clear k7 T7
            go_wp2_with fail
            refine (HK.out _ _ _ (hTr.out.keep hO.out (Off.nil _)) hM7.out).mono ?_
            rintro e w8 ⟨rfl, k8⟩
            have hM8 : Hid _ := hM7.out.keep k8 (Off.nil _)
            have hO8 : Hid (Keep [] wr w8) := hO.out.trans' k8
            have hr8 : Hid (RowC w8 3 1 (.slice a10 (P.length + 1) c10) (P.length + 1) (intC (linL (plcG G P) (P.length + 1)))) := RowC.keep hBl.out.r1 hO8.out (Off.nil _)
            have hc8 : Hid (RowC w8 3 1 (.slice a11 (P.length + 1) c11) (P.length + 1) (intC (colL (plcG G P) (P.length + 1)))) := RowC.keep hBl.out.r2 hO8.out (Off.nil _)
            have hK8 : Hid (Keep [] w1 w8) := hK6w.out.trans' hO8.out
            clear k8 hM7 hO hS7 s0 s1 s2 hBl hO8 hK6w
            go_wp2
            go_loopw [18] (fun z wq => ∃ (k : Nat), z = .int .i64 (k : Int) ∧ k ≤ P.length + 1 ∧ Hid (Keep [] w8 wq)) (fun z _ => P.length + 1 - (intOf z).toNat)
            case atStart => exact ⟨0, rfl, Nat.zero_le _, Keep.refl _ _⟩
            case round =>
              obtain ⟨k, rfl, hk, hI⟩ := hrel
              by_cases hl2 : k < P.length + 1
              · have hl2i : (k : Int) < (P.length : Int) + 1 := by omega
                obtain ⟨t, et, e1, e2⟩ := weave_plc G P k (by omega)
                have hlw : k < (weaveT (1, 1) (itemsG G 0 P) (G P.length)).length := by rw [weaveT_len, itemsG_len]; exact hl2
                obtain ⟨-, mb, mo, rfl, -, -, m2, m3⟩ := (hM8.out.keep hI.out (Off.nil _)).at k hlw
                rw [List.getElem?_eq_getElem hlw, Option.some.injEq] at et
                rw [et, e1] at m2
                rw [et, e2] at m3
                obtain ⟨g1, rfl, n1⟩ := RowN.at (w := wr) (l := linL (plcG G P) (P.length + 1)) (by have := RowC.keep hr8.out hI.out (Off.nil _); unfold RowN; rw [linL_len]; exact this) k (by rw [linL_len]; exact hl2)
                obtain ⟨g2, rfl, n2⟩ := RowN.at (w := wr) (l := colL (plcG G P) (P.length + 1)) (by have := RowC.keep hc8.out hI.out (Off.nil _); unfold RowN; rw [colL_len]; exact this) k (by rw [colL_len]; exact hl2)
                have q1 : (linL (plcG G P) (P.length + 1))[k]'(by rw [linL_len]; exact hl2) = (plcG G P k).1 := by simp [linL]
                have q2 : (colL (plcG G P) (P.length + 1))[k]'(by rw [colL_len]; exact hl2) = (plcG G P k).2 := by simp [colL]
                rw [q1] at n1
                rw [q2] at n2
                generalize (plcG G P k).1 = pl at m2 n1
                generalize (plcG G P k).2 = pc at m3 n2
                have hKq : Hid (Keep [] w8 wr) := hI.out
                clear q1 q2 et e1 e2
                go_wp2
                go_quiet (fail)
                go_wp2
                go_roundw
                case rel => exact ⟨k + 1, by go_num, by omega, by first | exact hKq.out.drewN _ | exact hKq.out.drew⟩
                case measure => simp [intOf]; omega
              · have hl2i : ¬ (k : Int) < (P.length : Int) + 1 := by omega
                have hKf : Hid (Keep [] w1 wr) := hK8.out.trans' hI.out
                clear hI hM8
                go_wp2
                go_ret
                exact ⟨rfl, hKf.out⟩
end Go.Proofs.Ytmglbcldjhdhkaa
