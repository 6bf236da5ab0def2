/- Print, where the last token is of the end's kind, but has a text. -/
import Derived.Test.YtmglbcldjhdhkabTkPs
namespace Go.Proofs.Ytmglbcldjhdhkab
open Go.RowKit Go.PlainAid

set_option maxRecDepth 1000000 in
set_option maxHeartbeats 4000000 in
theorem print_full7 (l Q : List TokD) (t : TokD) (ao : Option Addr) (cap : Nat) (w : World) (hl : l = Q ++ [t]) (ht : t.kind = 7) (ht2 : t.text ≠ []) (h : Ts4 w (.slice ao l.length cap) l) :
    Calls Try.prog 11 #[.slice ao l.length cap] w fun e w' => e = .returned (.tuple #[.string (ba (printL l).1), .int .i64 (printL l).2]) ∧ Keep [] w w' := by
  have hcut : Hid (cutE l = l) := by show _ = _; rw [hl, cut_last, if_neg (by simp [endB]; exact fun _ => ht2)]
  have hln : l.length = Q.length + 1 := by rw [hl]; simp
  have hPT : Hid (Ts4 w (.slice ao l.length cap) l) := h
  have hcp : Hid (l.length ≤ cap ∧ cap ≤ 9223372036854775807) := by
    obtain ⟨_, _, e, h1, h2, _⟩ := h.ex
    simp only [Value.slice.injEq] at e
    obtain ⟨_, _, rfl⟩ := e
    exact ⟨by omega, h2⟩
  obtain ⟨-, b0, o0, hao, c0, c1, -, -⟩ := h.at Q.length (by omega)
  have hlt0 : l[Q.length]'(by omega) = t := by simp [hl]
  rw [hlt0] at c0 c1
  have hidx : (l.length : Int) - 1 = (Q.length : Int) := by omega
  have hn1 : (0 : Int) < (l.length : Int) := by omega
  have hq2 : (Q.length : Int) < (l.length : Int) := by omega
  have hq3 : Q.length < l.length := by omega
  have hq4 : Q.length ≤ 9223372036854775807 := by have := hcp.out; omega
  subst hao
  obtain ⟨P, hPe⟩ : ∃ P, P = l := ⟨l, rfl⟩
  rw [← hPe] at hPT hidx hn1 hq2 hq3 hcp
  have hcut2 : Hid (cutE l = P) := by show _ = _; rw [hPe]; exact hcut.out
  clear hcut
  have hcut : Hid (cutE l = P) := hcut2.out
  have hcap2 : Hid _ := hcp.out.2
  rw [← hPe]
  have hpost : Hid (printL P = printL l) := by show _ = _; rw [hPe]
  rw [ht] at c0
  have hne : (ba t.text).toList.isEmpty = false := by
    rw [ba_toList]
    cases he : t.text with
    | nil => exact absurd he ht2
    | cons _ _ => rfl
  clear ht ht2
  clear hlt0 hl h hln hPe hcut2
  rw [hpost.out]
  generalize Q.length = q at *
  go_enter Try.func11, Try.ntmps11
  go_wp2
  clear c0 c1 hn1 hidx hq2 hq3 hq4 hcap2 hne
  have hPcap : P.length ≤ 9223372036854775807 := by have := hcp.out; omega
  go_loopw [40] (fun z wr => ∃ (k : Nat), z = .int .i64 (k : Int) ∧ k ≤ P.length ∧ Hid ((∀ t ∈ P.take k, printB t = true) ∧ Keep [] w wr)) (fun z _ => P.length - (intOf z).toNat)
  case atStart => exact ⟨0, rfl, Nat.zero_le _, ⟨by simp, Keep.refl _ _⟩⟩
  case round =>
    obtain ⟨k, rfl, hk, hI⟩ := hrel
    by_cases hlt : k < P.length
    · have hlti : (k : Int) < (P.length : Int) := by omega
      obtain ⟨-, bb, oo, hao2, c0, c1, c2, c3⟩ := (hPT.out.keep hI.out.2 (Off.nil _)).at k hlt
      cases hao2
      have htx := hPT.out.txt P[k] (List.getElem_mem hlt)
      have hmem : Hid (P[k] ∈ cutE l) := by show _ ∈ _; rw [hcut.out]; exact List.getElem_mem hlt
      have hsuc : Hid (printB P[k] = true → ∀ t ∈ P.take (k + 1), printB t = true) := all_take_succ hlt hI.out.1
      have hkp : Hid (Keep [] w wr) := hI.out.2
      generalize P[k] = t at c0 c1 c2 c3 htx hmem hsuc
      clear hI
      cases hb : printB t
      · have hpr : Hid (printL l = ([], 50)) := print_no hmem.out hb
        go_wp2_with (go_at_call 21; refine (printable_any t _ (by omega)).mono ?_; rintro e w1 ⟨rfl, k1⟩; rw [hb])
        refine bodyPost_ret (v := .tuple #[.string (ba []), .int .i64 50]) (by simp [results, Try.results11, go_sem, ba]) rfl ⟨?_, ?_⟩
        · rw [hpr.out]
        · exact (hkp.out.alloc _).trans' k1
      · go_wp2_with (go_at_call 21; refine (printable_any t _ (by omega)).mono ?_; rintro e w1 ⟨rfl, k1⟩; rw [hb])
        have hx : Hid ((∀ t ∈ P.take (k + 1), printB t = true) ∧ Keep [] w w1) := ⟨hsuc.out hb, (hkp.out.alloc _).trans' k1⟩
        clear k1
        go_roundw
        case rel => exact ⟨k + 1, by go_num, by omega, hx⟩
        case measure => simp [intOf]; omega
    · have hlti : ¬ (k : Int) < (P.length : Int) := by omega
      have hall : Hid (∀ t ∈ P, printB t = true) := by
        have := hI.out.1
        rwa [List.take_of_length_le (by omega)] at this
      have hS : Hid (Pw w (wr.alloc (.cells #[.pointer none, .slice none 0 0] 57 (0, 0))) wr.heap.size P 0) := Pw.start P hI.out.2
      clear hI
      go_wp2
      clear hlt hlti hk
      generalize wr.alloc (.cells #[.pointer none, .slice none 0 0] 57 (0, 0)) = wS at hS ⊢
      generalize wr.heap.size = b at hS ⊢
      go_loopw [50] (fun z wr => ∃ (k : Nat), z = .int .i64 (k : Int) ∧ k ≤ P.length ∧ Hid (Pw w wr b P k)) (fun z _ => P.length - (intOf z).toNat)
      case atStart => exact ⟨0, rfl, Nat.zero_le _, hS⟩
      case round =>
        clear hS
        obtain ⟨k, rfl, hk, hI⟩ := hrel
        obtain ⟨p, v, hbd⟩ := hI.out.ex
        have hBr := hI.out.hB
        have hwb := hI.out.hb
        have hlen := hI.out.len
        by_cases hlt : k < P.length
        · have hlti : (k : Int) < (P.length : Int) := by omega
          obtain ⟨-, bb, oo, hao2, c0, c1, c2, c3⟩ := (hPT.out.keep hI.out.keep (Off.nil _)).at k hlt
          cases hao2
          have htx := hPT.out.txt P[k] (List.getElem_mem hlt)
          have hj : Hid _ := join_next P k hlt
          have hge : Hid _ := join_mono P (k + 1)
          generalize P[k] = t at c0 c1 c2 c3 htx hj
          have hsz : (ba t.text).size = t.text.length := ba_size _
          have hge1 := one_ge t
          have hbox : (wr.alloc (.cells #[.int .i64 t.kind, .string (ba t.text), .int .i64 t.line, .int .i64 t.col] 36 (0, 0))).heap[wr.heap.size]? = some (.cells #[.int .i64 t.kind, .string (ba t.text), .int .i64 t.line, .int .i64 t.col] 36 (0, 0)) := heap_alloc_new wr _
          have hrow0 : ∀ x, v.ownBlock = some x → x < wr.heap.size := fun x hx => hbd.row.lt x hx
          by_cases hk0 : k = 0
          · have hk0i : ¬ (0 : Int) < (k : Int) := by omega
            have HK0 : Hid (k = 0) := hk0
            clear hk0
            have hb1 : Hid (Bd (b + 1) (wr.alloc (.cells #[.int .i64 t.kind, .string (ba t.text), .int .i64 t.line, .int .i64 t.col] 36 (0, 0))) b (joinL (P.take k)) p v) := hbd.alloc _
            have hlongL : Hid (65536 < (joinL (P.take k)).length + t.text.length → 65536 < (joinL P).length) := fun h => by
              have h1 := hge.out
              rw [hj.out, if_pos HK0.out] at h1
              have : (joinL (P.take k)).length = 0 := by rw [HK0.out]; rfl
              omega
            have hkW : Hid (Keep [] w (wr.alloc (.cells #[.int .i64 t.kind, .string (ba t.text), .int .i64 t.line, .int .i64 t.col] 36 (0, 0)))) := hI.out.keep.alloc _
            have hfin : Hid (∀ w' p' v', Bd (b + 1) w' b (joinL (P.take k) ++ oneL t) p' v' → Wd b v v' (wr.alloc (.cells #[.int .i64 t.kind, .string (ba t.text), .int .i64 t.line, .int .i64 t.col] 36 (0, 0))) w' → (joinL (P.take k) ++ oneL t).length ≤ 262146 → Pw w w' b P (k + 1)) := fun w' p' v' hx hy hz => hI.out.next _ (Keep.alloc1 wr _) hb1.out hx hy (by rw [hj.out, if_pos HK0.out, HK0.out]; rfl) hz
            have hBW : Hid (b + 1 ≤ (wr.alloc (.cells #[.int .i64 t.kind, .string (ba t.text), .int .i64 t.line, .int .i64 t.col] 36 (0, 0))).heap.size) := by show _ ≤ _; simp; omega
            obtain ⟨d0, d1, d2, d3⟩ := box4 hbox
            clear hbd hj hge hI
            go_wp2
            clear c0 c1 c2 c3 hbox hrow0 hBr
            generalize wr.alloc (.cells #[.int .i64 t.kind, .string (ba t.text), .int .i64 t.line, .int .i64 t.col] 36 (0, 0)) = W at *
            generalize wr.heap.size = a at *
            generalize joinL (P.take k) = L at *
            generalize p = p1 at *
            generalize v = v1 at *
            have hwr : IntKind.i64.wrap ((L.length : Int) + (t.text.length : Int)) = (L.length : Int) + (t.text.length : Int) := by rw [IntKind.wrap_i64]; omega
            by_cases hc : 65536 < L.length + t.text.length
            · have hci : (65536 : Int) < (L.length : Int) + (t.text.length : Int) := by omega
              have hpr : Hid (printL l = ([], 3)) := print_long (by rw [hcut.out]; exact hall.out) (by rw [hcut.out]; exact hlongL.out hc)
              go_region_law (go_simp; refine (len_any (b + 1) b L p1 v1 W.drew hb1.out.drew).mono ?_; rintro e w7 ⟨rfl, rfl⟩)
              all_goals
                go_wp2
                refine bodyPost_ret (v := .tuple #[.string (ba []), .int .i64 3]) (by simp [results, Try.results11, go_sem, ba]) rfl ⟨?_, ?_⟩
                · rw [hpr.out]
                · exact hkW.out.drew
            · have hci : ¬ (65536 : Int) < (L.length : Int) + (t.text.length : Int) := by omega
              by_cases h5 : t.kind = 5
              · have ho : Hid (oneL t = quoteL (ba t.text).toList) := by show _ = _; unfold oneL; rw [if_pos h5, ba_toList]
                go_region_law (go_simp; refine (len_any (b + 1) b L p1 v1 W.drew hb1.out.drew).mono ?_; rintro e w7 ⟨rfl, rfl⟩)
                all_goals
                  go_wp2_with (go_at_call 24; refine (writeQuoted_any (b + 1) b L p1 v1 (ba t.text) W.drew (Nat.lt_succ_self b) hBW.out hb1.out.drew (by rw [ba_size]; omega)).mono ?_; rintro e w8 ⟨rfl, p8, v8, b8, k8⟩)
                  have hx : Hid (Pw w w8 b P (k + 1)) := hfin.out w8 p8 v8 (by rw [ho.out]; exact b8) k8.drew (by have := one_le t; rw [List.length_append]; omega)
                  clear b8 k8
                  go_roundw
                  case rel => exact ⟨k + 1, by go_num, by omega, hx⟩
                  case measure => simp [intOf]; omega
              · have h5' : (t.kind == 5) = false := by simpa using h5
                have ho : Hid (oneL t = (ba t.text).toList) := by show _ = _; unfold oneL; rw [if_neg h5, ba_toList]
                go_region_law (go_simp; refine (len_any (b + 1) b L p1 v1 W.drew hb1.out.drew).mono ?_; rintro e w7 ⟨rfl, rfl⟩)
                all_goals
                  go_wp2_with (go_at_call 25; refine (writeString_any (b + 1) b L p1 v1 (ba t.text) W.drew (Nat.lt_succ_self b) hBW.out hb1.out.drew (by rw [ba_size]; omega)).mono ?_; rintro e w8 ⟨rfl, p8, v8, b8, k8⟩)
                  have hx : Hid (Pw w w8 b P (k + 1)) := hfin.out w8 p8 v8 (by rw [ho.out]; exact b8) k8.drew (by have := one_le t; rw [List.length_append]; omega)
                  clear b8 k8
                  go_roundw
                  case rel => exact ⟨k + 1, by go_num, by omega, hx⟩
                  case measure => simp [intOf]; omega
          · have hk0i : (0 : Int) < (k : Int) := by omega
            have hbd' : Hid _ := hbd
            have hL0 : (joinL (P.take k)).length + 1 = (joinL (P.take k) ++ [32]).length := by simp
            have hlongL : Hid (65536 < (joinL (P.take k) ++ [32]).length + t.text.length → 65536 < (joinL P).length) := fun h => by
              have h1 := hge.out
              rw [hj.out, if_neg hk0] at h1
              simp at h h1
              omega
            have hkw : Hid (Keep [] w (wr.alloc (.cells #[.int .i64 t.kind, .string (ba t.text), .int .i64 t.line, .int .i64 t.col] 36 (0, 0)))) := hI.out.keep.alloc _
            clear hbd
            go_wp2_with fail
            clear c0 c1 c2 c3
            refine (writeByte_any (b + 1) b _ p v 32 (wr.alloc (.cells #[.int .i64 t.kind, .string (ba t.text), .int .i64 t.line, .int .i64 t.col] 36 (0, 0))) (Nat.lt_succ_self b) (by simp; omega) (hbd'.out.alloc _) (by omega)).mono ?_
            rintro e W ⟨rfl, p1, v1, bd1, kd1⟩
            have hb1 : Hid (Bd (b + 1) W b (joinL (P.take k) ++ [32]) p1 v1) := bd1
            have hkW : Hid (Keep [] w W) := hkw.out.more kd1.keep (fun x hx => .inr (by
              simp at hx
              rcases hx with rfl | hx
              · exact hwb
              · have := hbd'.out.far x hx; omega))
            have hfin : Hid (∀ w' p' v', Bd (b + 1) w' b ((joinL (P.take k) ++ [32]) ++ oneL t) p' v' → Wd b v1 v' W w' → ((joinL (P.take k) ++ [32]) ++ oneL t).length ≤ 262146 → Pw w w' b P (k + 1)) := fun w' p' v' hx hy hz => hI.out.next _ (Keep.alloc1 wr _) (hbd'.out.alloc _) hx (kd1.trans hy) (by rw [hj.out, if_neg hk0]; simp) hz
            have hBW : Hid (b + 1 ≤ W.heap.size) := by show _ ≤ _; have := kd1.keep.size; simp at this; omega
            have hbox1 : W.heap[wr.heap.size]? = some (.cells #[.int .i64 t.kind, .string (ba t.text), .int .i64 t.line, .int .i64 t.col] 36 (0, 0)) := (kd1.keep.block _ (by simp) (by
              intro hm
              simp at hm
              rcases hm with hm | hm
              · omega
              · have := hrow0 _ hm; omega)).trans hbox
            obtain ⟨d0, d1, d2, d3⟩ := box4 hbox1
            clear bd1 kd1 hbox hbox1 hbd' hj hge hI hrow0 hkw hBr
            generalize joinL (P.take k) ++ [32] = L at *
            generalize wr.heap.size = a at *
            go_wp2
            have hwr : IntKind.i64.wrap ((L.length : Int) + (t.text.length : Int)) = (L.length : Int) + (t.text.length : Int) := by rw [IntKind.wrap_i64]; omega
            by_cases hc : 65536 < L.length + t.text.length
            · have hci : (65536 : Int) < (L.length : Int) + (t.text.length : Int) := by omega
              have hpr : Hid (printL l = ([], 3)) := print_long (by rw [hcut.out]; exact hall.out) (by rw [hcut.out]; exact hlongL.out hc)
              go_region_law (go_simp; refine (len_any (b + 1) b L p1 v1 W.drew hb1.out.drew).mono ?_; rintro e w7 ⟨rfl, rfl⟩)
              all_goals
                go_wp2
                refine bodyPost_ret (v := .tuple #[.string (ba []), .int .i64 3]) (by simp [results, Try.results11, go_sem, ba]) rfl ⟨?_, ?_⟩
                · rw [hpr.out]
                · exact hkW.out.drew
            · have hci : ¬ (65536 : Int) < (L.length : Int) + (t.text.length : Int) := by omega
              by_cases h5 : t.kind = 5
              · have ho : Hid (oneL t = quoteL (ba t.text).toList) := by show _ = _; unfold oneL; rw [if_pos h5, ba_toList]
                go_region_law (go_simp; refine (len_any (b + 1) b L p1 v1 W.drew hb1.out.drew).mono ?_; rintro e w7 ⟨rfl, rfl⟩)
                all_goals
                  go_wp2_with (go_at_call 24; refine (writeQuoted_any (b + 1) b L p1 v1 (ba t.text) W.drew (Nat.lt_succ_self b) hBW.out hb1.out.drew (by rw [ba_size]; omega)).mono ?_; rintro e w8 ⟨rfl, p8, v8, b8, k8⟩)
                  have hx : Hid (Pw w w8 b P (k + 1)) := hfin.out w8 p8 v8 (by rw [ho.out]; exact b8) k8.drew (by have := one_le t; rw [List.length_append]; omega)
                  clear b8 k8
                  go_roundw
                  case rel => exact ⟨k + 1, by go_num, by omega, hx⟩
                  case measure => simp [intOf]; omega
              · have h5' : (t.kind == 5) = false := by simpa using h5
                have ho : Hid (oneL t = (ba t.text).toList) := by show _ = _; unfold oneL; rw [if_neg h5, ba_toList]
                go_region_law (go_simp; refine (len_any (b + 1) b L p1 v1 W.drew hb1.out.drew).mono ?_; rintro e w7 ⟨rfl, rfl⟩)
                all_goals
                  go_wp2_with (go_at_call 25; refine (writeString_any (b + 1) b L p1 v1 (ba t.text) W.drew (Nat.lt_succ_self b) hBW.out hb1.out.drew (by rw [ba_size]; omega)).mono ?_; rintro e w8 ⟨rfl, p8, v8, b8, k8⟩)
                  have hx : Hid (Pw w w8 b P (k + 1)) := hfin.out w8 p8 v8 (by rw [ho.out]; exact b8) k8.drew (by have := one_le t; rw [List.length_append]; omega)
                  clear b8 k8
                  go_roundw
                  case rel => exact ⟨k + 1, by go_num, by omega, hx⟩
                  case measure => simp [intOf]; omega
        · have hlti : ¬ (k : Int) < (P.length : Int) := by omega
          have hbd' : Hid (Bd (b + 1) wr b (joinL P) p v) := by
            rw [List.take_of_length_le (by omega)] at hbd
            exact hbd
          rw [List.take_of_length_le (by omega)] at hlen
          have hkp : Hid (Keep [] w wr) := hI.out.keep
          clear hbd hI
          by_cases hc : 65536 < (joinL P).length
          · have hci : (65536 : Int) < ((joinL P).length : Int) := by omega
            have hpr : Hid (printL l = ([], 3)) := print_long (by rw [hcut.out]; exact hall.out) (by rw [hcut.out]; exact hc)
            go_wp2_with (go_at_call 23; refine (len_any (b + 1) b (joinL P) p v wr hbd'.out).mono ?_; rintro e w7 ⟨rfl, rfl⟩)
            refine bodyPost_ret (v := .tuple #[.string (ba []), .int .i64 3]) (by simp [results, Try.results11, go_sem, ba]) rfl ⟨?_, ?_⟩
            · rw [hpr.out]
            · exact hkp.out
          · have hci : ¬ (65536 : Int) < ((joinL P).length : Int) := by omega
            have hpr : Hid (printL l = (joinL P, 0)) := by
              have := print_ok (l := l) (by rw [hcut.out]; exact hall.out) (by rw [hcut.out]; omega)
              rwa [hcut.out] at this
            go_wp2_with (first | (go_at_call 23; refine (len_any (b + 1) b (joinL P) p v wr hbd'.out).mono ?_; rintro e w7 ⟨rfl, rfl⟩) | (go_at_call 26; refine (hbd'.out.string (Nat.lt_succ_self b)).mono ?_; rintro e w8 ⟨rfl, k8⟩))
            have hk8 : Hid (Keep [] w w8) := ⟨k8.os.trans hkp.out.os, k8.tape.trans hkp.out.tape, k8.output.trans hkp.out.output, Nat.le_trans hkp.out.size k8.size, fun x hx hn => (k8.block x (by omega)).trans (hkp.out.block x hx hn)⟩
            clear k8
            refine bodyPost_ret (v := .tuple #[.string (ba (joinL P)), .int .i64 0]) (by simp [results, Try.results11, go_sem]) rfl ⟨?_, ?_⟩
            · rw [hpr.out]
            · exact hk8.out
end Go.Proofs.Ytmglbcldjhdhkab

