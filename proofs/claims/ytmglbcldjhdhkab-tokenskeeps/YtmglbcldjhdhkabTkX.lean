/- Scan, for every text. -/
import Derived.Test.YtmglbcldjhdhkabTkP
import Derived.Deep.RegionHeld3
namespace Go.Proofs.Ytmglbcldjhdhkab
open Go.RowKit Go.PlainAid

def scanT (l : List UInt8) : List TokD := (scanL l).1.getD []
theorem scan_some {l : List UInt8} (h : l.length ≤ 65536) {ts : List TokD} {q : Nat × Nat} (e : scanF (l.length + 1) l (1, 1) = (some ts, q)) : scanL l = (some ts, 0, 0, 0) := by
  unfold scanL
  rw [if_neg (by omega), e]
theorem scan_none {l : List UInt8} (h : l.length ≤ 65536) {q : Nat × Nat} (e : scanF (l.length + 1) l (1, 1) = (none, q)) : scanL l = (none, 50, q) := by
  unfold scanL
  rw [if_neg (by omega), e]
theorem src_tok2 {W : World} {g : Nat} (t : TokD) (h : W.heap[g]? = some (.cells #[.int .i64 t.kind, .string (ba t.text), .int .i64 t.line, .int .i64 t.col] 36 (0, 0))) : Src Try.prog 4 23 (.slice (some ⟨g, 0, none⟩) 1 1) 1 (tokC t) W := by
  refine Src.ofSlice _ Try.underlying23 ⟨g, 0, none⟩ 1 1 (tokC t) rfl (fun j u hu => ?_) (fun u hu => ?_)
  · have hadd : (⟨g, 0, none⟩ : Addr).add j = ⟨g, 0 + j, none⟩ := by unfold Addr.add; split <;> simp_all
    rw [hadd, Nat.zero_add, (box_cell h j).1]
    simpa [tokC] using hu
  · simp [tokC] at hu
    rcases hu with rfl | rfl | rfl | rfl <;> rfl
theorem Sc.start {w w1 w2 : World} {s : ByteArray} (k1 : Keep [] (w.alloc zeroSpot) w1) (k2 : Keep [] (w1.alloc (.cells #[.int .i64 0, .int .i64 1, .int .i64 0] 40 (0, 0))) w2) (_hs : s.size ≤ 65536) :
    Sc w w2 s w1.heap.size (.slice none 0 0) (0 + skipN false (s.toList.drop 0)) 0 0 1 0 (s.toList.length + 1) [] := by
  have hsz : w.heap.size < w1.heap.size := by have := k1.size; simp at this; omega
  have kk : Keep [] w1 w2 := (Keep.alloc1 w1 _).trans' k2
  refine ⟨(kk.block _ hsz (by simp)).trans (new_kept k1 (by simp)), new_kept k2 (by simp), hsz, World.ownsRow_nil _ 0 36 4, fun x hx => by simp [Value.ownBlock] at hx, ((Keep.alloc1 w _).trans' k1).trans' kk, rfl, Nat.le_refl _, Nat.zero_le _, Nat.le_refl _, by omega, by simp [adv], by rw [toList_len]; omega, by simp, ?_⟩
  simp only [List.drop_zero, List.take_zero]
  rw [show adv (1, 1) ([] : List UInt8) = (1, 1) from rfl]
  generalize scanF (s.toList.length + 1) s.toList (1, 1) = r
  obtain ⟨a, q⟩ := r
  cases a <;> simp [ahead]

set_option maxRecDepth 1000000 in
set_option maxHeartbeats 4000000 in
theorem scan_any (s : ByteArray) (w : World) (hs : s.size ≤ 9223372036854775800) :
    Calls Try.prog 6 #[.string s] w fun e w' => ∃ v, e = .returned (.tuple #[v, .agg #[.int .i64 (scanL s.toList).2.1, .int .i64 ((scanL s.toList).2.2.1 : Int), .int .i64 ((scanL s.toList).2.2.2 : Int)]]) ∧ RowT w' v (scanT s.toList) ∧ Keep [] w w' ∧ ∀ x, v.ownBlock = some x → w.heap.size ≤ x := by
  by_cases hlong : 65536 < s.size
  · have hl : Hid (scanL s.toList = (none, 3, 0, 0)) := by show _ = _; unfold scanL; rw [if_pos (by rw [toList_len]; exact hlong)]
    have hi : (65536 : Int) < (s.size : Int) := by omega
    go_enter Try.func6, Try.ntmps6
    go_wp2
    refine bodyPost_ret (v := .tuple #[.slice none 0 0, .agg #[.int .i64 3, .int .i64 0, .int .i64 0]]) (by simp [results, Try.results6, go_sem]) rfl ⟨.slice none 0 0, ?_, ?_, Keep.alloc1 w _, fun x hx => by simp [Value.ownBlock] at hx⟩
    · rw [hl.out]; rfl
    · unfold scanT; rw [hl.out]; exact World.ownsRow_nil _ 0 36 4
  have hi : ¬ (65536 : Int) < (s.size : Int) := by omega
  have hs2 : s.size ≤ 65536 := by omega
  clear hlong hs
  go_enter Try.func6, Try.ntmps6
  go_wp2_with (first | (go_at_call 14; refine (begin_any _).mono ?_; rintro e w1 ⟨rfl, k1⟩) | (go_at_call 15; refine (skip_any s 0 _ (by omega) (by omega)).mono ?_; rintro e w2 ⟨rfl, k2⟩))
  have hS := Sc.start (s := s) k1 k2 hs2
  rw [Nat.zero_add, List.drop_zero] at hS
  clear k1 k2
  generalize hbe : w1.heap.size = b at hS ⊢
  clear hbe
  go_loopw [4, 6] (fun z4 z6 wr => ∃ (k prev pk line start n : Nat) (out : List TokD), z6 = .int .i64 (k : Int) ∧ k ≤ s.size ∧ Hid (Sc w wr s b z4 k prev pk line start n out)) (fun _ z6 _ => s.size - (intOf z6).toNat)
  case atStart => exact ⟨_, _, _, _, _, _, _, rfl, by have := skip_le (s.toList.drop 0) false; rw [List.drop_zero, toList_len] at this; simpa using this, hS⟩
  case round =>
    obtain ⟨k, prev, pk, line, start, n, out, rfl, hks, hsc⟩ := hrel
    have hpp := hsc.out.pp
    have hhk : prev ≤ k := by have := hsc.out.hk; omega
    have hlen := hsc.out.len
    have hps := hsc.out.ps
    have hst := hsc.out.st
    have hln := hsc.out.ln
    by_cases hlt : k < s.size
    · have hlti : (k : Int) < (s.size : Int) := by omega
      obtain ⟨m, rfl⟩ : ∃ m, n = m + 1 := ⟨n - 1, by have := hsc.out.fuel; omega⟩
      have hu : (s.extract k s.size).toList = s.toList.drop k := by rw [ext_drop, ba_toList]
      have husz : (s.extract k s.size).size = s.size - k := by rw [← toList_len, hu, List.length_drop, toList_len]
      obtain ⟨hf1, hf2⟩ := piece_size (s.toList.drop k)
      have hat := scan_at s.toList m prev k hsc.out.hk (by rw [toList_len]; exact hps)
      rw [if_neg (by rw [toList_len]; omega)] at hat
      have hP : Hid (∀ w, Calls Try.prog 17 #[.string (s.extract k s.size)] w fun e w' => e = .returned (.agg #[.int .i64 (pieceL (s.toList.drop k)).kind, .string (ba (pieceL (s.toList.drop k)).text), .int .i64 ((pieceL (s.toList.drop k)).size : Int)]) ∧ Keep [] w w') := fun w => by
        have := piece_any (s.extract k s.size) w (by omega)
        rwa [hu] at this
      rw [List.length_drop, toList_len] at hf1
      generalize pieceL (s.toList.drop k) = f at hf1 hf2 hat hP
      obtain ⟨fk, ft, fs⟩ := f
      simp only at hf1 hf2 hat hP
      have hat' : Hid _ := hat
      have hbw := hsc.out.hb
      clear hat hu husz
      go_wp2_with fail
      refine (move_any s b pk k line start wr hsc.out.pl hst (by omega) (by omega) hln (by omega)).mono ?_
      rintro e w3 ⟨rfl, line', start', pl3, st3, ln3, adv3, kp3⟩
      have hadv : Hid ((line', k - start' + 1) = adv (1, 1) (s.toList.take k)) := by
        show _ = _
        rw [adv3, hsc.out.pos, adv_take _ _ _ _ (by omega)]
      have hrow3 : Hid (RowT w3 u4 out) := RowC.keep hsc.out.row kp3 (fun x hx hm => by have := hsc.out.far x hx; simp at hm; omega)
      have hspot3 : w3.heap[w.heap.size]? = some zeroSpot := (kp3.block _ (Array.getElem?_eq_some_iff.1 hsc.out.spot).1 (by simp; omega)).trans hsc.out.spot
      have hkeep3 : Hid (Keep [] w w3) := hsc.out.keep.more kp3 (by intro x hx; simp at hx; subst hx; exact .inr (by omega))
      have hfar : Hid (∀ x, u4.ownBlock = some x → b < x) := hsc.out.far
      have hgo : Hid _ := hsc.out.go
      have hfuel := hsc.out.fuel
      clear adv3 kp3 hsc
      go_wp2_with fail
      refine (hP.out w3).mono ?_
      rintro e w4 ⟨rfl, k4⟩
      have pl4 : Pl w4 b k line' start' := pl3.keep k4 (by simp)
      have hrow4 : Hid (RowT w4 u4 out) := RowC.keep hrow3.out k4 (Off.nil _)
      have hspot4 : w4.heap[w.heap.size]? = some zeroSpot := (k4.block _ (Array.getElem?_eq_some_iff.1 hspot3).1 (by simp)).trans hspot3
      have hkeep4 : Hid (Keep [] w w4) := hkeep3.out.trans' k4
      have hN4 : w.heap.size < w4.heap.size := (Array.getElem?_eq_some_iff.1 hspot4).1
      have hb4 : b < w4.heap.size := pl4.lt
      clear hrow3 hspot3 hkeep3 k4 pl3
      by_cases hk0 : fk = 0
      · subst hk0
        have hL : Hid (scanL s.toList = (none, 50, adv (1, 1) (s.toList.take (k + fs)))) := by
          refine scan_none (by rw [toList_len]; exact hs2) ?_
          rw [hgo.out, hat'.out, if_pos rfl]
          rfl
        have hmv := fun w hp => move_any s b k (k + fs) line' start' w hp st3 (by omega) (by omega) ln3 (by omega)
        rw [Int.natCast_add] at hmv
        have HM : Hid _ := hmv
        clear hmv hgo hat' hP
        go_wp2_with fail
        refine (HM.out _ (pl4.keep (Keep.alloc1 w4 _) (by simp))).mono ?_
        rintro e w6 ⟨rfl, line6, start6, pl6, st6, ln6, adv6, kp6⟩
        have hadv6 : Hid ((line6, k + fs - start6 + 1) = adv (1, 1) (s.toList.take (k + fs))) := by
          show _ = _
          rw [adv6, hadv.out, adv_take _ _ _ _ (by omega)]
        have hspot6 : w6.heap[w.heap.size]? = some zeroSpot := (kp6.block _ (by simp; omega) (by simp; omega)).trans ((Below.heap_alloc w4 _ _ hN4).trans hspot4)
        have hkeep6 : Hid (Keep [] w w6) := (hkeep4.out.alloc _).more kp6 (by intro x hx; simp at hx; subst hx; exact .inr (by omega))
        obtain ⟨c0, c1, c2, f0, f1, f2⟩ := box3 pl6
        obtain ⟨g0, g1, g2, e0, e1, e2⟩ := box3 hspot6
        clear adv6 kp6 hspot4 HM hrow4 hkeep4 pl4 hadv
        go_wp2
        go_region_law (go_simp; refine (column_any b (k + fs) line6 start6 w6.drew pl6 st6 (by omega)).mono ?_; rintro e w7 ⟨rfl, rfl⟩)
        all_goals
          go_wp2
          refine bodyPost_ret (v := .tuple #[.slice none 0 0, .agg #[.int .i64 50, .int .i64 (line6 : Int), .int .i64 ((k + fs - start6 + 1 : Nat) : Int)]]) (by simp [results, Try.results6, go_sem, g0, g1, g2]) rfl ⟨.slice none 0 0, ?_, ?_, ?_, fun x hx => by simp [Value.ownBlock] at hx⟩
          · rw [hL.out, ← hadv6.out]
          · unfold scanT; rw [hL.out]; exact World.ownsRow_nil _ 0 36 4
          · exact keep_box1 (hkeep6.out.drew.drew) _ _ _
      · have hk0' : (fk == 0) = false := by simpa using hk0
        have hfs := hf2 hk0
        have hal : Hid (((out.length + 1) * 40 ≤ 140737488355328) ∧ out.length + 1 ≤ maxLen) := by
          refine ⟨by omega, ?_⟩
          unfold maxLen; omega
        have hsk := fun w => skip_any s (k + fs) w (by omega) (by omega)
        rw [Int.natCast_add] at hsk
        have HK : Hid _ := hsk
        have hpl5 : ∀ O, Pl (w4.alloc O) b k line' start' := fun O => pl4.keep (Keep.alloc1 w4 O) (by simp)
        clear hsk hP
        generalize hOe : (Obj.cells #[.int .i64 fk, .string (ba ft), .int .i64 (fs : Int)] 45 (0, 0)) = O5
        have hb5 : (w4.alloc O5).heap[w4.heap.size]? = some (.cells #[.int .i64 fk, .string (ba ft), .int .i64 (fs : Int)] 45 (0, 0)) := by rw [hOe]; exact heap_alloc_new w4 O5
        have hpl5' := hpl5 O5
        obtain ⟨c0, c1, c2, _, _, _⟩ := box3 hpl5'
        obtain ⟨b0, b1, b2, _, _, _⟩ := box3 hb5
        have hrow5 : Hid (RowT (w4.alloc O5) u4 out) := RowC.keep hrow4.out (Keep.alloc1 w4 _) (Off.nil _)
        have hkeep5 : Hid (Keep [] w (w4.alloc O5)) := hkeep4.out.alloc _
        have hspot5 : Hid ((w4.alloc O5).heap[w.heap.size]? = some zeroSpot) := (Below.heap_alloc w4 _ _ hN4).trans hspot4
        have hb5' : Hid (b < (w4.alloc O5).heap.size) := by show _ < _; simp; omega
        go_wp2
        clear hb5 hpl5 hOe hrow4 hkeep4 hspot4
        have hbn : Hid (w.heap.size < b) := hbw
        generalize w4.alloc O5 = W5 at *
        go_region_law (first
          | (go_simp; refine (column_any b k line' start' W5.drew hpl5' st3 (by omega)).mono ?_; rintro e w7 ⟨rfl, rfl⟩)
          | (refine step_appC infoT rfl rfl (.tmp 40) (.tmp 49) 23 23 rfl Try.underlying23 u4 out.length (toksC out) rfl (RowC.keep hrow5.out ((((Keep.refl [] W5).drew).drew).alloc _) (Off.nil _)) _ 1 (tokC ⟨fk, ft, line', ((k - start' + 1 : Nat) : Int)⟩) rfl (src_tok2 _ (heap_alloc_new W5.drew.drew _)) hal.out.1 hal.out.2 ?_; intro v9 w9 R9 K9 F9 S9 O9; obtain ⟨a9, c9, rfl⟩ := S9))
        all_goals
          have hnext : Hid (∀ w10, Keep [] w9 w10 → Sc w w10 s b (.slice a9 (out.length + 1) c9) (k + fs + skipN false (s.toList.drop (k + fs))) (k + fs) k line' start' m (out ++ [⟨fk, ft, line', ((k - start' + 1 : Nat) : Int)⟩])) := fun w10 k10 => by
            have kA : Keep [] W5 (W5.drew.drew.alloc (.cells #[.int .i64 fk, .string (ba ft), .int .i64 line', .int .i64 ((k - start' + 1 : Nat) : Int)] 36 (0, 0))) := (((Keep.refl [] W5).drew).drew).alloc _
            have hfar9 : ∀ x, (Value.slice a9 (out.length + 1) c9).ownBlock = some x → b < x := fun x hx => by
              rcases F9 with e | e
              · rw [e] at hx; exact hfar.out x hx
              · have := (e x hx).1; have := hb5'.out; simp at *; omega
            have hnF : ∀ y, y ≤ b → y ∉ u4.ownBlock.toList := fun y hy hm => by have := hfar.out y (by simpa using hm); omega
            have hbs := hb5'.out
            have kB : ∀ y, y ≤ b → w10.heap[y]? = W5.heap[y]? := fun y hy => (k10.block y (by have := K9.size; simp at this; omega) (by simp)).trans ((K9.block y (by simp; omega) (hnF y hy)).trans (kA.block y (by omega) (by simp)))
            refine ⟨(kB _ (by have := hbn.out; omega)).trans hspot5.out, (kB _ (Nat.le_refl _)).trans hpl5', hbn.out, ?_, hfar9, ?_, rfl, by omega, by omega, st3, ln3, hadv.out, by omega, by simp; omega, ?_⟩
            · refine RowC.keep ?_ k10 (Off.nil _)
              rw [toksC_snoc, List.length_append]
              exact R9
            · exact (((hkeep5.out.trans' kA).more K9 (fun x hx => .inr (by have := hfar.out x (by simpa using hx); have := hbn.out; omega)))).trans' k10
            · rw [hgo.out, hat'.out, if_neg hk0]
              have e1 : (adv (1, 1) (s.toList.take k)).1 = line' := by rw [← hadv.out]
              have e2 : (adv (1, 1) (s.toList.take k)).2 = k - start' + 1 := by rw [← hadv.out]
              rw [e1, e2]
              generalize scanF m (s.toList.drop (k + fs)) (adv (1, 1) (s.toList.take (k + fs))) = r
              obtain ⟨x, q⟩ := r
              cases x <;> simp [ahead]
          have hle : Hid (k + fs + skipN false (s.toList.drop (k + fs)) ≤ s.size) := by
            show _ ≤ _
            have := skip_le (s.toList.drop (k + fs)) false
            rw [List.length_drop, toList_len] at this
            omega
          clear R9 K9 F9 O9 hgo hat' hadv
          go_wp2_with (go_at_call 15; refine (HK.out _).mono ?_; rintro e w10 ⟨rfl, k10⟩)
          go_roundw
          case rel => exact ⟨_, _, _, _, _, _, _, rfl, hle.out, hnext.out w10 k10⟩
          case measure => simp [intOf]; omega
    · have hlti : ¬ (k : Int) < (s.size : Int) := by omega
      obtain ⟨m, rfl⟩ : ∃ m, n = m + 1 := ⟨n - 1, by have := hsc.out.fuel; omega⟩
      have hg : Hid (scanL s.toList = (some (out ++ [⟨7, [], (adv (1, 1) s.toList).1, (adv (1, 1) s.toList).2⟩]), 0, 0, 0)) := by
        refine scan_some (q := (0, 0)) (by rw [toList_len]; exact hs2) ?_
        rw [hsc.out.go, scan_at s.toList m prev k hsc.out.hk (by rw [toList_len]; exact hps), if_pos (by rw [toList_len]; omega)]
        rfl
      have hal : Hid (((out.length + 1) * 40 ≤ 140737488355328) ∧ out.length + 1 ≤ maxLen) := by
        refine ⟨by omega, ?_⟩
        unfold maxLen; omega
      have hbw := hsc.out.hb
      go_wp2_with (go_at_call 16; refine (move_any s b pk s.size line start wr hsc.out.pl hst (by omega) (Nat.le_refl _) hln (by omega)).mono ?_; rintro e w3 ⟨rfl, line', start', pl3, st3, ln3, adv3, kp3⟩)
      have hadv : Hid ((line', s.size - start' + 1) = adv (1, 1) s.toList) := by
        show _ = _
        rw [adv3, hsc.out.pos, adv_take _ _ _ _ (by omega), List.take_of_length_le (by rw [toList_len]; exact Nat.le_refl _)]
      obtain ⟨c0, c1, c2, f0, f1, f2⟩ := box3 pl3
      have hrow3 : Hid (RowT w3 u4 out) := RowC.keep hsc.out.row kp3 (fun x hx hm => by have := hsc.out.far x hx; simp at hm; omega)
      have hspot3 : Hid (w3.heap[w.heap.size]? = some zeroSpot) := (kp3.block _ (Array.getElem?_eq_some_iff.1 hsc.out.spot).1 (by simp; omega)).trans hsc.out.spot
      have hkeep3 : Hid (Keep [] w w3) := hsc.out.keep.more kp3 (by intro x hx; simp at hx; subst hx; exact .inr (by omega))
      have hfar : Hid (∀ x, u4.ownBlock = some x → b < x) := hsc.out.far
      have hN3 : w.heap.size < w3.heap.size := by have := hkeep3.out.size; have := pl3.lt; omega
      go_wp2
      go_region_law (first
        | (go_simp; refine (column_any b s.size line' start' w3.drew pl3 st3 (by omega)).mono ?_; rintro e w4 ⟨rfl, rfl⟩)
        | (refine step_appC infoT rfl rfl (.tmp 58) (.tmp 63) 23 23 rfl Try.underlying23 u4 out.length (toksC out) rfl (RowC.keep hrow3.out ((((Keep.refl [] w3).drew).drew).alloc _) (Off.nil _)) _ 1 (tokC ⟨7, [], line', ((s.size - start' + 1 : Nat) : Int)⟩) rfl (src_tok2 _ (heap_alloc_new w3.drew.drew _)) hal.out.1 hal.out.2 ?_; intro v9 w9 R9 K9 F9 S9 O9; obtain ⟨a9, c9, rfl⟩ := S9; have hsp9 : w9.heap[w.heap.size]? = some zeroSpot := (K9.block w.heap.size (by simp; omega) (by intro hm; have := hfar.out _ (by simpa using hm); omega)).trans ((Below.heap_alloc w3.drew.drew _ _ hN3).trans hspot3.out); obtain ⟨g0, g1, g2, e0, e1, e2⟩ := box3 hsp9))
      all_goals
        have hq : Hid (RowT w9 (.slice a9 (out.length + 1) c9) (out ++ [⟨7, [], line', ((s.size - start' + 1 : Nat) : Int)⟩]) ∧ Keep [] w w9 ∧ (∀ x, (Value.slice a9 (out.length + 1) c9).ownBlock = some x → w.heap.size < x)) := by
          have kA : Keep [] w (w3.drew.drew.alloc (.cells #[.int .i64 7, .string (ba []), .int .i64 line', .int .i64 ((s.size - start' + 1 : Nat) : Int)] 36 (0, 0))) := (hkeep3.out.drew.drew).alloc _
          refine ⟨?_, kA.more K9 (fun x hx => .inr (by have := hfar.out x (by simpa using hx); omega)), fun x hx => ?_⟩
          · unfold RowT; rw [toksC_snoc, List.length_append]; exact R9
          · rcases F9 with e | e
            · rw [e] at hx; have := hfar.out x hx; omega
            · have := (e x hx).1; simp at this; omega
        clear R9 K9 F9 O9 hsp9
        go_wp2
        refine bodyPost_ret (v := .tuple #[.slice a9 (out.length + 1) c9, .agg #[.int .i64 0, .int .i64 0, .int .i64 0]]) (by simp [results, Try.results6, go_sem, g0, g1, g2]) rfl ⟨.slice a9 (out.length + 1) c9, ?_, ?_, ?_, fun x hx => Nat.le_of_lt (hq.out.2.2 x hx)⟩
        · rw [hg.out]; rfl
        · unfold scanT
          rw [hg.out]
          have e1 : (adv (1, 1) s.toList).1 = line' := by rw [← hadv.out]
          have e2 : (adv (1, 1) s.toList).2 = s.size - start' + 1 := by rw [← hadv.out]
          rw [e1, e2]
          have hoff : ∀ F, F = [w.heap.size] → Off (Value.slice a9 (out.length + 1) c9) F := fun F hF x hx hm => by subst hF; have := hq.out.2.2 x hx; simp at hm; omega
          exact RowC.keep (RowC.keep (RowC.keep hq.out.1 (Keep.set1 _ _ _) (hoff _ rfl)) (Keep.set1 _ _ _) (hoff _ rfl)) (Keep.set1 _ _ _) (hoff _ rfl)
        · exact keep_box1 hq.out.2.1 _ _ _
end Go.Proofs.Ytmglbcldjhdhkab

