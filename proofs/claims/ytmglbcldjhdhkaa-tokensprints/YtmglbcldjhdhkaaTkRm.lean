/- The document's Scan. -/
import Derived.Test.YtmglbcldjhdhkaaTkRl
import Derived.Test.YtmglbcldjhdhkaaTkX
namespace Go.Proofs.Ytmglbcldjhdhkaa
open Go.RowKit Go.PlainAid

theorem place2_any (s : ByteArray) (k : Nat) (w : World) (hk : k ≤ s.size) (hs : s.size ≤ 65536) :
    Calls Try.prog 24 #[.string s, .int .i64 (k : Int)] w fun e w' => e = .returned (.tuple #[.int .i64 ((adv (1, 1) (s.toList.take k)).1 : Int), .int .i64 ((adv (1, 1) (s.toList.take k)).2 : Int)]) ∧ w' = w := by
  have hO : Hid (∀ w, Calls Try.prog 34 #[.string s, .int .i64 0, .int .i64 (k : Int), .int .i64 1, .int .i64 1] w fun e w' => e = .returned (.tuple #[.int .i64 ((adv (1, 1) (s.toList.take k)).1 : Int), .int .i64 ((adv (1, 1) (s.toList.take k)).2 : Int)]) ∧ w' = w) := fun w => by
    have := onward2_any s 0 k (1, 1) w (Nat.zero_le _) hk (by omega) (by simp)
    rw [List.drop_zero, Nat.sub_zero] at this
    exact this
  go_enter Try.func24, Try.ntmps24
  go_wp2_with (go_at_call 34; refine (hO.out _).mono ?_; rintro e w1 ⟨rfl, rfl⟩)
  go_ret2
  exact ⟨rfl, rfl⟩
/-- where the loop of the document's Scan stands -/
structure Rs (w wr : World) (s : ByteArray) (v : Value) (k prev pk n : Nat) (p : Nat × Nat) (out : List TokD) : Prop where
  spot : wr.heap[w.heap.size]? = some zeroSpot
  row : RowT wr v out
  far : ∀ x, v.ownBlock = some x → w.heap.size < x
  keep : Keep [] w wr
  hk : k = prev + skipN false (s.toList.drop prev)
  pp : pk ≤ prev
  ps : prev ≤ s.size
  pos : p = adv (1, 1) (s.toList.take pk)
  fuel : s.size - prev < n
  len : out.length ≤ prev
  go : scanF (s.toList.length + 1) s.toList (1, 1) = ahead out (scanF n (s.toList.drop prev) (adv (1, 1) (s.toList.take prev)))
set_option maxRecDepth 1000000 in
set_option maxHeartbeats 500000 in
theorem rscan_any (s : ByteArray) (w : World) (hs : s.size ≤ 9223372036854775800) :
    Calls Try.prog 10 #[.string s] w fun e w' => ∃ v, e = .returned (.tuple #[v, .agg #[.int .i64 (scanL s.toList).2.1, .int .i64 ((scanL s.toList).2.2.1 : Int), .int .i64 ((scanL s.toList).2.2.2 : Int)]]) ∧ RowT w' v (scanT s.toList) ∧ Keep [] w w' := by
  by_cases hlong : 65536 < s.size
  · have hl : Hid (scanL s.toList = (none, 3, 0, 0)) := scan_over _ (by rw [toList_len]; exact hlong)
    have hi : (65536 : Int) < (s.size : Int) := by omega
    go_enter Try.func10, Try.ntmps10
    go_wp2
    refine bodyPost_ret (v := .tuple #[.slice none 0 0, .agg #[.int .i64 3, .int .i64 0, .int .i64 0]]) (by simp [results, Try.results10, go_sem]) rfl ⟨.slice none 0 0, ?_, ?_, Keep.alloc1 w _⟩
    · rw [hl.out]; rfl
    · unfold scanT; rw [hl.out]; exact World.ownsRow_nil _ 0 37 4
  have hi : ¬ (65536 : Int) < (s.size : Int) := by omega
  have hs2 : s.size ≤ 65536 := by omega
  clear hlong hs
  have hrs := run_scan (s.toList.length + 1) s.toList (1, 1) ⟨0, 0⟩ (ready0 _ _) (by omega)
  have hRun : Hid (∀ w, Calls Try.prog 30 #[.string s] w fun e w' => e = .returned (.tuple #[.int .i64 ((runM ⟨0, 0⟩ s.toList).1 : Int), .agg #[.int .i64 (runM ⟨0, 0⟩ s.toList).2.st, .int .i64 (runM ⟨0, 0⟩ s.toList).2.n]]) ∧ Keep [] w w') := fun w => run_any s w (by omega)
  have hFin : Hid (∀ w, Calls Try.prog 31 #[.string s] w fun e w' => e = .returned (.string (ba (finM (runM ⟨0, 0⟩ s.toList).2))) ∧ Keep [] w w') := fun w => finish_any s w (by omega)
  cases hsf : (scanF (s.toList.length + 1) s.toList (1, 1)).1 with
  | none =>
    obtain ⟨k, ⟨hkl, m', hrun, hor⟩, hq⟩ := hrs.2 hsf
    have hl : Hid (scanL s.toList = (none, 50, adv (1, 1) (s.toList.take k))) := scan_none (by rw [toList_len]; exact hs2) (Prod.ext hsf hq)
    rw [hrun] at hRun hFin
    rw [toList_len] at hkl hor
    have hP : Hid (∀ w, Calls Try.prog 24 #[.string s, .int .i64 (k : Int)] w fun e w' => e = .returned (.tuple #[.int .i64 ((adv (1, 1) (s.toList.take k)).1 : Int), .int .i64 ((adv (1, 1) (s.toList.take k)).2 : Int)]) ∧ w' = w) := fun w => place2_any s k w hkl hs2
    generalize adv (1, 1) (s.toList.take k) = q at hl hP
    obtain ⟨q1, q2⟩ := q
    simp only at hRun hFin hP
    generalize m'.st = ms at hRun
    generalize m'.n = mn at hRun
    have fin : Hid (∀ w3, Keep [] (w.alloc zeroSpot) w3 → w3.heap[w.heap.size]? = some zeroSpot) := fun w3 k3 => (k3.block _ (by simp) (by simp)).trans (heap_alloc_new w zeroSpot)
    clear hrs hsf hrun hq
    by_cases hlt : k < s.size
    · have hlti : (k : Int) < (s.size : Int) := by omega
      clear hor
      go_enter Try.func10, Try.ntmps10
      go_wp2_with (first | (go_at_call 30; refine (hRun.out _).mono ?_; rintro e w1 ⟨rfl, k1⟩) | (go_at_call 24; refine (hP.out _).mono ?_; rintro e w' ⟨rfl, rfl⟩; obtain ⟨g0, g1, g2, e0, e1, e2⟩ := box3 (fin.out _ (k1.alloc (.cells #[.int .i64 ms, .int .i64 mn] 57 (0, 0))))))
      refine bodyPost_ret (v := .tuple #[.slice none 0 0, .agg #[.int .i64 50, .int .i64 (q1 : Int), .int .i64 (q2 : Int)]]) (by simp [results, Try.results10, go_sem, g0, g1, g2]) rfl ⟨.slice none 0 0, ?_, ?_, ?_⟩
      · rw [hl.out]
      · unfold scanT; rw [hl.out]; exact World.ownsRow_nil _ 0 37 4
      · exact keep_box1 (((Keep.alloc1 w _).trans' k1).alloc _) _ _ _
    · have hlti : ¬ (k : Int) < (s.size : Int) := by omega
      have hdec : decide ((k : Int) < (s.size : Int)) = false := by simp; omega
      have hne : (ba (finM m')).toList.isEmpty = false := by
        rw [ba_toList]
        cases e : finM m' with
        | nil => rcases hor with h | h; exact absurd h hlt; exact absurd e h
        | cons _ _ => rfl
      generalize finM m' = fm at hFin hne
      clear hor
      go_enter Try.func10, Try.ntmps10
      go_wp2_with (first | (go_at_call 30; refine (hRun.out _).mono ?_; rintro e w1 ⟨rfl, k1⟩) | (go_at_call 31; refine (hFin.out _).mono ?_; rintro e w2 ⟨rfl, k2⟩) | (go_at_call 24; refine (hP.out _).mono ?_; rintro e w' ⟨rfl, rfl⟩; obtain ⟨g0, g1, g2, e0, e1, e2⟩ := box3 (fin.out _ ((k1.alloc _).trans' k2))))
      refine bodyPost_ret (v := .tuple #[.slice none 0 0, .agg #[.int .i64 50, .int .i64 (q1 : Int), .int .i64 (q2 : Int)]]) (by simp [results, Try.results10, go_sem, g0, g1, g2]) rfl ⟨.slice none 0 0, ?_, ?_, ?_⟩
      · rw [hl.out]
      · unfold scanT; rw [hl.out]; exact World.ownsRow_nil _ 0 37 4
      · exact keep_box1 ((((Keep.alloc1 w _).trans' k1).alloc _).trans' k2) _ _ _
  | some ts =>
    obtain ⟨m', hrun, hfin⟩ := hrs.1 (by rw [hsf]; simp)
    obtain ⟨q0, hsf2⟩ : ∃ q0, scanF (s.toList.length + 1) s.toList (1, 1) = (some ts, q0) := ⟨_, Prod.ext hsf rfl⟩
    have hL : Hid (scanL s.toList = (some ts, 0, 0, 0)) := scan_some (by rw [toList_len]; exact hs2) hsf2
    have hTS : Hid _ := hsf2
    rw [hrun] at hRun hFin
    rw [hfin] at hFin
    simp only at hRun hFin
    rw [toList_len] at hRun
    generalize m'.st = ms at hRun
    generalize m'.n = mn at hRun
    have hFin2 : Hid (∀ w, Calls Try.prog 31 #[.string s] w fun e w' => e = .returned (.string ⟨#[]⟩) ∧ Keep [] w w') := hFin.out
    have hSk : Hid (∀ (k : Nat) w, k ≤ s.size → Calls Try.prog 32 #[.string s, .int .i64 (k : Int)] w fun e w' => e = .returned (.int .i64 ((k + skipN false (s.toList.drop k) : Nat) : Int)) ∧ w' = w) := fun k w hk => rskip_any s k w hk (by omega)
    have hSk0 : Hid (∀ w, Calls Try.prog 32 #[.string s, .int .i64 0] w fun e w' => e = .returned (.int .i64 ((skipN false s.toList : Nat) : Int)) ∧ w' = w) := fun w => by
      have := hSk.out 0 w (Nat.zero_le _)
      rw [Nat.zero_add, List.drop_zero] at this
      exact this
    have hsk0 := skip_le s.toList false
    rw [toList_len] at hsk0
    clear hrs hsf hrun hfin hsf2 hFin
    go_enter Try.func10, Try.ntmps10
    go_wp2_with (first | (go_at_call 30; refine (hRun.out _).mono ?_; rintro e w1 ⟨rfl, k1⟩) | (go_at_call 31; refine (hFin2.out _).mono ?_; rintro e w2 ⟨rfl, k2⟩) | (go_at_call 32; refine (hSk0.out _).mono ?_; rintro e w' ⟨rfl, rfl⟩))
    have h0 : Hid (Rs w w' s (.slice none 0 0) (skipN false s.toList) 0 0 (s.toList.length + 1) (1, 1) []) := by
      refine ⟨(((k1.alloc _).trans' k2).block _ (by simp) (by simp)).trans (heap_alloc_new w zeroSpot), World.ownsRow_nil _ 0 37 4, fun x hx => by simp [Value.ownBlock] at hx, (((Keep.alloc1 w _).trans' k1).alloc _).trans' k2, by simp, Nat.le_refl _, Nat.zero_le _, rfl, by rw [toList_len]; omega, by simp, ?_⟩
      rw [List.drop_zero, List.take_zero, show adv (1, 1) ([] : List UInt8) = (1, 1) from rfl]
      generalize scanF (s.toList.length + 1) s.toList (1, 1) = r
      obtain ⟨x, q⟩ := r
      cases x <;> simp [ahead]
    clear k1 k2 hRun hFin2 hSk0
    go_loopw [8, 9, 10, 11, 12] (fun z8 z9 z10 z11 z12 wr => ∃ (k prev pk n : Nat) (p : Nat × Nat) (out : List TokD), z9 = .int .i64 (p.1 : Int) ∧ z10 = .int .i64 (p.2 : Int) ∧ z11 = .int .i64 (pk : Int) ∧ z12 = .int .i64 (k : Int) ∧ k ≤ s.size ∧ Hid (Rs w wr s z8 k prev pk n p out)) (fun _ _ _ _ z12 _ => s.size - (intOf z12).toNat)
    case atStart => exact ⟨_, _, _, _, (1, 1), _, rfl, rfl, rfl, rfl, hsk0, h0⟩
    case round =>
      clear h0
      obtain ⟨k, prev, pk, n, p, out, rfl, rfl, rfl, rfl, hks, hR⟩ := hrel
      have hpp := hR.out.pp
      have hps := hR.out.ps
      have hhk : prev ≤ k := by have := hR.out.hk; omega
      have hlen := hR.out.len
      have hple : p.1 ≤ 1 + pk ∧ p.2 ≤ 1 + pk + 1 := by
        have := adv_le (s.toList.take pk) (1, 1)
        rw [← hR.out.pos, List.length_take, toList_len] at this
        simp only at this
        omega
      obtain ⟨m, rfl⟩ : ∃ m, n = m + 1 := ⟨n - 1, by have := hR.out.fuel; omega⟩
      have hat := scan_at s.toList m prev k hR.out.hk (by rw [toList_len]; exact hps)
      have hgo := hR.out.go
      rw [hTS.out, hat] at hgo
      have hO : Hid (∀ (b : Nat) w, pk ≤ b → b ≤ s.size → Calls Try.prog 34 #[.string s, .int .i64 (pk : Int), .int .i64 (b : Int), .int .i64 (p.1 : Int), .int .i64 (p.2 : Int)] w fun e w' => e = .returned (.tuple #[.int .i64 ((adv (1, 1) (s.toList.take b)).1 : Int), .int .i64 ((adv (1, 1) (s.toList.take b)).2 : Int)]) ∧ w' = w) := fun b w h1 h2 => by
        have := onward2_any s pk b p w h1 h2 (by omega) (by omega)
        have e : adv p ((s.toList.drop pk).take (b - pk)) = adv (1, 1) (s.toList.take b) := by rw [hR.out.pos, adv_take _ _ _ _ h1]
        rw [e] at this
        exact this
      by_cases hlt : k < s.size
      · have hlti : (k : Int) < (s.size : Int) := by omega
        rw [if_neg (by rw [toList_len]; omega)] at hgo
        have hk0 : (pieceL (s.toList.drop k)).kind ≠ 0 := fun e => by rw [if_pos e] at hgo; simp [ahead] at hgo
        rw [if_neg hk0] at hgo
        have hgo2 : (some ts, q0) = ahead (out ++ [⟨(pieceL (s.toList.drop k)).kind, (pieceL (s.toList.drop k)).text, ((adv (1, 1) (s.toList.take k)).1 : Int), ((adv (1, 1) (s.toList.take k)).2 : Int)⟩]) (scanF m (s.toList.drop (k + (pieceL (s.toList.drop k)).size)) (adv (1, 1) (s.toList.take (k + (pieceL (s.toList.drop k)).size)))) := by
          rw [hgo]
          generalize scanF m (s.toList.drop (k + (pieceL (s.toList.drop k)).size)) (adv (1, 1) (s.toList.take (k + (pieceL (s.toList.drop k)).size))) = r
          obtain ⟨x, q⟩ := r
          cases x <;> simp [ahead]
        clear hgo
        have hgo := hgo2
        clear hgo2
        obtain ⟨hf1, hf2⟩ := piece_size (s.toList.drop k)
        rw [List.length_drop, toList_len] at hf1
        have hf3 := hf2 hk0
        have hPc : Hid (∀ w, Calls Try.prog 33 #[.string s, .int .i64 (k : Int)] w fun e w' => e = .returned (.tuple #[.agg #[.int .i64 (pieceL (s.toList.drop k)).kind, .string (ba (pieceL (s.toList.drop k)).text), .int .i64 0, .int .i64 0], .int .i64 ((k + (pieceL (s.toList.drop k)).size : Nat) : Int)]) ∧ Keep [] w w') := fun w => rpiece_any s k w hs2 hlt hk0
        generalize pieceL (s.toList.drop k) = f at hgo hPc hf1 hf2 hf3 hk0
        obtain ⟨fk, ft, fs⟩ := f
        simp only at hgo hPc hf1 hf3
        have hOk : Hid (∀ w, Calls Try.prog 34 #[.string s, .int .i64 (pk : Int), .int .i64 (k : Int), .int .i64 (p.1 : Int), .int .i64 (p.2 : Int)] w fun e w' => e = .returned (.tuple #[.int .i64 ((adv (1, 1) (s.toList.take k)).1 : Int), .int .i64 ((adv (1, 1) (s.toList.take k)).2 : Int)]) ∧ w' = w) := fun w => hO.out k w (by omega) hks
        obtain ⟨E, hE⟩ : ∃ E, k + fs = E := ⟨_, rfl⟩
        rw [hE] at hPc hgo
        have hSkE : Hid (∀ w, Calls Try.prog 32 #[.string s, .int .i64 (E : Int)] w fun e w' => e = .returned (.int .i64 ((E + skipN false (s.toList.drop E) : Nat) : Int)) ∧ w' = w) := fun w => hSk.out E w (by omega)
        have hskE : E + skipN false (s.toList.drop E) ≤ s.size := by
          have := skip_le (s.toList.drop E) false
          rw [List.length_drop, toList_len] at this
          omega
        have hGo : Hid _ := hgo
        have hq : Hid (∀ q, adv (1, 1) (s.toList.take k) = q → q = adv (1, 1) (s.toList.take k)) := fun q e => e.symm
        generalize hqe : adv (1, 1) (s.toList.take k) = q at hOk hGo
        obtain ⟨q1, q2⟩ := q
        simp only at hOk hGo
        have Hqe : Hid (adv (1, 1) (s.toList.take k) = (q1, q2)) := hqe
        have hal : Hid ((out.length + 1) * 40 ≤ 140737488355328 ∧ out.length + 1 ≤ maxLen) := by
          refine ⟨by omega, ?_⟩
          unfold maxLen; omega
        clear hgo hqe hq hO hSk hat hf2 hk0
        go_wp2_with fail
        refine (hPc.out wr).mono ?_
        rintro e w5 ⟨rfl, k4⟩
        go_wp2_with fail
        refine (hOk.out (w5.alloc (.cells #[.int .i64 fk, .string (ba ft), .int .i64 0, .int .i64 0] 37 (0, 0)))).mono ?_
        rintro e w6 ⟨rfl, hw6⟩
        subst hw6
        have hK6 : Hid (Keep [] wr ((w5.alloc (.cells #[.int .i64 fk, .string (ba ft), .int .i64 (q1 : Int), .int .i64 (q2 : Int)] 37 (0, 0))).alloc (.cells #[.int .i64 fk, .string (ba ft), .int .i64 (q1 : Int), .int .i64 (q2 : Int)] 37 (0, 0)))) := (k4.alloc _).alloc _
        have hrow : Hid (RowT ((w5.alloc (.cells #[.int .i64 fk, .string (ba ft), .int .i64 (q1 : Int), .int .i64 (q2 : Int)] 37 (0, 0))).alloc (.cells #[.int .i64 fk, .string (ba ft), .int .i64 (q1 : Int), .int .i64 (q2 : Int)] 37 (0, 0))) u8 out) := RowC.keep hR.out.row hK6.out (Off.nil _)
        have hsrc : Hid (Src Try.prog 4 22 (.slice (some ⟨w5.heap.size + 1, 0, none⟩) 1 1) 1 (tokC ⟨fk, ft, (q1 : Int), (q2 : Int)⟩) ((w5.alloc (.cells #[.int .i64 fk, .string (ba ft), .int .i64 (q1 : Int), .int .i64 (q2 : Int)] 37 (0, 0))).alloc (.cells #[.int .i64 fk, .string (ba ft), .int .i64 (q1 : Int), .int .i64 (q2 : Int)] 37 (0, 0)))) := by
          have h1 := heap_alloc_new (w5.alloc (.cells #[.int .i64 fk, .string (ba ft), .int .i64 (q1 : Int), .int .i64 (q2 : Int)] 37 (0, 0))) (.cells #[.int .i64 fk, .string (ba ft), .int .i64 (q1 : Int), .int .i64 (q2 : Int)] 37 (0, 0))
          rw [show (w5.alloc (.cells #[.int .i64 fk, .string (ba ft), .int .i64 (q1 : Int), .int .i64 (q2 : Int)] 37 (0, 0))).heap.size = w5.heap.size + 1 by simp] at h1
          exact src_tok2 ⟨fk, ft, (q1 : Int), (q2 : Int)⟩ h1
        clear k4
        go_wp2_with (at_builtin; refine wp_appC infoT rfl rfl (.tmp 68) (.tmp 70) 22 22 rfl Try.underlying22 u8 out.length (toksC out) rfl hrow.out _ 1 (tokC ⟨fk, ft, (q1 : Int), (q2 : Int)⟩) rfl hsrc.out hal.out.1 hal.out.2 ?_)
        intro v9 w9 R9 K9 F9 S9 _
        obtain ⟨a9, c9, rfl⟩ := S9
        have hnx : Hid (Rs w w9 s (.slice a9 (out.length + 1) c9) (E + skipN false (s.toList.drop E)) E k m (q1, q2) (out ++ [⟨fk, ft, (q1 : Int), (q2 : Int)⟩])) := by
          have hsp := hR.out.spot
          have hlt0 := (Array.getElem?_eq_some_iff.1 hsp).1
          have hsz := hK6.out.size
          refine ⟨?_, ?_, fun x hx => ?_, ?_, rfl, by omega, by omega, Hqe.out.symm, by have := hR.out.fuel; omega, by simp; omega, ?_⟩
          · exact (K9.block _ (by omega) (by intro hm; have := hR.out.far _ (by simpa using hm); omega)).trans ((hK6.out.block _ hlt0 (by simp)).trans hsp)
          · unfold RowT; rw [toksC_snoc, List.length_append]; exact R9
          · rcases F9 with e | e
            · rw [e] at hx; exact hR.out.far x hx
            · have := (e x hx).1; omega
          · exact (hR.out.keep.trans' hK6.out).more K9 (fun x hx => .inr (by have := hR.out.far x (by simpa using hx); omega))
          · rw [hTS.out]; exact hGo.out
        clear R9 K9 F9 hrow hsrc hK6 hR hGo hPc hOk
        go_wp2_with (go_at_call 32; refine (hSkE.out _).mono ?_; rintro e w' ⟨rfl, rfl⟩)
        go_roundw
        case rel => exact ⟨_, _, _, _, (q1, q2), _, rfl, rfl, rfl, rfl, hskE, hnx⟩
        case measure => simp [intOf]; omega
      · have hlti : ¬ (k : Int) < (s.size : Int) := by omega
        rw [if_pos (by rw [toList_len]; omega)] at hgo
        have hts : ts = out ++ [⟨7, [], ((adv (1, 1) s.toList).1 : Int), ((adv (1, 1) s.toList).2 : Int)⟩] := by
          simp only [ahead, Prod.mk.injEq, Option.some.injEq] at hgo
          exact hgo.1
        have hOk : Hid (∀ w, Calls Try.prog 34 #[.string s, .int .i64 (pk : Int), .int .i64 (s.size : Int), .int .i64 (p.1 : Int), .int .i64 (p.2 : Int)] w fun e w' => e = .returned (.tuple #[.int .i64 ((adv (1, 1) s.toList).1 : Int), .int .i64 ((adv (1, 1) s.toList).2 : Int)]) ∧ w' = w) := fun w => by
          have := hO.out s.size w (by omega) (Nat.le_refl _)
          rwa [List.take_of_length_le (by rw [toList_len]; exact Nat.le_refl _)] at this
        generalize adv (1, 1) s.toList = q at hOk hts
        obtain ⟨q1, q2⟩ := q
        simp only at hOk hts
        have hal : Hid ((out.length + 1) * 40 ≤ 140737488355328 ∧ out.length + 1 ≤ maxLen) := by
          refine ⟨by omega, ?_⟩
          unfold maxLen; omega
        have hrow : Hid (RowT (wr.alloc (.cells #[.int .i64 7, .string (ba []), .int .i64 (q1 : Int), .int .i64 (q2 : Int)] 37 (0, 0))) u8 out) := RowC.keep hR.out.row (Keep.alloc1 wr _) (Off.nil _)
        have hsrc : Hid _ := src_tok wr ⟨7, [], (q1 : Int), (q2 : Int)⟩
        have hTs2 : Hid (ts = out ++ [⟨7, [], (q1 : Int), (q2 : Int)⟩]) := hts
        clear hO hSk hat hgo hts
        go_wp2_with (first | (go_at_call 34; refine (hOk.out _).mono ?_; rintro e w' ⟨rfl, rfl⟩) | (at_builtin; refine wp_appC infoT rfl rfl (.tmp 85) (.tmp 89) 22 22 rfl Try.underlying22 u8 out.length (toksC out) rfl hrow.out _ 1 (tokC ⟨7, [], (q1 : Int), (q2 : Int)⟩) rfl hsrc.out hal.out.1 hal.out.2 ?_; intro v9 w9 R9 K9 F9 S9 _; obtain ⟨a9, c9, rfl⟩ := S9; have hsp9 : w9.heap[w.heap.size]? = some zeroSpot := (K9.block w.heap.size (by have := (Array.getElem?_eq_some_iff.1 hR.out.spot).1; simp; omega) (by intro hm; have := hR.out.far _ (by simpa using hm); omega)).trans ((Below.heap_alloc _ _ _ (Array.getElem?_eq_some_iff.1 hR.out.spot).1).trans hR.out.spot); obtain ⟨g0, g1, g2, e0, e1, e2⟩ := box3 hsp9))
        have hq : Hid (RowT w9 (.slice a9 (out.length + 1) c9) ts ∧ Keep [] w w9 ∧ (∀ x, (Value.slice a9 (out.length + 1) c9).ownBlock = some x → w.heap.size < x)) := by
          refine ⟨?_, (hR.out.keep.alloc _).more K9 (fun x hx => .inr (by have := hR.out.far x (by simpa using hx); omega)), fun x hx => ?_⟩
          · unfold RowT; rw [hTs2.out, toksC_snoc, List.length_append]; exact R9
          · rcases F9 with e | e
            · rw [e] at hx; exact hR.out.far x hx
            · have := (e x hx).1
              have h2 := (Array.getElem?_eq_some_iff.1 hR.out.spot).1
              simp at this
              omega
        clear R9 K9 F9 hsp9
        refine bodyPost_ret (v := .tuple #[.slice a9 (out.length + 1) c9, .agg #[.int .i64 0, .int .i64 0, .int .i64 0]]) (by simp [results, Try.results10, go_sem, g0, g1, g2]) rfl ⟨.slice a9 (out.length + 1) c9, ?_, ?_, ?_⟩
        · rw [hL.out]; rfl
        · unfold scanT
          rw [hL.out]
          have hoff : ∀ F, F = [w.heap.size] → Off (Value.slice a9 (out.length + 1) c9) F := fun F hF x hx hm => by subst hF; have := hq.out.2.2 x hx; simp at hm; omega
          exact RowC.keep (RowC.keep (RowC.keep hq.out.1 (Keep.set1 _ _ _) (hoff _ rfl)) (Keep.set1 _ _ _) (hoff _ rfl)) (Keep.set1 _ _ _) (hoff _ rfl)
        · exact keep_box1 hq.out.2.1 _ _ _
end Go.Proofs.Ytmglbcldjhdhkaa
