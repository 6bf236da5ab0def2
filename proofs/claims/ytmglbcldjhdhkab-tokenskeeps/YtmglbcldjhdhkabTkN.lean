/- Numbers at the beginning of a text. -/
import Derived.Test.YtmglbcldjhdhkabTkR
namespace Go.Proofs.Ytmglbcldjhdhkab
open Go.RowKit Go.PlainAid

theorem step_high (st : Int) {c : Int} (h : 128 ≤ c) : stepI st c = 0 := by
  have hd : digitB c = false := by simp [digitB]; omega
  simp only [stepI, hd]
  rw [if_neg (by simp), if_neg (by omega), if_neg (by omega), if_neg (by omega)]
/-- the character at a place says of a number what the byte there says -/
theorem step_rn (s : ByteArray) (pos : Nat) (h : pos < s.size) (st : Int) : stepI st (rn s pos) = stepI st (bt s pos) ∧ inNameB (rn s pos) = inNameB (bt s pos) ∧ (stepI st (rn s pos) ≠ 0 → rw' s pos = 1) := by
  rcases Int.lt_or_le (bt s pos) 128 with hb | hb
  · obtain ⟨e1, e2⟩ := rn_low s pos h hb
    exact ⟨by rw [e1], by rw [e1], fun _ => e2⟩
  · obtain ⟨e1, _⟩ := rn_high s pos h hb
    exact ⟨by rw [step_high st e1, step_high st hb], by rw [inName_high e1, inName_high hb], fun hn => absurd (step_high st e1) hn⟩

set_option maxRecDepth 1000000 in
set_option maxHeartbeats 2000000 in
theorem number_any (s : ByteArray) (w : World) :
    Calls Try.prog 31 #[.string s] w fun e w' => e = .returned (.agg #[.int .i64 (numberL s.toList).kind, .string (ba (numberL s.toList).text), .int .i64 ((numberL s.toList).size : Int)]) ∧ Keep [] w w' := by
  go_enter Try.func31, Try.ntmps31
  go_wp2
  go_loopw [3] (fun z wr => ∃ (pos : Nat) (st : Int), z = .int .i64 st ∧ pos ≤ s.size ∧ Hid (It w wr s pos zeroFd) ∧ Hid (numGo 1 s.toList = (pos + (numGo st (s.toList.drop pos)).1, (numGo st (s.toList.drop pos)).2))) (fun _ wr => s.size - wr.iterPos (w.heap.size + 1))
  case atStart => exact ⟨0, 1, rfl, Nat.zero_le _, It.start w s _, by show _ = _; simp⟩
  case round =>
    obtain ⟨pos, st, rfl, hp, hit, hgo⟩ := hrel
    have hpos := hit.out.pos
    by_cases hlt : pos < s.size
    · have hnx := next_some (P := Try.prog) wr _ s pos hit.out.it hlt
      have hit2 : Hid _ := hit.out.next (pos + rw' s pos)
      obtain ⟨e1, e2, e3⟩ := step_rn s pos hlt st
      obtain ⟨c, hc, hbc⟩ := bt_drop s pos hlt
      rw [hbc] at e1 e2
      generalize hWe : wr.iterAt (w.heap.size + 1) s (pos + rw' s pos) = W at hnx hit2
      clear hWe
      rw [hc] at hgo
      by_cases hz : stepI st (rn s pos) = 0
      · have hg2 : numGo st (c :: s.toList.drop (pos + 1)) = (0, st, nm c) := by rw [numGo, if_pos (by rw [← e1]; exact hz)]
        rw [hg2] at hgo
        clear e1 e3 hbc
        cases hj : inNameB (rn s pos)
        · have hN : Hid (numberL s.toList = endedL s.toList pos st) := by
            show _ = _
            unfold numberL
            rw [hgo.out]
            simp only [nm, ← e2, hj, Bool.false_eq_true, if_false, Nat.add_zero]
          clear e2
          go_wp2_with (first | (go_at_call 39; refine (step_any _ _ _).mono ?_; rintro e w' ⟨rfl, hw'⟩; obtain rfl := hw'.symm) | (go_at_call 37; refine (joins_any _ _).mono ?_; rintro e w' ⟨rfl, hw'⟩; obtain rfl := hw'.symm) | (go_at_call 40; refine (ended_any _ _ _ hp _).mono ?_; rintro e w1 ⟨rfl, k1⟩; obtain ⟨c0, c1, c2, f0, f1, f2⟩ := box3 ((k1.block w.heap.size (by have := hit2.out.lt; omega) (by simp)).trans hit2.out.box)))
          refine bodyPost_ret (v := .agg #[.int .i64 (endedL s.toList pos st).kind, .string (ba (endedL s.toList pos st).text), .int .i64 ((endedL s.toList pos st).size : Int)]) (by simp [results, Try.results31, go_sem, c0, c1, c2]) rfl ⟨by rw [hN.out], keep_box1 (hit2.out.keep.trans' k1) _ _ _⟩
        · have hN : Hid (numberL s.toList = ⟨0, [], pos⟩) := by
            show _ = _
            unfold numberL
            rw [hgo.out]
            simp only [nm, ← e2, hj, if_true, Nat.add_zero]
          clear e2
          go_wp2_with (first | (go_at_call 39; refine (step_any _ _ _).mono ?_; rintro e w' ⟨rfl, hw'⟩; obtain rfl := hw'.symm) | (go_at_call 37; refine (joins_any _ _).mono ?_; rintro e w' ⟨rfl, hw'⟩; obtain rfl := hw'.symm) | (go_at_call 29; refine (refused_any _ _).mono ?_; rintro e w1 ⟨rfl, k1⟩; obtain ⟨c0, c1, c2, f0, f1, f2⟩ := box3 ((k1.block w.heap.size (by have := hit2.out.lt; omega) (by simp)).trans hit2.out.box)))
          refine bodyPost_ret (v := .agg #[.int .i64 0, .string (ba []), .int .i64 (pos : Int)]) (by simp [results, Try.results31, go_sem, c0, c1, c2]) rfl ⟨by rw [hN.out], keep_box1 (hit2.out.keep.trans' k1) _ _ _⟩
      · have hw1 := e3 hz
        have hg2 : numGo st (c :: s.toList.drop (pos + 1)) = ((numGo (stepI st (rn s pos)) (s.toList.drop (pos + 1))).1 + 1, (numGo (stepI st (rn s pos)) (s.toList.drop (pos + 1))).2) := by rw [numGo, if_neg (by rw [← e1]; exact hz), ← e1]
        have hgo2 : Hid (numGo 1 s.toList = (pos + 1 + (numGo (stepI st (rn s pos)) (s.toList.drop (pos + 1))).1, (numGo (stepI st (rn s pos)) (s.toList.drop (pos + 1))).2)) := by
          show _ = _
          rw [hgo.out, hg2]
          simp only [Prod.mk.injEq, and_true]
          omega
        rw [hw1] at hit2
        clear hg2 hgo e1 e2 e3 hbc hw1
        have hz2 : (stepI st (rn s pos) == 0) = false := by simpa using hz
        go_wp2_with (go_at_call 39; refine (step_any _ _ _).mono ?_; rintro e w' ⟨rfl, hw'⟩; obtain rfl := hw'.symm)
        go_roundw
        case rel => exact ⟨pos + 1, _, rfl, by omega, hit2, hgo2⟩
        case measure => rw [hit2.out.pos, hpos]; omega
    · have hnx := next_none (P := Try.prog) wr _ s pos hit.out.it hlt
      have hN : Hid (numberL s.toList = endedL s.toList pos st) := by
        show _ = _
        unfold numberL
        rw [hgo.out, drop_end s pos hlt]
        simp [numGo]
      obtain rfl : pos = s.size := by omega
      go_wp2_with (go_at_call 40; refine (ended_any _ _ _ (by omega) _).mono ?_; rintro e w1 ⟨rfl, k1⟩; obtain ⟨c0, c1, c2, f0, f1, f2⟩ := box3 ((k1.block w.heap.size (by have := hit.out.lt; omega) (by simp)).trans hit.out.box))
      refine bodyPost_ret (v := .agg #[.int .i64 (endedL s.toList s.size st).kind, .string (ba (endedL s.toList s.size st).text), .int .i64 ((endedL s.toList s.size st).size : Int)]) (by simp [results, Try.results31, go_sem, c0, c1, c2]) rfl ⟨by rw [hN.out], keep_box1 (hit.out.keep.trans' k1) _ _ _⟩
end Go.Proofs.Ytmglbcldjhdhkab

