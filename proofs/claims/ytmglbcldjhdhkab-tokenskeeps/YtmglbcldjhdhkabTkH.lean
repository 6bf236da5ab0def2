/- Quoted texts at the beginning of a text. -/
import Derived.Test.YtmglbcldjhdhkabTkG
import Derived.Test.YtmglbcldjhdhkabTkJ
namespace Go.Proofs.Ytmglbcldjhdhkab
open Go.RowKit Go.PlainAid

theorem quoted_some {s : ByteArray} {x : List UInt8} {n : Nat} (h : qGo 0 0 [] (s.toList.drop 1) = (some x, n)) : quotedL s.toList = ⟨5, x, n + 1⟩ := by
  unfold quotedL; rw [h]
theorem quoted_none {s : ByteArray} {n : Nat} (h : qGo 0 0 [] (s.toList.drop 1) = (none, n)) : quotedL s.toList = ⟨0, [], n + 1⟩ := by
  unfold quotedL; rw [h]
theorem mid_add (l : List UInt8) (a b n : Nat) (h : a ≤ b) : (l.drop a).take (b + n - a) = (l.drop a).take (b - a) ++ (l.drop b).take n := by
  rw [show b + n - a = (b - a) + n by omega, List.take_add, List.drop_drop, show a + (b - a) = b by omega]

/-- the piece between goes on by a character of bytes that stand for themselves -/
theorem Qi.plain {w wr : World} {s : ByteArray} {pos frm : Nat} {d : UInt8} {out acc : List UInt8} {v : Value} (h : Qi w wr s pos frm 0 d out acc v) {W : World} {n : Nat} (hw : Qw w W s (pos + n) 0 d out v) (hn : pos + n ≤ s.size)
    (hg : qGo 0 d acc (s.toList.drop pos) = ((qGo 0 d (acc ++ (s.toList.drop pos).take n) (s.toList.drop (pos + n))).1, (qGo 0 d (acc ++ (s.toList.drop pos).take n) (s.toList.drop (pos + n))).2 + n)) :
    Qi w W s (pos + n) frm 0 d out (acc ++ (s.toList.drop pos).take n) v := by
  refine ⟨hw.box, hw.uq, hw.it, hw.keep, by have := h.fp; omega, hn, fun _ => ?_, fun h => absurd rfl h, .inl rfl, h.len, h.f1, ?_⟩
  · rw [mid_add _ _ _ _ h.fp, h.acc0 rfl, List.append_assoc]
  · rw [h.go, hg]
    have := h.fp
    have := h.f1
    simp only [Prod.mk.injEq, true_and]
    omega
/-- what stood between has been taken over, or an escape has gone on -/
theorem Qi.esc {w wr : World} {s : ByteArray} {pos frm : Nat} {st st' : Int} {d d' : UInt8} {out out' acc : List UInt8} {v v' : Value} (h : Qi w wr s pos frm st d out acc v) {W : World} (hw : Qw w W s (pos + 1) st' d' out' v') (hlt : pos < s.size)
    (hs : st' = 0 ∨ st' = 1 ∨ st' = 2 ∨ st' = 3) (hl : out'.length ≤ pos + 1)
    (hg : qGo st d acc (s.toList.drop pos) = ((qGo st' d' out' (s.toList.drop (pos + 1))).1, (qGo st' d' out' (s.toList.drop (pos + 1))).2 + 1)) :
    Qi w W s (pos + 1) (pos + 1) st' d' out' out' v' := by
  refine ⟨hw.box, hw.uq, hw.it, hw.keep, Nat.le_refl _, by omega, fun _ => by simp, fun _ => rfl, hs, hl, by omega, ?_⟩
  rw [h.go, hg]
  have := h.fp
  have := h.f1
  simp only [Prod.mk.injEq, true_and]
  omega
theorem keep_box1' {w W W' : World} (k : Keep [] w W) (k2 : Keep [] W W') (u v x : Value) {a b c : Nat} : Keep [] w (((W'.setCell ⟨w.heap.size, a, none⟩ u).setCell ⟨w.heap.size, b, none⟩ v).setCell ⟨w.heap.size, c, none⟩ x) := keep_box1 (k.trans' k2) u v x
/-- an own row has gone on -/
theorem Qw.put {w W w1 : World} {s : ByteArray} {p : Nat} {st : Int} {d : UInt8} {out out' : List UInt8} {v v' : Value} (h : Qw w W s p st d out v) (h1 : Row w1 v' out') (h2 : Keep v.ownBlock.toList W.drew w1) (h3 : v'.ownBlock = v.ownBlock ∨ Fresh W.drew w1 v') :
    Qw w (w1.setCell ⟨w.heap.size + 1, 1, none⟩ v') s p st d out' v' ∧ w1.heap[w.heap.size + 1]? = W.heap[w.heap.size + 1]? := by
  have hu : Uq (w.heap.size + 3) W.drew (w.heap.size + 1) st d out v := h.uq.keep (F := []) ((Keep.refl _ _).drew) (by simp) (by simp)
  have hl := h.lt
  obtain ⟨a, b⟩ := hu.put (by omega) (by simpa using hl) h1 h2 h3
  have hd : Kp (w.heap.size + 3) (w.heap.size + 1) W W.drew := Kp.ofKeep (F := []) ((Keep.refl _ _).drew) hl (by simp)
  refine ⟨h.after (hd.trans b) a, ?_⟩
  have := h2.block (w.heap.size + 1) (by simp; omega) (by intro hm; have := hu.far _ (by simpa using hm); omega)
  exact this

set_option maxRecDepth 1000000 in
set_option maxHeartbeats 2000000 in
theorem quoted_any (s : ByteArray) (w : World) (hs1 : 1 ≤ s.size) (h34 : bt s 0 = 34) (hs : s.size ≤ 140737488355327) :
    Calls Try.prog 32 #[.string s] w fun e w' => e = .returned (.agg #[.int .i64 (quotedL s.toList).kind, .string (ba (quotedL s.toList).text), .int .i64 ((quotedL s.toList).size : Int)]) ∧ Keep [] w w' := by
  go_enter Try.func32, Try.ntmps32
  go_wp2
  go_loopw [4] (fun z wr => ∃ (pos frm : Nat), z = .int .i64 (frm : Int) ∧ Hid ((pos = 0 ∧ frm = 0 ∧ Qz w wr s 0) ∨ ∃ st d out acc v, Qi w wr s pos frm st d out acc v)) (fun _ wr => s.size - wr.iterPos (w.heap.size + 2))
  case atStart => exact ⟨0, 0, rfl, .inl ⟨rfl, rfl, Qz.start w s⟩⟩
  case round =>
    obtain ⟨pos, frm, rfl, hrel⟩ := hrel
    rcases hrel.out with ⟨rfl, rfl, hz⟩ | ⟨st, d, out, acc, v, hq⟩
    · have hnx := next_some (P := Try.prog) wr _ s 0 hz.it (by omega)
      obtain ⟨e1, e2⟩ := rn_low s 0 (by omega) (by omega)
      rw [e2] at hnx
      have hz2 : Hid _ := (hz.next (0 + 1)).first hs1
      have hm : Hid (s.size - (wr.iterAt (w.heap.size + 2) s (0 + 1)).iterPos (w.heap.size + 2) < s.size - wr.iterPos (w.heap.size + 2)) := by
        show _ < _
        simp only [World.iterPos, hz.it, (hz.next (0 + 1)).it]
        omega
      generalize hWe : wr.iterAt (w.heap.size + 2) s (0 + 1) = W at hnx hz2 hm
      clear hWe hrel hz e1 e2
      go_wp2
      go_roundw
      case rel => exact ⟨1, 1, by go_num, .inr ⟨_, _, _, _, _, hz2.out⟩⟩
      case measure => exact hm.out
    clear hrel
    have hfp := hq.fp
    have hf1 := hq.f1
    have hpp := hq.pp
    have hp0 : ¬ ((pos : Int) = 0) := by omega
    have HQ : Hid _ := hq
    by_cases hlt : pos < s.size
    · have hnx := next_some (P := Try.prog) wr _ s pos hq.it hlt
      have hw2 : Hid _ := hq.next (pos + rw' s pos)
      have hm0 : Hid (wr.iterPos (w.heap.size + 2) = pos) := by show _ = _; simp [World.iterPos, hq.it]
      obtain ⟨hw1, hwe⟩ := rw_pos s pos hlt
      obtain ⟨c, hc, hbc⟩ := bt_drop s pos hlt
      generalize hWe : wr.iterAt (w.heap.size + 2) s (pos + rw' s pos) = W at hnx hw2
      clear hWe hq
      obtain ⟨c0, c1, c2, f0, f1, f2⟩ := box3 hw2.out.uq.box
      have hlo : Hid (bt s pos < 128 → rn s pos = (c.toNat : Int) ∧ rw' s pos = 1) := fun h => by
        have := rn_low s pos hlt h
        rw [hbc] at this
        exact this
      have hhi : Hid (128 ≤ bt s pos → 128 ≤ rn s pos ∧ ∀ j, j < rw' s pos → 128 ≤ bt s (pos + j)) := fun h => by
        have := rn_high s pos hlt h
        exact ⟨this.1, this.2.2.2⟩
      have hbc' : Hid _ := hbc
      have hc' : Hid _ := hc
      have HG : Hid _ := HQ.out.go
      clear hbc hc
      have hbox := hw2.out.box
      have hWl := hw2.out.lt
      by_cases hst : st = 0
      · subst hst
        have hacc : Hid _ := HQ.out.acc0 rfl
        have hlen := HQ.out.len
        have hchunk : ((s.toList.drop frm).take (pos - frm)).length = pos - frm := (take_rw s frm (pos - frm) (by omega)).2
        by_cases x1 : c = 34
        · subst x1
          obtain ⟨hr, hw⟩ := hlo.out (by rw [hbc'.out]; decide)
          have hr' : rn s pos = 34 := hr
          rw [hr'] at hnx
          have hR : Hid (quotedL s.toList = ⟨5, acc, pos + 1⟩) := by
            show _ = _
            have h := HG.out
            rw [hc'.out, qGo, if_pos ⟨rfl, rfl⟩] at h
            rw [quoted_some h]
            simp only [Fd.mk.injEq, true_and]
            omega
          clear hr hr' hw hlo hhi hbc' hc' HG HQ hm0 hw1 hwe
          have hbl : out.length + ((s.toList.drop frm).take (pos - frm)).length ≤ 140737488355328 := by omega
          have HBL : Hid _ := hbl
          have HR : Hid (Row W v out) := hw2.out.uq.row
          have HS : Hid (∀ w, Src Try.prog 1 9 (.string (s.extract frm pos)) ((s.toList.drop frm).take (pos - frm)).length (bv ((s.toList.drop frm).take (pos - frm))) w) := fun w => src_mid w s frm pos
          clear hbl hlen hchunk
          generalize (s.toList.drop frm).take (pos - frm) = ch at hacc HBL HS
          go_wp2
          go_region_law (refine step_app rfl (.tmp 25) (.tmp 29) 55 9 rfl underS v out rfl (HR.out.keep ((Keep.refl [] _).drew) (Off.nil _)) _ ch rfl (HS.out _) HBL.out ?_; intro v9 w9 R9 K9 F9 S9; obtain ⟨a9, c9, rfl⟩ := S9; obtain ⟨q9, b9⟩ := hw2.out.put R9 K9 F9; obtain ⟨g0, g1, g2, e0, e1, e2⟩ := box3 (b9.trans hw2.out.uq.box))
          all_goals
            have hstr := run_str q9.uq.row.bs
            obtain ⟨m0, m1, m2, n0, n1, n2⟩ := box3 q9.uq.box
            obtain ⟨o0, o1, o2, p0, p1, p2⟩ := box3 q9.box
            have hq9 : Hid _ := q9
            rw [← hacc.out] at hstr
            clear R9 K9 F9 b9 q9 g0 g1 g2 e0 e1 e2 c0 c1 c2 f0 f1 f2
            go_wp2
            refine bodyPost_ret (v := .agg #[.int .i64 5, .string (ba acc), .int .i64 ((pos : Int) + 1)]) (by simp [results, Try.results32, go_sem, o0, o1, o2]) rfl ⟨by rw [hR.out]; exact ret_fd rfl rfl (by simp), keep_box1 hq9.out.keep _ _ _⟩
        by_cases x2 : c = 92
        · subst x2
          obtain ⟨hr, hw⟩ := hlo.out (by rw [hbc'.out]; decide)
          have hr' : rn s pos = 92 := hr
          rw [hr'] at hnx
          rw [hw] at hw2
          have hGG : Hid (qGo 0 d acc (s.toList.drop pos) = ((qGo 1 d acc (s.toList.drop (pos + 1))).1, (qGo 1 d acc (s.toList.drop (pos + 1))).2 + 1)) := by
            show _ = _
            rw [hc'.out]
            exact qGo_step (by simp) (by simp [qStep])
          clear hr hr' hw hlo hhi hbc' hc' HG hw1 hwe
          have hbl : out.length + ((s.toList.drop frm).take (pos - frm)).length ≤ 140737488355328 := by omega
          have hal : Hid (acc.length ≤ pos + 1) := by
            show _ ≤ _
            rw [hacc.out, List.length_append]
            omega
          have HBL : Hid _ := hbl
          have HR : Hid (Row W v out) := hw2.out.uq.row
          have HS : Hid (∀ w, Src Try.prog 1 9 (.string (s.extract frm pos)) ((s.toList.drop frm).take (pos - frm)).length (bv ((s.toList.drop frm).take (pos - frm))) w) := fun w => src_mid w s frm pos
          clear hbl hlen hchunk
          generalize (s.toList.drop frm).take (pos - frm) = ch at hacc HBL HS
          go_wp2
          go_region_law (refine step_app rfl (.tmp 47) (.tmp 51) 55 9 rfl underS v out rfl (HR.out.keep ((Keep.refl [] _).drew) (Off.nil _)) _ ch rfl (HS.out _) HBL.out ?_; intro v9 w9 R9 K9 F9 S9; obtain ⟨a9, c9, rfl⟩ := S9; obtain ⟨q9, b9⟩ := hw2.out.put R9 K9 F9; obtain ⟨g0, g1, g2, e0, e1, e2⟩ := box3 (b9.trans hw2.out.uq.box))
          all_goals
            obtain ⟨m0, m1, m2, n0, n1, n2⟩ := box3 q9.uq.box
            have hq9 : Hid (Qw w _ s (pos + 1) 1 d acc _) := q9.after (Kp.set _ ⟨w.heap.size + 1, 0, none⟩ (.int .i64 1) rfl) (by rw [hacc.out]; exact q9.uq.state (by omega) 1)
            clear R9 K9 F9 b9 q9 g0 g1 g2 e0 e1 e2 c0 c1 c2 f0 f1 f2
            go_wp2
            go_roundw
            case rel => exact ⟨pos + 1, pos + 1, by go_num, .inr ⟨_, _, _, _, _, HQ.out.esc hq9.out hlt (.inr (.inl rfl)) hal.out hGG.out⟩⟩
            case measure => rw [hq9.out.pos, hm0.out]; omega
        by_cases x3 : c.toNat < 32
        · obtain ⟨hr, hw⟩ := hlo.out (by rw [hbc'.out]; omega)
          have hR : Hid (quotedL s.toList = ⟨0, [], pos⟩) := by
            show _ = _
            have h := HG.out
            rw [hc'.out, qGo_none (by simp [x1]) (by simp [qStep, x1, x2, x3])] at h
            rw [quoted_none h]
            simp only [Fd.mk.injEq, true_and]
            omega
          rw [hr] at hnx
          have y1 : ¬ ((c.toNat : Int) = 34) := by omega
          have y2 : ¬ ((c.toNat : Int) = 92) := by omega
          have y3 : ((c.toNat : Int) < 32) := by omega
          clear hr hw hlo hhi hbc' hc' HG HQ hm0 hw1 hwe x1 x2 x3 hlen hchunk
          generalize (c.toNat : Int) = z at hnx y1 y2 y3
          go_wp2_with (go_at_call 29; refine (refused_any _ _).mono ?_; rintro e w1 ⟨rfl, k1⟩; obtain ⟨o0, o1, o2, p0, p1, p2⟩ := box3 ((k1.block w.heap.size (by omega) (by simp)).trans hbox))
          refine bodyPost_ret (v := .agg #[.int .i64 0, .string (ba []), .int .i64 (pos : Int)]) (by simp [results, Try.results32, go_sem, o0, o1, o2]) rfl ⟨by rw [hR.out], keep_box1 (hw2.out.keep.trans' k1) _ _ _⟩
        · have hNext : Hid (Qi w W s (pos + rw' s pos) frm 0 d out (acc ++ (s.toList.drop pos).take (rw' s pos)) v) := by
            refine HQ.out.plain hw2.out hwe ?_
            rcases Int.lt_or_le (bt s pos) 128 with hb | hb
            · rw [(hlo.out hb).2, hc'.out, qGo_step (by simp [x1]) (st' := 0) (d' := d) (acc' := acc ++ [c]) (by simp [qStep, x1, x2, x3])]
              simp
            · have e := take_rw s pos (rw' s pos) hwe
              have g := qGo_plain ((s.toList.drop pos).take (rw' s pos)) (s.toList.drop (pos + rw' s pos)) acc d (high_mem s pos _ hwe (hhi.out hb).2)
              rw [← e.1, e.2] at g
              exact g
          have hz : ¬ (rn s pos = 34) ∧ ¬ (rn s pos = 92) ∧ ¬ (rn s pos < 32) := by
            rcases Int.lt_or_le (bt s pos) 128 with hb | hb
            · rw [(hlo.out hb).1]
              refine ⟨fun e => x1 ?_, fun e => x2 ?_, by omega⟩
              · apply UInt8.toNat_inj.1; show c.toNat = 34; omega
              · apply UInt8.toNat_inj.1; show c.toNat = 92; omega
            · have := (hhi.out hb).1
              omega
          obtain ⟨y1, y2, y3⟩ := hz
          clear hlo hhi hbc' hc' HG HQ x1 x2 x3 hlen hchunk hacc
          generalize rn s pos = z at hnx y1 y2 y3
          go_wp2
          go_roundw
          case rel => exact ⟨_, frm, rfl, .inr ⟨_, _, _, _, _, hNext.out⟩⟩
          case measure => rw [hw2.out.pos, hm0.out]; omega
      · have hs3 : st = 1 ∨ st = 2 ∨ st = 3 := by rcases HQ.out.sts with h | h; exact absurd h hst; exact h
        have hst' : (st == 0) = false := by simpa using hst
        have hac := HQ.out.acc1 hst
        subst hac
        have hlen := HQ.out.len
        have hno : (qStep st d acc c = none ∨ 128 ≤ bt s pos) → Hid (quotedL s.toList = ⟨0, [], pos⟩) := fun h => by
          show _ = _
          have hn : qStep st d acc c = none := by
            rcases h with h | h
            · exact h
            · rw [hbc'.out] at h
              have e34 : c ≠ 34 := by intro e; subst e; simp at h
              have e92 : c ≠ 92 := by intro e; subst e; simp at h
              have e110 : c ≠ 110 := by intro e; subst e; simp at h
              have e120 : c ≠ 120 := by intro e; subst e; simp at h
              have hx : hexI (c.toNat : Int) < 0 := by unfold hexI; repeat' split; all_goals omega
              unfold qStep
              rw [if_neg hst]
              by_cases h1 : st = 1
              · rw [if_pos h1, if_neg (by simp [e34, e92]), if_neg e110, if_neg e120]
              · rw [if_neg h1, if_pos hx]
          have h2 := HG.out
          rw [hc'.out, qGo_none (by simp [hst]) hn] at h2
          rw [quoted_none h2]
          simp only [Fd.mk.injEq, true_and]
          omega
        by_cases hbad : qStep st d acc c = none ∨ 128 ≤ bt s pos
        · have hR := hno hbad
          have hE : Hid ((st = 1 ∧ rn s pos ≠ 34 ∧ rn s pos ≠ 92 ∧ rn s pos ≠ 110 ∧ rn s pos ≠ 120) ∨ ((st = 2 ∨ st = 3) ∧ hexI (rn s pos) < 0)) := by
            by_cases hb : 128 ≤ bt s pos
            · have h1 := (hhi.out hb).1
              rcases hs3 with h | h
              · exact .inl ⟨h, by omega, by omega, by omega, by omega⟩
              · refine .inr ⟨h, ?_⟩
                unfold hexI; repeat' split
                all_goals omega
            · have hq := hbad.resolve_right hb
              rw [(hlo.out (by omega)).1]
              rcases hs3 with h | h
              · refine .inl ⟨h, ?_⟩
                subst h
                simp only [qStep] at hq
                rw [if_neg (by decide), if_pos trivial] at hq
                refine ⟨fun e => ?_, fun e => ?_, fun e => ?_, fun e => ?_⟩
                · have : c = 34 := by apply UInt8.toNat_inj.1; show c.toNat = 34; omega
                  simp [this] at hq
                · have : c = 92 := by apply UInt8.toNat_inj.1; show c.toNat = 92; omega
                  simp [this] at hq
                · have : c = 110 := by apply UInt8.toNat_inj.1; show c.toNat = 110; omega
                  simp [this] at hq
                · have : c = 120 := by apply UInt8.toNat_inj.1; show c.toNat = 120; omega
                  simp [this] at hq
              · refine .inr ⟨h, ?_⟩
                by_cases hx : hexI (c.toNat : Int) < 0
                · exact hx
                · exfalso
                  unfold qStep at hq
                  rw [if_neg hst, if_neg (by omega), if_neg hx] at hq
                  split at hq <;> cases hq
          have hU : Hid _ := hw2.out.uq
          clear hno hbad hlo hhi hbc' hc' HG HQ hm0 hw1 hwe hs3 hst hlen
          generalize rn s pos = z at hnx hE
          go_wp2_with (first | (go_at_call 41; refine (escape_no _ _ _ _ _ _ z W hU.out hE.out).mono ?_; rintro e w' ⟨rfl, hw'⟩; obtain rfl := hw'.symm) | (go_at_call 29; refine (refused_any _ _).mono ?_; rintro e w1 ⟨rfl, k1⟩; obtain ⟨o0, o1, o2, p0, p1, p2⟩ := box3 ((k1.block w.heap.size (by omega) (by simp)).trans hbox)))
          refine bodyPost_ret (v := .agg #[.int .i64 0, .string (ba []), .int .i64 (pos : Int)]) (by simp [results, Try.results32, go_sem, o0, o1, o2]) rfl ⟨by rw [hR.out], keep_box1 (hw2.out.keep.trans' k1) _ _ _⟩
        · have hb : bt s pos < 128 := by
            rcases Int.lt_or_le (bt s pos) 128 with h | h
            · exact h
            · exact absurd (.inr h) hbad
          obtain ⟨hr, hw⟩ := hlo.out hb
          rw [hr] at hnx
          rw [hw] at hw2
          cases hq : qStep st d acc c with
          | none => exact absurd (.inl hq) hbad
          | some r =>
            obtain ⟨st', d', out'⟩ := r
            have hGG : Hid (qGo st d acc (s.toList.drop pos) = ((qGo st' d' out' (s.toList.drop (pos + 1))).1, (qGo st' d' out' (s.toList.drop (pos + 1))).2 + 1)) := by
              show _ = _
              rw [hc'.out]
              exact qGo_step (by simp [hst]) hq
            have hss : (st' = 0 ∨ st' = 1 ∨ st' = 2 ∨ st' = 3) ∧ out'.length ≤ acc.length + 1 := by
              unfold qStep at hq
              rw [if_neg hst] at hq
              repeat' split at hq
              all_goals first | (cases hq; done) | (simp only [Option.some.injEq, Prod.mk.injEq] at hq; obtain ⟨rfl, rfl, rfl⟩ := hq; simp)
            have hss1 : Hid _ := hss.1
            have hss2 : Hid (out'.length ≤ pos + 1) := by show _ ≤ _; omega
            have hU : Hid _ := hw2.out.uq
            have hq' : Hid _ := hq
            have hs4 : Hid _ := hs3
            have hal : Hid (acc.length + 1 ≤ 140737488355328) := by show _ ≤ _; omega
            clear hno hbad hlo hhi hbc' hc' HG hr hw hb hq hss hst hs3 hw1 hwe hlen
            go_wp2_with (go_at_call 41; refine (escape_yes _ _ _ _ _ _ c W (by omega) hWl hU.out hs4.out st' d' out' hq'.out hal.out).mono ?_; rintro e W9 ⟨rfl, v9, U9, K9⟩)
            have hq9 : Hid _ := hw2.out.after K9 U9
            go_roundw
            case rel => exact ⟨pos + 1, pos + 1, by go_num, .inr ⟨_, _, _, _, _, HQ.out.esc hq9.out hlt hss1.out hss2.out hGG.out⟩⟩
            case measure => rw [hq9.out.pos, hm0.out]; omega
    · have hnx := next_none (P := Try.prog) wr _ s pos hq.it hlt
      have hR : Hid (quotedL s.toList = ⟨0, [], s.size⟩) := by
        show _ = _
        have h := hq.go
        rw [drop_end s pos hlt] at h
        rw [quoted_none h]
        simp only [qGo, Fd.mk.injEq, true_and]
        omega
      have hbox := hq.box
      have hkeep : Hid _ := hq.keep
      clear hq HQ
      go_wp2_with (go_at_call 29; refine (refused_any _ _).mono ?_; rintro e w1 ⟨rfl, k1⟩; obtain ⟨c0, c1, c2, f0, f1, f2⟩ := box3 ((k1.block w.heap.size (Array.getElem?_eq_some_iff.1 hbox).1 (by simp)).trans hbox))
      refine bodyPost_ret (v := .agg #[.int .i64 0, .string (ba []), .int .i64 (s.size : Int)]) (by simp [results, Try.results32, go_sem, c0, c1, c2]) rfl ⟨by rw [hR.out], keep_box1 (hkeep.out.trans' k1) _ _ _⟩
end Go.Proofs.Ytmglbcldjhdhkab

