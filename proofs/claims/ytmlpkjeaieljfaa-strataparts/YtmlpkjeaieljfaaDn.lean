/- The document's Parts and Ring. -/
import Derived.Test.YtmlpkjeaieljfaaDe
import Derived.Test.YtmlpkjeaieljfaaAn
import Derived.Test.YtmlpkjeaieljfaaDc
namespace Go.Proofs.Ytmlpkjeaieljfaa
open Go.RowKit Go.PlainAid

theorem rParts_ans (n : Int) (v : Value) (l : List Az) (w : World) (h : Rd encZ 3 w v l) : Calls Try.prog 13 #[.int .i64 n, v] w fun e w' => AnsR w w' e (partsAns n l) := by
  have HC : Hid (∀ (_ : True), Calls Try.prog 33 #[.int .i64 n, v] w fun e w' => e = .returned (.int .i64 (faultZ n l)) ∧ w' = w) := fun _ => rFault_any n v l w h
  by_cases hf : faultZ n l = 0
  · rw [show partsAns n l = (ofN (partL n.toNat (l.map Az.a)), 0) by unfold partsAns; rw [if_pos hf]]
    rw [hf] at HC
    obtain ⟨N, A, rfl, rfl, h1, h2, h3, h4, h5, h6⟩ := fine_all hf
    rw [h1, h2]
    have HP : Hid (∀ (_ : True), Calls Try.prog 34 #[.int .i64 (N : Int), v] w fun e w' => ∃ v, e = .returned v ∧ DpR w w' v N A) := fun _ => rparts_any N v A w h.a h5 h3
    have HN : Hid (∀ p : List Nat, p.length = N → Numbered (Ec A) N (fun x => p.getD x 0) → partL N A = p) := fun p hl hp => partL_eq h5 hl hp
    clear h h1 h2 h3 h4 h5 h6 hf
    go_enter Try.func13, Try.ntmps13
    go_wp2_with fail
    refine (HC.out trivial).mono ?_
    rintro e w1 ⟨rfl, hw⟩
    obtain rfl := hw.symm
    clear HC
    go_wp2_with fail
    refine (HP.out trivial).mono ?_
    rintro e w2 ⟨v2, rfl, g, p, rfl, q1, q2, q3, q4⟩
    have HE : Hid (AnsR w w2 (.returned (.tuple #[.slice (some ⟨g, 0, none⟩) N N, .int .i64 0])) (ofN (partL N A), 0)) := by
      rw [HN.out p q2.len q3]
      exact ⟨_, rfl, q2.ow q1 q4⟩
    clear HP HN q1 q2 q3 q4
    go_wp2
    go_ret2
    exact HE.out
  · rw [show partsAns n l = ([], faultZ n l) by unfold partsAns; rw [if_neg hf]]
    generalize faultZ n l = f at HC hf
    have hq : (f != 0) = true := by simpa using hf
    clear h hf
    go_enter Try.func13, Try.ntmps13
    go_wp2_with fail
    refine (HC.out trivial).mono ?_
    rintro e w1 ⟨rfl, hw⟩
    obtain rfl := hw.symm
    have HE : Hid (AnsR w w (.returned (.tuple #[.slice none 0 0, .int .i64 f])) ([], f)) := ⟨_, rfl, ow_none (Keep.refl _ _)⟩
    clear HC
    go_wp2
    go_ret2
    exact HE.out

def Eqw (a b : World) : Prop := a = b
theorem badL_ge (p : List Nat) (A : List Ar) : -1 ≤ badL p A := by
  rcases badL_spec p _ A rfl with ⟨h, _⟩ | ⟨a, _, _, h, _⟩
  · rw [h]; omega
  · rw [h]; omega

set_option maxRecDepth 1000000 in
set_option maxHeartbeats 4000000 in
theorem rRing_ans (n : Int) (v : Value) (l : List Az) (w : World) (h : Rd encZ 3 w v l) : Calls Try.prog 19 #[.int .i64 n, v] w fun e w' => AnsR w w' e (ringAns n l) := by
  have HC : Hid (∀ (_ : True), Calls Try.prog 33 #[.int .i64 n, v] w fun e w' => e = .returned (.int .i64 (faultZ n l)) ∧ w' = w) := fun _ => rFault_any n v l w h
  by_cases hf : faultZ n l = 0
  · rw [show ringAns n l = (ofN (ringL n.toNat (l.map Az.a)), 0) by unfold ringAns; rw [if_pos hf]]
    rw [hf] at HC
    obtain ⟨N, A, rfl, rfl, h1, h2, h3, h4, h5, h6⟩ := fine_all hf
    rw [h1, h2]
    have HP : Hid (∀ (_ : True), Calls Try.prog 34 #[.int .i64 (N : Int), v] w fun e w' => ∃ v, e = .returned v ∧ DpR w w' v N A) := fun _ => rparts_any N v A w h.a h5 h3
    have HN : Hid (∀ p : List Nat, p.length = N → Numbered (Ec A) N (fun x => p.getD x 0) → ringL N A = (List.range N).filter (fun k => decide (((p.getD k 0 : Nat) : Int) = badL p A))) := fun p hl hp => by
      have := partL_eq h5 hl hp
      show _ = _
      unfold ringL
      rw [this]
    have HA : Hid (Rd encA 3 w v A ∧ ∀ a ∈ A, a.f < N ∧ a.t < N) := ⟨h.a, h5⟩
    obtain ⟨ao, cap, rfl, hc1, hc2⟩ := h.a.form
    clear h h1 h2 h5 h6 hf
    go_enter Try.func19, Try.ntmps19
    go_wp2_with fail
    refine (HC.out trivial).mono ?_
    rintro e w1 ⟨rfl, hw⟩
    obtain rfl := hw.symm
    clear HC
    go_wp2_with fail
    refine (HP.out trivial).mono ?_
    rintro e w2 ⟨v2, rfl, g, p, rfl, q1, q2, q3, q4⟩
    have HQ : Hid (w.heap.size ≤ g ∧ Arr 3 eN w2 g N p ∧ Keep [] w w2 ∧ ringL N A = (List.range N).filter (fun k => decide (((p.getD k 0 : Nat) : Int) = badL p A))) := ⟨q1, q2, q4, HN.out p q2.len q3⟩
    clear HP HN q1 q2 q3 q4
    go_wp2
    go_loopw [8, 9] (fun bv iv wr => ∃ (i : Nat) (bad : Int), bv = .int .i64 bad ∧ iv = .int .i64 (i : Int) ∧ i ≤ A.length ∧ Hid (bad = badL p (A.take i)) ∧ Eqw wr w2) (fun _ iv _ => A.length - (intOf iv).toNat)
    case atStart => exact ⟨0, -1, rfl, rfl, Nat.zero_le _, rfl, rfl⟩
    case round =>
      obtain ⟨i, bad, rfl, rfl, hi, HBd, HK⟩ := hrel
      obtain rfl := (show wr = w2 from HK).symm
      clear HK
      by_cases hlt : i < A.length
      · have hlti : (i : Int) < (A.length : Int) := by omega
        obtain ⟨b, o, c, he, hb, e0, e1, e2⟩ := (HA.out.1.keep HQ.out.2.2.1 (Off.nil _)).arcA i hlt
        simp at he
        obtain ⟨rfl, rfl⟩ := he
        have hnd := HA.out.2 A[i] (List.getElem_mem hlt)
        have HNx : Hid (badL p (A.take (i + 1)) = badF p bad A[i]) := by rw [badL_next p A i hlt, HBd.out]; rfl
        unfold badF at HNx
        have HGe : Hid (-1 ≤ bad) := by rw [HBd.out]; exact badL_ge _ _
        obtain ⟨f, hf⟩ : ∃ f : Nat, f = A[i].f := ⟨_, rfl⟩
        obtain ⟨t, ht⟩ : ∃ t : Nat, t = A[i].t := ⟨_, rfl⟩
        obtain ⟨gg, hgg⟩ : ∃ gg : Bool, gg = A[i].g := ⟨_, rfl⟩
        rw [← hf] at e0
        rw [← ht] at e1
        rw [← hgg] at e2
        rw [← hf, ← ht] at hnd
        rw [← hf, ← ht, ← hgg] at HNx
        have hfi : (f : Int) < (N : Int) := by omega
        have hti : (t : Int) < (N : Int) := by omega
        obtain ⟨x, hx⟩ : ∃ x : Nat, x = p.getD f 0 := ⟨_, rfl⟩
        obtain ⟨y, hy⟩ : ∃ y : Nat, y = p.getD t 0 := ⟨_, rfl⟩
        have g0 : w2.cell? ⟨g, f, none⟩ = some (.int .i64 (x : Int)) := by rw [hx]; exact HQ.out.2.1.cell 0 f hnd.1
        have g1 : w2.cell? ⟨g, t, none⟩ = some (.int .i64 (y : Int)) := by rw [hy]; exact HQ.out.2.1.cell 0 t hnd.2
        rw [← hx, ← hy] at HNx
        clear hf ht hgg hx hy HBd
        have HRel : Hid (∀ (z : Int), badL p (A.take (i + 1)) = z → ∃ (i' : Nat) (bad : Int), Value.int .i64 z = .int .i64 bad ∧ Value.int .i64 ((i : Int) + 1) = .int .i64 (i' : Int) ∧ i' ≤ A.length ∧ Hid (bad = badL p (A.take i')) ∧ Eqw w2 w2) := fun z hz => ⟨i + 1, z, rfl, by congr 1, by omega, hz.symm, rfl⟩
        cases gg with
        | false =>
          have HZ : Hid (badL p (A.take (i + 1)) = bad) := by rw [HNx.out, if_neg (by simp)]; rfl
          clear HNx
          go_wp2
          go_roundw
          case rel => exact HRel.out _ HZ.out
          case measure => simp [intOf]; omega
        | true =>
          by_cases hxy : x = y
          · have hq : ((x : Int) == (y : Int)) = true := by simp [hxy]
            by_cases hb1 : bad < 0
            · have HZ : Hid (badL p (A.take (i + 1)) = (x : Int)) := by rw [HNx.out, if_pos ⟨rfl, hxy, .inl (by have := HGe.out; omega)⟩]; rfl
              clear HNx hxy
              go_wp2
              go_roundw
              case rel => exact HRel.out _ HZ.out
              case measure => simp [intOf]; omega
            · by_cases hlt2 : (x : Int) < bad
              · have HZ : Hid (badL p (A.take (i + 1)) = (x : Int)) := by rw [HNx.out, if_pos ⟨rfl, hxy, .inr hlt2⟩]; rfl
                clear HNx hxy
                go_wp2
                go_roundw
                case rel => exact HRel.out _ HZ.out
                case measure => simp [intOf]; omega
              · have HZ : Hid (badL p (A.take (i + 1)) = bad) := by rw [HNx.out, if_neg (by rintro ⟨_, _, h | h⟩; omega; exact hlt2 h)]; rfl
                clear HNx hxy
                go_wp2
                go_roundw
                case rel => exact HRel.out _ HZ.out
                case measure => simp [intOf]; omega
          · have hq : ((x : Int) == (y : Int)) = false := by simp; omega
            have HZ : Hid (badL p (A.take (i + 1)) = bad) := by rw [HNx.out, if_neg (by rintro ⟨_, h, _⟩; exact hxy h)]; rfl
            clear HNx
            go_wp2
            go_roundw
            case rel => exact HRel.out _ HZ.out
            case measure => simp [intOf]; omega
      · have hlti : ¬ (i : Int) < (A.length : Int) := by omega
        have HE : Hid (ringL N A = (List.range N).filter (fun k => decide (((p.getD k 0 : Nat) : Int) = bad))) := by
          have := HBd.out
          rw [List.take_of_length_le (by omega)] at this
          rw [this]
          exact HQ.out.2.2.2
        clear HBd hlt hi
        go_wp2
        go_loopw [11, 12] (fun lv iv wr => ∃ i : Nat, iv = .int .i64 (i : Int) ∧ i ≤ N ∧ Hid (Nw w2 wr lv ((List.range i).filter (fun k => decide (((p.getD k 0 : Nat) : Int) = bad))))) (fun _ iv _ => N - (intOf iv).toNat)
        case atStart => exact ⟨0, rfl, Nat.zero_le _, Rw.nil 3 encN 1 w2, fun x hx => by simp [Value.ownBlock] at hx, Keep.refl _ _⟩
        case round =>
          clear hlti
          obtain ⟨i, rfl, hi, HN⟩ := hrel
          by_cases hlt : i < N
          · have hlti : (i : Int) < (N : Int) := by omega
            have hsn : Hid ((List.range (i + 1)).filter (fun k => decide (((p.getD k 0 : Nat) : Int) = bad)) = (List.range i).filter (fun k => decide (((p.getD k 0 : Nat) : Int) = bad)) ++ if decide (((p.getD i 0 : Nat) : Int) = bad) then [i] else []) := filter_succ (fun k => decide (((p.getD k 0 : Nat) : Int) = bad)) i
            have HL2 : Hid (((List.range i).filter (fun k => decide (((p.getD k 0 : Nat) : Int) = bad))).length ≤ i) := by show _ ≤ _; have := List.length_filter_le (fun k => decide (((p.getD k 0 : Nat) : Int) = bad)) (List.range i); simpa using this
            obtain ⟨x, HX⟩ : ∃ x : Nat, Hid (x = p.getD i 0) := ⟨_, show _ = _ from rfl⟩
            have c0 : wr.cell? ⟨g, i, none⟩ = some (.int .i64 (x : Int)) := by rw [HX.out]; exact HN.out.keep.cell' (HQ.out.2.1.cell 0 i hlt) (by simp)
            generalize hll : (List.range i).filter (fun k => decide (((p.getD k 0 : Nat) : Int) = bad)) = l at HN HL2 hsn
            clear hll
            by_cases hp : (x : Int) = bad
            · have hq : ((x : Int) == bad) = true := by simpa using hp
              have hal : Hid ((l.length + 1) * 8 ≤ 140737488355328 ∧ l.length + 1 ≤ maxLen) := by
                have := HL2.out
                refine ⟨by omega, ?_⟩
                unfold maxLen; omega
              have HRw : Hid (RowC (wr.alloc (.cells #[.int .i64 (i : Int)] 3 (0, 0))) 3 1 u11 l.length (l.flatMap encN)) := RowC.keep HN.out.row (Keep.alloc1 wr _) (Off.nil _)
              have HS : Hid _ := src_nat wr i
              rw [← HX.out, if_pos (decide_eq_true hp)] at hsn
              clear hp HX
              go_wp2_with (at_builtin; refine wp_appC infoI rfl rfl (.tmp 74) (.tmp 76) 26 26 rfl Try.underlying26 _ l.length (l.flatMap encN) rfl HRw.out _ 1 _ rfl HS.out hal.out.1 hal.out.2 ?_)
              intro v9 w9 R9 K9 F9 S9 _
              have H9 : Hid (Nw w2 w9 v9 (l ++ [i])) := HN.out.push R9 K9 F9
              clear R9 K9 F9 HRw HS HN
              rw [← hsn.out] at H9
              obtain ⟨a9, c9, rfl⟩ := S9
              go_wp2
              go_roundw
              case rel => exact ⟨i + 1, by go_num, by omega, H9⟩
              case measure => simp [intOf]; omega
            · have hq : ((x : Int) == bad) = false := by simpa using hp
              rw [← HX.out, if_neg (by simpa using hp), List.append_nil] at hsn
              rw [← hsn.out] at HN
              clear hp HX hsn HL2
              go_wp2
              go_roundw
              case rel => exact ⟨i + 1, by go_num, by omega, HN⟩
              case measure => simp [intOf]; omega
          · have hlti : ¬ (i : Int) < (N : Int) := by omega
            obtain rfl : i = N := by omega
            have HF : Hid (AnsR w wr (.returned (.tuple #[u11, .int .i64 0])) (ofN (ringL i A), 0)) := by
              rw [HE.out]
              refine ⟨_, rfl, ?_⟩
              have := HN.out.ow
              exact ⟨this.row, HQ.out.2.2.1.trans' this.keep, fun y hy => by have := this.new y hy; have := HQ.out.2.2.1.size; omega⟩
            obtain ⟨a9, c9, rfl, -, -⟩ := (HN.out.row.rd encN_len).form
            clear HN HE
            go_wp2
            go_ret2
            exact HF.out
  · rw [show ringAns n l = ([], faultZ n l) by unfold ringAns; rw [if_neg hf]]
    generalize faultZ n l = f at HC hf
    have hq : (f != 0) = true := by simpa using hf
    clear h hf
    go_enter Try.func19, Try.ntmps19
    go_wp2_with fail
    refine (HC.out trivial).mono ?_
    rintro e w1 ⟨rfl, hw⟩
    obtain rfl := hw.symm
    have HE : Hid (AnsR w w (.returned (.tuple #[.slice none 0 0, .int .i64 f])) ([], f)) := ⟨_, rfl, ow_none (Keep.refl _ _)⟩
    clear HC
    go_wp2
    go_ret2
    exact HE.out
end Go.Proofs.Ytmlpkjeaieljfaa
