/- The document's Print. -/
import Derived.Test.YtmglbcldjhdhkaaTkRr
import Derived.Test.YtmglbcldjhdhkaaTkC1
namespace Go.Proofs.Ytmglbcldjhdhkaa
open Go.RowKit Go.PlainAid

theorem end_kind {t : TokD} (h : endB t = true) : t.kind = 7 := by
  unfold endB at h
  simp only [Bool.and_eq_true, decide_eq_true_eq] at h
  exact h.1
theorem print_seven {t : TokD} (h : printB t = true) : t.kind ≠ 7 := by
  intro e
  unfold printB at h
  rw [if_neg (by omega), decide_eq_false (by omega)] at h
  simp at h
theorem may_print {t : TokD} {b : Bool} (h : mayB t b = true) (hb : endB t = false ∨ b = false) : printB t = true := by
  unfold mayB at h
  rcases hb with e | e <;> rw [e] at h <;> simpa using h

theorem print_facts (l : List TokD) (h : ∀ i (hi : i < l.length), mayB l[i] (decide (i + 1 = l.length)) = true) :
    (∀ t ∈ cutE l, printB t = true) ∧ (∀ i (hi : i < l.length), (l[i].kind = 7 ∧ (cutE l).length ≤ i) ∨ (l[i].kind ≠ 7 ∧ ∃ h2 : i < (cutE l).length, (cutE l)[i] = l[i])) ∧ (cutE l).length ≤ l.length := by
  rcases List.eq_nil_or_concat l with rfl | ⟨Q, t, hl⟩
  · exact ⟨by simp [cutE], by simp, by simp [cutE]⟩
  · rw [List.concat_eq_append] at hl
    subst hl
    have hlen : (Q ++ [t]).length = Q.length + 1 := by simp
    cases he : endB t with
    | true =>
      have hc : cutE (Q ++ [t]) = Q := by rw [cut_last, if_pos he]
      rw [hc]
      have hQ : ∀ i (hi : i < Q.length), printB Q[i] = true := fun i hi => by
        have := h i (by omega)
        rw [List.getElem_append_left hi, decide_eq_false (by omega)] at this
        exact may_print this (.inr rfl)
      refine ⟨fun u hu => ?_, fun i hi => ?_, by omega⟩
      · obtain ⟨i, hi, rfl⟩ := List.getElem_of_mem hu
        exact hQ i hi
      · by_cases hi2 : i < Q.length
        · right
          rw [List.getElem_append_left hi2]
          exact ⟨print_seven (hQ i hi2), hi2, rfl⟩
        · left
          have : i = Q.length := by omega
          subst this
          refine ⟨?_, Nat.le_refl _⟩
          rw [List.getElem_append_right (Nat.le_refl _)]
          simpa using end_kind he
    | false =>
      have hc : cutE (Q ++ [t]) = Q ++ [t] := by rw [cut_last, if_neg (by simp [he])]
      rw [hc]
      have hQ : ∀ i (hi : i < (Q ++ [t]).length), printB (Q ++ [t])[i] = true := fun i hi => by
        have := h i hi
        by_cases hi2 : i < Q.length
        · rw [decide_eq_false (by omega)] at this
          exact may_print this (.inr rfl)
        · have e : i = Q.length := by omega
          subst e
          refine may_print this (.inl ?_)
          rw [List.getElem_append_right (Nat.le_refl _)]
          simpa using he
      refine ⟨fun u hu => ?_, fun i hi => ?_, Nat.le_refl _⟩
      · obtain ⟨i, hi, rfl⟩ := List.getElem_of_mem hu
        exact hQ i hi
      · right
        exact ⟨print_seven (hQ i hi), hi, rfl⟩
theorem print_bad (l : List TokD) (i : Nat) (hi : i < l.length) (h : mayB l[i] (decide (i + 1 = l.length)) = false) : printL l = ([], 50) := by
  have hb : printB l[i] = false ∧ (endB l[i] && decide (i + 1 = l.length)) = false := by
    unfold mayB at h
    simpa [Bool.or_eq_false_iff] using h
  refine print_no (t := l[i]) ?_ hb.1
  rcases List.eq_nil_or_concat l with rfl | ⟨Q, t, hl⟩
  · simp at hi
  · rw [List.concat_eq_append] at hl
    subst hl
    have hlen : (Q ++ [t]).length = Q.length + 1 := by simp
    rw [cut_last]
    split
    · rename_i he
      by_cases hi2 : i < Q.length
      · rw [List.getElem_append_left hi2]
        exact List.getElem_mem hi2
      · exfalso
        have e : i = Q.length := by omega
        subst e
        have h2 := hb.2
        rw [List.getElem_append_right (Nat.le_refl _)] at h2
        simp [he] at h2
    · exact List.getElem_mem hi
/-- how many bytes were counted -/
def nOk (P : List TokD) (k n : Nat) : Prop := (n = (joinL (P.take k)).length ∨ (65536 < n ∧ 65536 < (joinL (P.take k)).length)) ∧ n ≤ 4294967296
theorem n_next {P : List TokD} {k n m : Nat} (h : nOk P k n) (hn : n ≤ 65536) (hk : k < P.length) (hm : (m = (oneL P[k]).length ∨ (65536 < m ∧ 65536 < (oneL P[k]).length)) ∧ m ≤ 2147483647) : nOk P (k + 1) (n + (if k = 0 then 0 else 1) + m) := by
  have hj := congrArg List.length (join_next P k hk)
  have h0 : n = (joinL (P.take k)).length := by rcases h.1 with e | e <;> omega
  unfold nOk
  by_cases e : k = 0
  · subst e
    rw [if_pos rfl] at hj ⊢
    have : (joinL (P.take 0)).length = 0 := rfl
    rw [this] at h0
    rw [hj]
    omega
  · rw [if_neg e] at hj ⊢
    rw [List.length_append, List.length_cons] at hj
    rw [hj]
    omega
theorem n_same {P : List TokD} {k n : Nat} (h : nOk P k n) (hk : P.length ≤ k) : nOk P (k + 1) n := by
  unfold nOk at *
  rw [List.take_of_length_le hk] at h
  rw [List.take_of_length_le (by omega)]
  exact h
theorem n_long {l : List TokD} {k n : Nat} (hall : ∀ t ∈ cutE l, printB t = true) (h : nOk (cutE l) k n) (hn : 65536 < n) : printL l = ([], 3) := by
  refine print_long hall ?_
  have := join_mono (cutE l) k
  rcases h.1 with e | e <;> omega
theorem n_fits {l : List TokD} {k n : Nat} (hall : ∀ t ∈ cutE l, printB t = true) (h : nOk (cutE l) k n) (hn : n ≤ 65536) (hk : (cutE l).length ≤ k) : printL l = (joinL (cutE l), 0) ∧ (joinL (cutE l)).length ≤ 65536 := by
  have h1 := h.1
  rw [List.take_of_length_le hk] at h1
  have : (joinL (cutE l)).length ≤ 65536 := by omega
  exact ⟨print_ok hall this, this⟩
theorem sz_one {t : TokD} {m : Nat} (h5 : t.kind = 5) (h : szOk t.text m) : (m = (oneL t).length ∨ (65536 < m ∧ 65536 < (oneL t).length)) ∧ m ≤ 2147483647 := by
  unfold oneL
  rw [if_pos h5]
  exact ⟨h.1, by have := h.2; omega⟩
theorem len_one {t : TokD} (h5 : t.kind ≠ 5) (h : t.text.length ≤ 2147483647) : (t.text.length = (oneL t).length ∨ (65536 < t.text.length ∧ 65536 < (oneL t).length)) ∧ t.text.length ≤ 2147483647 := by
  unfold oneL
  rw [if_neg h5]
  exact ⟨.inl rfl, h⟩

set_option maxRecDepth 1000000 in
set_option maxHeartbeats 2000000 in
theorem rprint_any (v : Value) (l : List TokD) (w : World) (h : Ts4 w v l) (htx : ∀ t ∈ l, t.text.length ≤ 2147483647) (hlen : l.length ≤ 268435455) :
    Calls Try.prog 16 #[v] w fun e w' => e = .returned (.tuple #[.string (ba (printL l).1), .int .i64 (printL l).2]) ∧ Keep [] w w' := by
  have hT : Hid (Ts4 w v l) := h
  have HTX : Hid (∀ t ∈ l, t.text.length ≤ 2147483647) := htx
  have hMay : Hid (∀ t ∈ l, ∀ b w, Calls Try.prog 42 #[.agg #[.int .i64 t.kind, .string (ba t.text), .int .i64 t.line, .int .i64 t.col], .bool b] w fun e w' => e = .returned (.bool (mayB t b)) ∧ Keep [] w w') := fun t ht b w => rmay_any t b w (htx t ht)
  have hSz : Hid (∀ t ∈ l, ∀ w, Calls Try.prog 43 #[.string (ba t.text)] w fun e w' => ∃ n : Nat, szOk t.text n ∧ e = .returned (.int .i64 (n : Int)) ∧ w' = w) := fun t ht w => by
    have := rsize_any (ba t.text) w (by have := htx t ht; rw [ba_size]; omega)
    rwa [ba_toList] at this
  have hQu : Hid (∀ t ∈ l, ∀ w, Calls Try.prog 44 #[.string (ba t.text)] w fun e w' => e = .returned (.string (ba (quoteL t.text))) ∧ Keep [] w w') := fun t ht w => by
    have := rquote_any (ba t.text) w (by have := htx t ht; rw [ba_size]; omega)
    rwa [ba_toList] at this
  obtain ⟨ao, cap, rfl, -⟩ := h.ex
  clear h htx
  go_enter Try.func16, Try.ntmps16
  go_wp2
  go_loopw [4] (fun z4 wr => ∃ (k : Nat), z4 = .int .i64 (k : Int) ∧ k ≤ l.length ∧ Hid (Keep [] w wr ∧ ∀ i (hi : i < l.length), i < k → mayB l[i] (decide (i + 1 = l.length)) = true)) (fun z4 _ => l.length - (intOf z4).toNat)
  case atStart => exact ⟨0, rfl, Nat.zero_le _, ⟨Keep.refl _ _, fun i _ h => by omega⟩⟩
  case round =>
    obtain ⟨k, rfl, hk, hI⟩ := hrel
    by_cases hlt : k < l.length
    · have hlti : (k : Int) < (l.length : Int) := by omega
      obtain ⟨-, bb, oo, rfl, c0, c1, c2, c3⟩ := (hT.out.keep hI.out.1 (Off.nil _)).at k hlt
      have hnx : Hid (mayB l[k] (decide (k + 1 = l.length)) = true → ∀ i (hi : i < l.length), i < k + 1 → mayB l[i] (decide (i + 1 = l.length)) = true) := fun h i hi hik => by
        by_cases e : i = k
        · subst e; exact h
        · exact hI.out.2 i hi (by omega)
      have hno : Hid (mayB l[k] (decide (k + 1 = l.length)) = false → printL l = ([], 50)) := fun h => print_bad l k hlt h
      have hM : Hid (∀ b w, Calls Try.prog 42 #[.agg #[.int .i64 l[k].kind, .string (ba l[k].text), .int .i64 l[k].line, .int .i64 l[k].col], .bool b] w fun e w' => e = .returned (.bool (mayB l[k] b)) ∧ Keep [] w w') := hMay.out _ (List.getElem_mem hlt)
      have hK : Hid (Keep [] w wr) := hI.out.1
      generalize l[k] = t at c0 c1 c2 c3 hnx hno hM
      clear hI hMay hSz hQu
      by_cases hl2 : k + 1 = l.length
      · have hlb : ((k : Int) == (l.length : Int) - 1) = true := by simp; omega
        rw [decide_eq_true hl2] at hnx hno
        have hM2 : Hid (∀ w, Calls Try.prog 42 #[.agg #[.int .i64 t.kind, .string (ba t.text), .int .i64 t.line, .int .i64 t.col], .bool true] w fun e w' => e = .returned (.bool (mayB t true)) ∧ Keep [] w w') := hM.out true
        cases hm : mayB t true
        · have hno2 : Hid (printL l = ([], 50)) := hno.out hm
          rw [hm] at hM2
          clear hno hnx hm hM
          go_wp2_with (go_at_call 42; refine (hM2.out _).mono ?_; rintro e w1 ⟨rfl, k1⟩)
          go_ret2
          exact ⟨by rw [hno2.out]; rfl, hK.out.trans' k1⟩
        · have hnx2 : Hid _ := hnx.out hm
          rw [hm] at hM2
          clear hno hnx hm hM
          go_wp2_with (go_at_call 42; refine (hM2.out _).mono ?_; rintro e w1 ⟨rfl, k1⟩)
          go_roundw
          case rel => exact ⟨k + 1, by go_num, by omega, ⟨hK.out.trans' k1, hnx2.out⟩⟩
          case measure => simp [intOf]; omega
      · have hlb : ((k : Int) == (l.length : Int) - 1) = false := by simp; omega
        rw [decide_eq_false hl2] at hnx hno
        have hM2 : Hid (∀ w, Calls Try.prog 42 #[.agg #[.int .i64 t.kind, .string (ba t.text), .int .i64 t.line, .int .i64 t.col], .bool false] w fun e w' => e = .returned (.bool (mayB t false)) ∧ Keep [] w w') := hM.out false
        cases hm : mayB t false
        · have hno2 : Hid (printL l = ([], 50)) := hno.out hm
          rw [hm] at hM2
          clear hno hnx hm hM
          go_wp2_with (go_at_call 42; refine (hM2.out _).mono ?_; rintro e w1 ⟨rfl, k1⟩)
          go_ret2
          exact ⟨by rw [hno2.out]; rfl, hK.out.trans' k1⟩
        · have hnx2 : Hid _ := hnx.out hm
          rw [hm] at hM2
          clear hno hnx hm hM
          go_wp2_with (go_at_call 42; refine (hM2.out _).mono ?_; rintro e w1 ⟨rfl, k1⟩)
          go_roundw
          case rel => exact ⟨k + 1, by go_num, by omega, ⟨hK.out.trans' k1, hnx2.out⟩⟩
          case measure => simp [intOf]; omega
    · have hlti : ¬ (k : Int) < (l.length : Int) := by omega
      obtain ⟨hall0, hget0, hPl⟩ := print_facts l (fun i hi => hI.out.2 i hi (by omega))
      have hall : Hid _ := hall0
      have hget : Hid _ := hget0
      have hK1 : Hid (Keep [] w wr) := hI.out.1
      have hT1 : Hid (Ts4 wr (.slice ao l.length cap) l) := hT.out.keep hI.out.1 (Off.nil _)
      have hlong : Hid (∀ k n, nOk (cutE l) k n → 65536 < n → printL l = ([], 3)) := fun k n h hn => n_long hall0 h hn
      have hfits : Hid (∀ k n, nOk (cutE l) k n → n ≤ 65536 → (cutE l).length ≤ k → printL l = (joinL (cutE l), 0) ∧ (joinL (cutE l)).length ≤ 65536) := fun k n h hn hk => n_fits hall0 h hn hk
      clear hI hall0 hget0 hMay hall
      generalize cutE l = P at *
      clear hk
      go_wp2
      go_loopw [5, 6] (fun z5 z6 wq => ∃ (k n : Nat), z5 = .int .i64 (n : Int) ∧ z6 = .int .i64 (k : Int) ∧ k ≤ l.length ∧ n ≤ 4294967296 ∧ wq = wr ∧ Hid (nOk P k n)) (fun _ z6 _ => l.length - (intOf z6).toNat)
      case atStart => exact ⟨0, 0, rfl, rfl, Nat.zero_le _, by omega, rfl, ⟨.inl rfl, by omega⟩⟩
      case round =>
        obtain ⟨k2, n, rfl, rfl, hk2, hn2, rfl, hN⟩ := hrel
        by_cases hlt2 : k2 < l.length
        · have hlti2 : (k2 : Int) < (l.length : Int) := by omega
          by_cases hbig : n ≤ 65536
          · have hbi : (n : Int) ≤ 65536 := by omega
            obtain ⟨-, bb, oo, rfl, c0, c1, c2, c3⟩ := hT1.out.at k2 hlt2
            have htx : l[k2].text.length ≤ 2147483647 := HTX.out _ (List.getElem_mem hlt2)
            have hZ : Hid (∀ w, Calls Try.prog 43 #[.string (ba l[k2].text)] w fun e w' => ∃ n : Nat, szOk l[k2].text n ∧ e = .returned (.int .i64 (n : Int)) ∧ w' = w) := hSz.out _ (List.getElem_mem hlt2)
            rcases hget.out k2 hlt2 with ⟨h7, hPk⟩ | ⟨h7, hk3, he⟩
            · have hnx : Hid (nOk P (k2 + 1) n) := n_same hN.out hPk
              generalize l[k2] = t at c0 c1 c2 c3 h7 htx hZ
              rw [h7] at c0
              clear hN hPk h7 hZ hget hQu hSz
              go_wp2
              go_roundw
              case rel => exact ⟨k2 + 1, n, by go_num, by go_num, by omega, by omega, trivial, hnx⟩
              case measure => simp [intOf]; omega
            · have hnx : Hid (∀ m, ((m = (oneL l[k2]).length ∨ (65536 < m ∧ 65536 < (oneL l[k2]).length)) ∧ m ≤ 2147483647) → nOk P (k2 + 1) (n + (if k2 = 0 then 0 else 1) + m)) := fun m hm => n_next hN.out hbig hk3 (by rw [he]; exact hm)
              generalize l[k2] = t at c0 c1 c2 c3 h7 htx hZ hnx
              have i7 : (t.kind == 7) = false := by simpa using h7
              have hsz : (ba t.text).size = t.text.length := ba_size _
              clear hN he hget hQu hSz
              by_cases h5 : t.kind = 5
              · have i5 : (t.kind == 5) = true := by simpa using h5
                have hnx5 : Hid (∀ m, szOk t.text m → nOk P (k2 + 1) (n + (if k2 = 0 then 0 else 1) + m)) := fun m hm => hnx.out m (sz_one h5 hm)
                have hm9 : Hid (∀ m, szOk t.text m → m ≤ 65600) := fun m hm => hm.2
                clear hnx h5 h7
                by_cases h0 : k2 = 0
                · rw [if_pos h0] at hnx5
                  subst h0
                  simp only [Nat.zero_mul, Nat.add_zero] at c0 c1 c2 c3
                  go_wp2_with fail
                  refine (hZ.out _).mono ?_
                  rintro e w1 ⟨m, hm, rfl, rfl⟩
                  have hm2 := hm9.out m hm
                  have hnx6 : Hid _ := hnx5.out m hm
                  clear hnx5 hm
                  go_wp2
                  go_roundw
                  case rel => exact ⟨0 + 1, n + 0 + m, by go_num, by go_num, by omega, by omega, trivial, hnx6⟩
                  case measure => simp [intOf]; omega
                · rw [if_neg h0] at hnx5
                  have hgt : (0 : Int) < (k2 : Int) := by omega
                  go_wp2_with fail
                  refine (hZ.out _).mono ?_
                  rintro e w1 ⟨m, hm, rfl, rfl⟩
                  have hm2 := hm9.out m hm
                  have hnx6 : Hid _ := hnx5.out m hm
                  clear hnx5 hm
                  go_wp2
                  go_roundw
                  case rel => exact ⟨k2 + 1, n + 1 + m, by go_num, by go_num, by omega, by omega, trivial, hnx6⟩
                  case measure => simp [intOf]; omega
              · have i5 : (t.kind == 5) = false := by simpa using h5
                have hnx5 : Hid (nOk P (k2 + 1) (n + (if k2 = 0 then 0 else 1) + t.text.length)) := hnx.out _ (len_one h5 htx)
                clear hnx h5 h7 hZ
                by_cases h0 : k2 = 0
                · rw [if_pos h0] at hnx5
                  subst h0
                  simp only [Nat.zero_mul, Nat.add_zero] at c0 c1 c2 c3
                  go_wp2
                  go_roundw
                  case rel => exact ⟨0 + 1, n + 0 + t.text.length, by go_num, by go_num, by omega, by omega, trivial, hnx5⟩
                  case measure => simp [intOf]; omega
                · rw [if_neg h0] at hnx5
                  have hgt : (0 : Int) < (k2 : Int) := by omega
                  go_wp2
                  go_roundw
                  case rel => exact ⟨k2 + 1, n + 1 + t.text.length, by go_num, by go_num, by omega, by omega, trivial, hnx5⟩
                  case measure => simp [intOf]; omega
          · have hbi : ¬ (n : Int) ≤ 65536 := by omega
            have hbd : decide ((n : Int) ≤ 65536) = false := by simp; omega
            have hbg : (65536 : Int) < (n : Int) := by omega
            have hp : Hid (printL l = ([], 3)) := hlong.out k2 n hN.out (by omega)
            clear hN hlong hfits hget hQu hSz
            go_wp2
            go_ret2
            exact ⟨by rw [hp.out]; rfl, hK1.out⟩
        · have hlti2 : ¬ (k2 : Int) < (l.length : Int) := by omega
          have hld2 : decide ((k2 : Int) < (l.length : Int)) = false := by simp; omega
          by_cases hbig : n ≤ 65536
          · have hbg : ¬ (65536 : Int) < (n : Int) := by omega
            obtain ⟨hp0, hj⟩ := hfits.out k2 n hN.out hbig (by omega)
            have hp : Hid (printL l = (joinL P, 0)) := hp0
            have hjm : Hid (∀ k, (joinL (P.take k)).length ≤ 65536) := fun k => Nat.le_trans (join_mono P k) hj
            clear hN hlong hfits hp0 hSz
            go_wp2
            go_loopw [7, 8] (fun z7 z8 wq => ∃ (k : Nat), z8 = .int .i64 (k : Int) ∧ k ≤ l.length ∧ Hid (Qq w wq z7 (joinL (P.take k)))) (fun _ z8 _ => l.length - (intOf z8).toNat)
            case atStart => exact ⟨0, rfl, Nat.zero_le _, ⟨Row.nil _, hK1.out, fun y hy => by simp [Value.ownBlock] at hy⟩⟩
            case round =>
              obtain ⟨k3, rfl, hk3, hI⟩ := hrel
              obtain ⟨ao7, cap7, rfl, -⟩ := hI.out.row.bs.ex
              by_cases hlt3 : k3 < l.length
              · have hlti3 : (k3 : Int) < (l.length : Int) := by omega
                obtain ⟨-, bb, oo, rfl, c0, c1, c2, c3⟩ := (hT.out.keep hI.out.keep (Off.nil _)).at k3 hlt3
                have hTk : Hid (∀ wx, Keep [] w wx → wx.cell? ⟨bb, oo + k3 * 4, none⟩ = some (.int .i64 l[k3].kind) ∧ wx.cell? ⟨bb, oo + k3 * 4 + 1, none⟩ = some (.string (ba l[k3].text))) := fun wx kx => by
                  obtain ⟨-, b', o', e, d0, d1, -, -⟩ := (hT.out.keep kx (Off.nil _)).at k3 hlt3
                  simp only [Option.some.injEq, Addr.mk.injEq] at e
                  obtain ⟨rfl, rfl, -⟩ := e
                  exact ⟨d0, d1⟩
                have hQ2 : Hid (∀ w, Calls Try.prog 44 #[.string (ba l[k3].text)] w fun e w' => e = .returned (.string (ba (quoteL l[k3].text))) ∧ Keep [] w w') := hQu.out _ (List.getElem_mem hlt3)
                rcases hget.out k3 hlt3 with ⟨h7, hPk⟩ | ⟨h7, hkP, he⟩
                · have hnx : Hid (Qq w wr (.slice ao7 (joinL (P.take k3)).length cap7) (joinL (P.take (k3 + 1)))) := by
                    have := hI.out
                    rw [List.take_of_length_le hPk] at this ⊢
                    rw [List.take_of_length_le (by omega)]
                    exact this
                  generalize l[k3] = t at c0 c1 c2 c3 h7 hQ2 hTk
                  rw [h7] at c0
                  clear hI hPk h7 hget hQu hQ2 hTk
                  go_wp2
                  go_roundw
                  case rel => exact ⟨k3 + 1, by go_num, by omega, hnx⟩
                  case measure => simp [intOf]; omega
                · have hjn := join_next P k3 hkP
                  rw [he] at hjn
                  have hj2 := hjm.out (k3 + 1)
                  have hj1 := hjm.out k3
                  generalize l[k3] = t at c0 c1 c2 c3 h7 hQ2 hjn hTk
                  have i7 : (t.kind == 7) = false := by simpa using h7
                  clear he hget hQu h7 hjm
                  by_cases h5 : t.kind = 5
                  · have i5 : (t.kind == 5) = true := by simpa using h5
                    have ho : oneL t = quoteL t.text := by unfold oneL; rw [if_pos h5]
                    rw [ho] at hjn
                    clear ho h5
                    generalize quoteL t.text = S at hjn hQ2
                    have hTk2 : Hid _ := hTk.out
                    by_cases h0 : k3 = 0
                    · rw [if_pos h0] at hjn
                      subst h0
                      simp only [Nat.zero_mul, Nat.add_zero] at c0 c1 c2 c3
                      have hbs : Hid (joinL (P.take (0 + 1)) = joinL (P.take 0) ++ S) := by show _ = _; rw [hjn]; rfl
                      have hal : (joinL (P.take 0)).length + S.length ≤ 65536 := by have := congrArg List.length hbs.out; rw [List.length_append] at this; omega
                      have Hq0 : Hid _ := hI.out
                      clear hjn hI hTk hTk2
                      generalize joinL (P.take 0) = base at *
                      go_wp2_with (go_at_call 44; refine (hQ2.out _).mono ?_; rintro e w2 ⟨rfl, k2q⟩)
                      have Hq1 : Hid (Qq w w2 (.slice ao7 base.length cap7) base) := ⟨Hq0.out.row.keep k2q (Off.nil _), Hq0.out.keep.trans' k2q, Hq0.out.far⟩
                      have hss : (ba S).size = S.length := ba_size _
                      clear Hq0 hQ2
                      go_loopw [7, 10] (fun z7 z10 wq => ∃ (j : Nat), z10 = .int .i64 (j : Int) ∧ j ≤ S.length ∧ Hid (Qq w wq z7 (base ++ S.take j))) (fun _ z10 _ => S.length - (intOf z10).toNat)
                      case atStart => exact ⟨0, rfl, Nat.zero_le _, by rw [List.take_zero, List.append_nil]; exact Hq1⟩
                      case round =>
                        clear Hq1
                        obtain ⟨j, rfl, hj3, hI⟩ := hrel
                        obtain ⟨ao8, cap8, rfl, -⟩ := hI.out.row.bs.ex
                        by_cases hjl : j < S.length
                        · have hjs : j < (ba S).size := by omega
                          have hji : (j : Int) < ((ba S).size : Int) := by omega
                          have hji2 : (j : Int) < (S.length : Int) := by omega
                          obtain ⟨c, hc, hb2⟩ := bt_drop (ba S) j hjs
                          have hg : (((ba S)[j]'hjs).toNat : Int) = (c.toNat : Int) := (get_bt (ba S) j hjs).trans hb2
                          have htk : Hid (base ++ S.take (j + 1) = (base ++ S.take j) ++ [c]) := by
                            show _ = _
                            rw [ba_toList] at hc
                            rw [List.take_add, hc, List.append_assoc]
                            rfl
                          have hal2 : (base ++ S.take j).length + 1 ≤ 65536 := by rw [List.length_append, List.length_take]; omega
                          clear hc hb2
                          generalize base ++ S.take j = acc at *
                          have hr1 : Hid (Row (wr.alloc (.cells #[.int .u8 (c.toNat : Int)] 5 (0, 0))) (.slice ao8 acc.length cap8) acc) := hI.out.row.keep (Keep.alloc1 wr _) (Off.nil _)
                          go_wp2_with (at_builtin; refine wp_app rfl (.tmp 108) (.tmp 112) 35 35 rfl underS (.slice ao8 acc.length cap8) acc rfl hr1.out _ [c] rfl (Bs.one wr c).src (by simp; omega) ?_)
                          intro v1 w1 R1 K1 F1 S1
                          obtain ⟨a1, cp1, rfl⟩ := S1
                          have Hq1 : Hid (Qq w w1 (.slice a1 (acc.length + [c].length) cp1) (base ++ S.take (j + 1))) := by
                            show Qq _ _ _ _
                            rw [htk.out]
                            exact hI.out.app c R1 K1 F1
                          clear R1 K1 F1 hr1 hI htk
                          go_wp2
                          go_roundw
                          case rel => exact ⟨j + 1, by go_num, by omega, Hq1⟩
                          case measure => simp [intOf]; omega
                        · have hji : ¬ (j : Int) < ((ba S).size : Int) := by omega
                          have hji2 : ¬ (j : Int) < (S.length : Int) := by omega
                          have hnx : Hid (Qq w wr (.slice ao8 (base ++ S.take j).length cap8) (joinL (P.take (0 + 1)))) := by
                            have := hI.out
                            rw [List.take_of_length_le (by omega)] at this ⊢
                            rw [hbs.out]
                            exact this
                          clear hI hbs
                          go_wp2
                          go_roundw
                          case rel => exact ⟨0 + 1, by go_num, by omega, hnx⟩
                          case measure => simp [intOf]; omega
                    · rw [if_neg h0] at hjn
                      have hgt : (0 : Int) < (k3 : Int) := by omega
                      have hbs : Hid (joinL (P.take (k3 + 1)) = (joinL (P.take k3) ++ [32]) ++ S) := by show _ = _; rw [hjn]; simp
                      have hal : (joinL (P.take k3) ++ [(32 : UInt8)]).length + S.length ≤ 65536 := by have := congrArg List.length hbs.out; rw [List.length_append] at this; omega
                      have hr1 : Hid (Row (wr.alloc (.cells #[.int .u8 ((32 : UInt8).toNat : Int)] 5 (0, 0))) (.slice ao7 (joinL (P.take k3)).length cap7) (joinL (P.take k3))) := hI.out.row.keep (Keep.alloc1 wr _) (Off.nil _)
                      clear hjn hTk
                      go_wp2_with (at_builtin; refine wp_app rfl (.tmp 86) (.tmp 87) 35 35 rfl underS (.slice ao7 (joinL (P.take k3)).length cap7) (joinL (P.take k3)) rfl hr1.out _ [(32 : UInt8)] rfl (Bs.one wr (32 : UInt8)).src (by simp; omega) ?_)
                      intro v1 w1 R1 K1 F1 S1
                      have S2 : Sl v1 (joinL (P.take k3) ++ [(32 : UInt8)]).length := by rw [List.length_append]; exact S1
                      clear S1
                      obtain ⟨a1, cp1, rfl⟩ := S2
                      have Hq0 : Hid (Qq w w1 (.slice a1 (joinL (P.take k3) ++ [(32 : UInt8)]).length cp1) (joinL (P.take k3) ++ [(32 : UInt8)])) := hI.out.app (32 : UInt8) R1 K1 F1
                      clear R1 K1 F1 hr1 hI
                      generalize joinL (P.take k3) ++ [(32 : UInt8)] = base at *
                      obtain ⟨d0, d1⟩ := hTk2.out w1 Hq0.out.keep
                      clear hTk2
                      go_wp2_with (go_at_call 44; refine (hQ2.out _).mono ?_; rintro e w2 ⟨rfl, k2q⟩)
                      have Hq1 : Hid (Qq w w2 (.slice a1 base.length cp1) base) := ⟨Hq0.out.row.keep k2q (Off.nil _), Hq0.out.keep.trans' k2q, Hq0.out.far⟩
                      have hss : (ba S).size = S.length := ba_size _
                      clear Hq0 hQ2
                      go_loopw [7, 10] (fun z7 z10 wq => ∃ (j : Nat), z10 = .int .i64 (j : Int) ∧ j ≤ S.length ∧ Hid (Qq w wq z7 (base ++ S.take j))) (fun _ z10 _ => S.length - (intOf z10).toNat)
                      case atStart => exact ⟨0, rfl, Nat.zero_le _, by rw [List.take_zero, List.append_nil]; exact Hq1⟩
                      case round =>
                        clear Hq1
                        obtain ⟨j, rfl, hj3, hI⟩ := hrel
                        obtain ⟨ao8, cap8, rfl, -⟩ := hI.out.row.bs.ex
                        by_cases hjl : j < S.length
                        · have hjs : j < (ba S).size := by omega
                          have hji : (j : Int) < ((ba S).size : Int) := by omega
                          have hji2 : (j : Int) < (S.length : Int) := by omega
                          obtain ⟨c, hc, hb2⟩ := bt_drop (ba S) j hjs
                          have hg : (((ba S)[j]'hjs).toNat : Int) = (c.toNat : Int) := (get_bt (ba S) j hjs).trans hb2
                          have htk : Hid (base ++ S.take (j + 1) = (base ++ S.take j) ++ [c]) := by
                            show _ = _
                            rw [ba_toList] at hc
                            rw [List.take_add, hc, List.append_assoc]
                            rfl
                          have hal2 : (base ++ S.take j).length + 1 ≤ 65536 := by rw [List.length_append, List.length_take]; omega
                          clear hc hb2
                          generalize base ++ S.take j = acc at *
                          have hr1 : Hid (Row (wr.alloc (.cells #[.int .u8 (c.toNat : Int)] 5 (0, 0))) (.slice ao8 acc.length cap8) acc) := hI.out.row.keep (Keep.alloc1 wr _) (Off.nil _)
                          go_wp2_with (at_builtin; refine wp_app rfl (.tmp 108) (.tmp 112) 35 35 rfl underS (.slice ao8 acc.length cap8) acc rfl hr1.out _ [c] rfl (Bs.one wr c).src (by simp; omega) ?_)
                          intro v1 w1 R1 K1 F1 S1
                          obtain ⟨a1, cp1, rfl⟩ := S1
                          have Hq1 : Hid (Qq w w1 (.slice a1 (acc.length + [c].length) cp1) (base ++ S.take (j + 1))) := by
                            show Qq _ _ _ _
                            rw [htk.out]
                            exact hI.out.app c R1 K1 F1
                          clear R1 K1 F1 hr1 hI htk
                          go_wp2
                          go_roundw
                          case rel => exact ⟨j + 1, by go_num, by omega, Hq1⟩
                          case measure => simp [intOf]; omega
                        · have hji : ¬ (j : Int) < ((ba S).size : Int) := by omega
                          have hji2 : ¬ (j : Int) < (S.length : Int) := by omega
                          have hnx : Hid (Qq w wr (.slice ao8 (base ++ S.take j).length cap8) (joinL (P.take (k3 + 1)))) := by
                            have := hI.out
                            rw [List.take_of_length_le (by omega)] at this ⊢
                            rw [hbs.out]
                            exact this
                          clear hI hbs
                          go_wp2
                          go_roundw
                          case rel => exact ⟨k3 + 1, by go_num, by omega, hnx⟩
                          case measure => simp [intOf]; omega
                  · have i5 : (t.kind == 5) = false := by simpa using h5
                    have ho : oneL t = t.text := by unfold oneL; rw [if_neg h5]
                    rw [ho] at hjn
                    clear ho h5
                    generalize t.text = S at hjn c1 hTk
                    have hTk2 : Hid _ := hTk.out
                    by_cases h0 : k3 = 0
                    · rw [if_pos h0] at hjn
                      subst h0
                      simp only [Nat.zero_mul, Nat.add_zero] at c0 c1 c2 c3
                      have hbs : Hid (joinL (P.take (0 + 1)) = joinL (P.take 0) ++ S) := by show _ = _; rw [hjn]; rfl
                      have hal : (joinL (P.take 0)).length + S.length ≤ 65536 := by have := congrArg List.length hbs.out; rw [List.length_append] at this; omega
                      have Hq0 : Hid _ := hI.out
                      clear hjn hI hTk hTk2
                      generalize joinL (P.take 0) = base at *
                      have Hq1 : Hid _ := Hq0.out
                      try simp only [Int.cast_ofNat_Int]
                      go_wp2
                      have hss : (ba S).size = S.length := ba_size _
                      clear Hq0 hQ2
                      go_loopw [7, 10] (fun z7 z10 wq => ∃ (j : Nat), z10 = .int .i64 (j : Int) ∧ j ≤ S.length ∧ Hid (Qq w wq z7 (base ++ S.take j))) (fun _ z10 _ => S.length - (intOf z10).toNat)
                      case atStart => exact ⟨0, rfl, Nat.zero_le _, by rw [List.take_zero, List.append_nil]; exact Hq1⟩
                      case round =>
                        clear Hq1
                        obtain ⟨j, rfl, hj3, hI⟩ := hrel
                        obtain ⟨ao8, cap8, rfl, -⟩ := hI.out.row.bs.ex
                        by_cases hjl : j < S.length
                        · have hjs : j < (ba S).size := by omega
                          have hji : (j : Int) < ((ba S).size : Int) := by omega
                          have hji2 : (j : Int) < (S.length : Int) := by omega
                          obtain ⟨c, hc, hb2⟩ := bt_drop (ba S) j hjs
                          have hg : (((ba S)[j]'hjs).toNat : Int) = (c.toNat : Int) := (get_bt (ba S) j hjs).trans hb2
                          have htk : Hid (base ++ S.take (j + 1) = (base ++ S.take j) ++ [c]) := by
                            show _ = _
                            rw [ba_toList] at hc
                            rw [List.take_add, hc, List.append_assoc]
                            rfl
                          have hal2 : (base ++ S.take j).length + 1 ≤ 65536 := by rw [List.length_append, List.length_take]; omega
                          clear hc hb2
                          generalize base ++ S.take j = acc at *
                          have hr1 : Hid (Row (wr.alloc (.cells #[.int .u8 (c.toNat : Int)] 5 (0, 0))) (.slice ao8 acc.length cap8) acc) := hI.out.row.keep (Keep.alloc1 wr _) (Off.nil _)
                          go_wp2_with (at_builtin; refine wp_app rfl (.tmp 108) (.tmp 112) 35 35 rfl underS (.slice ao8 acc.length cap8) acc rfl hr1.out _ [c] rfl (Bs.one wr c).src (by simp; omega) ?_)
                          intro v1 w1 R1 K1 F1 S1
                          obtain ⟨a1, cp1, rfl⟩ := S1
                          have Hq1 : Hid (Qq w w1 (.slice a1 (acc.length + [c].length) cp1) (base ++ S.take (j + 1))) := by
                            show Qq _ _ _ _
                            rw [htk.out]
                            exact hI.out.app c R1 K1 F1
                          clear R1 K1 F1 hr1 hI htk
                          go_wp2
                          go_roundw
                          case rel => exact ⟨j + 1, by go_num, by omega, Hq1⟩
                          case measure => simp [intOf]; omega
                        · have hji : ¬ (j : Int) < ((ba S).size : Int) := by omega
                          have hji2 : ¬ (j : Int) < (S.length : Int) := by omega
                          have hnx : Hid (Qq w wr (.slice ao8 (base ++ S.take j).length cap8) (joinL (P.take (0 + 1)))) := by
                            have := hI.out
                            rw [List.take_of_length_le (by omega)] at this ⊢
                            rw [hbs.out]
                            exact this
                          clear hI hbs
                          go_wp2
                          go_roundw
                          case rel => exact ⟨0 + 1, by go_num, by omega, hnx⟩
                          case measure => simp [intOf]; omega
                    · rw [if_neg h0] at hjn
                      have hgt : (0 : Int) < (k3 : Int) := by omega
                      have hbs : Hid (joinL (P.take (k3 + 1)) = (joinL (P.take k3) ++ [32]) ++ S) := by show _ = _; rw [hjn]; simp
                      have hal : (joinL (P.take k3) ++ [(32 : UInt8)]).length + S.length ≤ 65536 := by have := congrArg List.length hbs.out; rw [List.length_append] at this; omega
                      have hr1 : Hid (Row (wr.alloc (.cells #[.int .u8 ((32 : UInt8).toNat : Int)] 5 (0, 0))) (.slice ao7 (joinL (P.take k3)).length cap7) (joinL (P.take k3))) := hI.out.row.keep (Keep.alloc1 wr _) (Off.nil _)
                      clear hjn hTk
                      go_wp2_with (at_builtin; refine wp_app rfl (.tmp 86) (.tmp 87) 35 35 rfl underS (.slice ao7 (joinL (P.take k3)).length cap7) (joinL (P.take k3)) rfl hr1.out _ [(32 : UInt8)] rfl (Bs.one wr (32 : UInt8)).src (by simp; omega) ?_)
                      intro v1 w1 R1 K1 F1 S1
                      have S2 : Sl v1 (joinL (P.take k3) ++ [(32 : UInt8)]).length := by rw [List.length_append]; exact S1
                      clear S1
                      obtain ⟨a1, cp1, rfl⟩ := S2
                      have Hq0 : Hid (Qq w w1 (.slice a1 (joinL (P.take k3) ++ [(32 : UInt8)]).length cp1) (joinL (P.take k3) ++ [(32 : UInt8)])) := hI.out.app (32 : UInt8) R1 K1 F1
                      clear R1 K1 F1 hr1 hI
                      generalize joinL (P.take k3) ++ [(32 : UInt8)] = base at *
                      obtain ⟨d0, d1⟩ := hTk2.out w1 Hq0.out.keep
                      clear hTk2
                      have Hq1 : Hid _ := Hq0.out
                      go_wp2
                      have hss : (ba S).size = S.length := ba_size _
                      clear Hq0 hQ2
                      go_loopw [7, 10] (fun z7 z10 wq => ∃ (j : Nat), z10 = .int .i64 (j : Int) ∧ j ≤ S.length ∧ Hid (Qq w wq z7 (base ++ S.take j))) (fun _ z10 _ => S.length - (intOf z10).toNat)
                      case atStart => exact ⟨0, rfl, Nat.zero_le _, by rw [List.take_zero, List.append_nil]; exact Hq1⟩
                      case round =>
                        clear Hq1
                        obtain ⟨j, rfl, hj3, hI⟩ := hrel
                        obtain ⟨ao8, cap8, rfl, -⟩ := hI.out.row.bs.ex
                        by_cases hjl : j < S.length
                        · have hjs : j < (ba S).size := by omega
                          have hji : (j : Int) < ((ba S).size : Int) := by omega
                          have hji2 : (j : Int) < (S.length : Int) := by omega
                          obtain ⟨c, hc, hb2⟩ := bt_drop (ba S) j hjs
                          have hg : (((ba S)[j]'hjs).toNat : Int) = (c.toNat : Int) := (get_bt (ba S) j hjs).trans hb2
                          have htk : Hid (base ++ S.take (j + 1) = (base ++ S.take j) ++ [c]) := by
                            show _ = _
                            rw [ba_toList] at hc
                            rw [List.take_add, hc, List.append_assoc]
                            rfl
                          have hal2 : (base ++ S.take j).length + 1 ≤ 65536 := by rw [List.length_append, List.length_take]; omega
                          clear hc hb2
                          generalize base ++ S.take j = acc at *
                          have hr1 : Hid (Row (wr.alloc (.cells #[.int .u8 (c.toNat : Int)] 5 (0, 0))) (.slice ao8 acc.length cap8) acc) := hI.out.row.keep (Keep.alloc1 wr _) (Off.nil _)
                          go_wp2_with (at_builtin; refine wp_app rfl (.tmp 108) (.tmp 112) 35 35 rfl underS (.slice ao8 acc.length cap8) acc rfl hr1.out _ [c] rfl (Bs.one wr c).src (by simp; omega) ?_)
                          intro v1 w1 R1 K1 F1 S1
                          obtain ⟨a1, cp1, rfl⟩ := S1
                          have Hq1 : Hid (Qq w w1 (.slice a1 (acc.length + [c].length) cp1) (base ++ S.take (j + 1))) := by
                            show Qq _ _ _ _
                            rw [htk.out]
                            exact hI.out.app c R1 K1 F1
                          clear R1 K1 F1 hr1 hI htk
                          go_wp2
                          go_roundw
                          case rel => exact ⟨j + 1, by go_num, by omega, Hq1⟩
                          case measure => simp [intOf]; omega
                        · have hji : ¬ (j : Int) < ((ba S).size : Int) := by omega
                          have hji2 : ¬ (j : Int) < (S.length : Int) := by omega
                          have hnx : Hid (Qq w wr (.slice ao8 (base ++ S.take j).length cap8) (joinL (P.take (k3 + 1)))) := by
                            have := hI.out
                            rw [List.take_of_length_le (by omega)] at this ⊢
                            rw [hbs.out]
                            exact this
                          clear hI hbs
                          go_wp2
                          go_roundw
                          case rel => exact ⟨k3 + 1, by go_num, by omega, hnx⟩
                          case measure => simp [intOf]; omega
              · have hlti3 : ¬ (k3 : Int) < (l.length : Int) := by omega
                have hst : (convert 35 9 (.slice ao7 (joinL (P.take k3)).length cap7)).run Try.prog wr = .ok (.string (ba (joinL (P.take k3)))) wr := run_str hI.out.row.bs
                have hPe : Hid (joinL (P.take k3) = joinL P) := by show _ = _; rw [List.take_of_length_le (by omega)]
                have hK : Hid (Keep [] w wr) := hI.out.keep
                clear hI hget hQu hjm
                generalize joinL (P.take k3) = J at *
                go_wp2
                go_ret2
                exact ⟨by rw [hp.out, ← hPe.out]; rfl, hK.out⟩
          · have hbg : (65536 : Int) < (n : Int) := by omega
            have hp : Hid (printL l = ([], 3)) := hlong.out k2 n hN.out (by omega)
            clear hN hlong hfits hget hQu hSz
            go_wp2
            go_ret2
            exact ⟨by rw [hp.out]; rfl, hK1.out⟩
end Go.Proofs.Ytmglbcldjhdhkaa
