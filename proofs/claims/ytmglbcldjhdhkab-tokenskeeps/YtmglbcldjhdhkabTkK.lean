/- Pieces that are printed are found again; what is found may be printed. -/
import Derived.Test.YtmglbcldjhdhkabTkP
namespace Go.Proofs.Ytmglbcldjhdhkab
open Go.PlainAid

/-- r may stand behind the piece x -/
def stopR (x r : List UInt8) : Prop := ∀ c r', r = c :: r' → nm c = false ∧ c ≠ 46 ∧ c ≠ 61 ∧ (x = [47] → c ≠ 47)

theorem class2 {c : UInt8} (h : classI c.toNat = 2) : nm c = true := by
  unfold classI at h
  split at h
  · simp [nm, inNameB, *]
  · repeat' split at h
    all_goals simp at h
theorem class3 {c : UInt8} (h : classI c.toNat = 3) : digitB (c.toNat : Int) = true := by
  unfold classI at h
  split at h
  · simp at h
  · split at h
    · assumption
    · repeat' split at h
      all_goals simp at h
theorem dig_nm {c : UInt8} (h : digitB (c.toNat : Int) = true) : nm c = true := by simp [nm, inNameB, h]

theorem take_nm (l : List UInt8) : (l.take (rowN l)).all nm = true ∧ l.take (rowN l) = l.takeWhile nm := by
  have h : l.take (rowN l) = l.takeWhile nm := by
    have := List.takeWhile_append_dropWhile (p := nm) (l := l)
    unfold rowN
    conv => lhs; arg 2; rw [← this]
    rw [List.take_left']
    rfl
  refine ⟨?_, h⟩
  rw [h, List.all_eq_true]
  intro c hc
  induction l with
  | nil => simp at hc
  | cons d l ih =>
    rw [List.takeWhile_cons] at hc
    split at hc
    · rename_i hd
      rcases List.mem_cons.1 hc with rfl | hc
      · exact hd
      · refine ih ?_ hc
        have := List.takeWhile_append_dropWhile (p := nm) (l := l)
        unfold rowN
        conv => lhs; arg 2; rw [← this]
        rw [List.take_left']
        rfl
    · simp at hc
theorem row_all : ∀ (x r : List UInt8), x.all nm = true → (∀ c r', r = c :: r' → nm c = false) → rowN (x ++ r) = x.length
  | [], [], _, _ => rfl
  | [], c :: r, _, h => by simp [rowN, h c r rfl]
  | d :: x, r, hx, h => by
    simp only [List.all_cons, Bool.and_eq_true] at hx
    have := row_all x r hx.2 h
    simp only [rowN, List.cons_append, List.takeWhile_cons, hx.1, if_true, List.length_cons] at this ⊢
    omega

/-- a number's end -/
theorem num_app : ∀ (x r : List UInt8) (st : Int) (n : Nat) (st' : Int) (b : Bool), numGo st x = (n, st', b) → n = x.length → (∀ c r', r = c :: r' → stepI st' (c.toNat : Int) = 0 ∧ nm c = false) → numGo st (x ++ r) = (x.length, st', false)
  | [], r, st, n, st', b, h, hn, hr => by
    simp only [numGo, Prod.mk.injEq] at h
    obtain ⟨_, rfl, _⟩ := h
    cases r with
    | nil => rfl
    | cons c r =>
      obtain ⟨h1, h2⟩ := hr c r rfl
      simp [numGo, h1, h2]
  | d :: x, r, st, n, st', b, h, hn, hr => by
    rw [numGo] at h
    split at h
    · simp only [Prod.mk.injEq] at h
      obtain ⟨rfl, _⟩ := h
      simp at hn
    · rename_i hd
      generalize hq : numGo (stepI st d.toNat) x = q at h
      obtain ⟨a, b2, c2⟩ := q
      simp only [Prod.mk.injEq] at h
      obtain ⟨rfl, rfl, rfl⟩ := h
      have := num_app x r (stepI st d.toNat) a b2 c2 hq (by simp at hn; omega) hr
      rw [List.cons_append, numGo, if_neg hd, this]
      simp
/-- a number's front is a number -/
theorem num_front : ∀ (l : List UInt8) (st : Int), numGo st (l.take (numGo st l).1) = ((numGo st l).1, (numGo st l).2.1, false)
  | [], st => by simp [numGo]
  | c :: t, st => by
    rw [numGo]
    split
    · simp [numGo]
    · rename_i h
      have := num_front t (stepI st c.toNat)
      simp only [List.take_succ_cons]
      rw [numGo, if_neg h, this]
theorem step_stop {st : Int} {c : UInt8} (h : st = 1 ∨ st = 3 ∨ st = 6) (h1 : nm c = false) (h2 : c ≠ 46) : stepI st (c.toNat : Int) = 0 := by
  have hd : digitB (c.toNat : Int) = false := by
    cases hd : digitB (c.toNat : Int)
    · rfl
    · rw [dig_nm hd] at h1; exact h1
  have h46 : (c.toNat : Int) ≠ 46 := fun e => h2 (by apply UInt8.toNat_inj.1; show c.toNat = 46; omega)
  have h101 : (c.toNat : Int) ≠ 101 := fun e => by
    have : c = 101 := by apply UInt8.toNat_inj.1; show c.toNat = 101; omega
    subst this
    simp [nm, inNameB, smallB] at h1
  unfold stepI
  rw [if_neg (by simp [hd]), if_neg (by simp [h46]), if_neg (by simp [h101]), if_neg]
  rintro ⟨_, e⟩
  omega

theorem hex_tab : ∀ a : Fin 256, hexI ((hexD (a.val / 16)).toNat : Int) = ((a.val / 16 : Nat) : Int) ∧ hexI ((hexD (a.val % 16)).toNat : Int) = ((a.val % 16 : Nat) : Int) ∧ ((a.val / 16).toUInt8 <<< 4) ||| (a.val % 16).toUInt8 = a.val.toUInt8 := by decide +kernel
theorem esc_step (c : UInt8) (d : UInt8) (acc rest : List UInt8) : ∃ d', qGo 0 d acc (escB c ++ rest) = ((qGo 0 d' (acc ++ [c]) rest).1, (qGo 0 d' (acc ++ [c]) rest).2 + (escB c).length) := by
  unfold escB
  split
  · rename_i h
    refine ⟨d, ?_⟩
    rcases h with rfl | rfl <;> simp [qGo, qStep]
  · split
    · rename_i h
      subst h
      exact ⟨d, by simp [qGo, qStep]⟩
    · split
      · obtain ⟨t1, t2, t3⟩ := hex_tab ⟨c.toNat, c.toNat_lt⟩
        simp only at t1 t2 t3
        refine ⟨(c.toNat / 16).toUInt8, ?_⟩
        have e1 : ¬ (hexI ((hexD (c.toNat / 16)).toNat : Int) < 0) := by rw [t1]; omega
        have e2 : ¬ (hexI ((hexD (c.toNat % 16)).toNat : Int) < 0) := by rw [t2]; omega
        have e3 : c.toNat.toUInt8 = c := by apply UInt8.toNat_inj.1; simp
        rw [e3] at t3
        have f1 : (hexI ((hexD (c.toNat / 16)).toNat : Int)).toNat = c.toNat / 16 := by rw [t1]; rfl
        have f2 : (hexI ((hexD (c.toNat % 16)).toNat : Int)).toNat = c.toNat % 16 := by rw [t2]; rfl
        have t3' : (UInt8.ofNat (c.toNat / 16) <<< 4 ||| UInt8.ofNat (c.toNat % 16)) = c := t3
        simp [qGo, qStep, e1, e2, f1, f2, t3']
      · rename_i h1 h2 h3
        refine ⟨d, ?_⟩
        have n1 : c ≠ 34 := fun e => h1 (.inl e)
        have n2 : c ≠ 92 := fun e => h1 (.inr e)
        have n3 : ¬ c.toNat < 32 := fun e => h3 (.inl e)
        simp [qGo, qStep, n1, n2, n3]
theorem esc_back : ∀ (x : List UInt8) (d : UInt8) (acc r : List UInt8), qGo 0 d acc (escL x ++ 34 :: r) = (some (acc ++ x), (escL x).length + 1)
  | [], d, acc, r => by simp [escL, qGo]
  | c :: x, d, acc, r => by
    obtain ⟨d', h⟩ := esc_step c d acc (escL x ++ 34 :: r)
    have e : escL (c :: x) = escB c ++ escL x := by simp [escL]
    rw [e, List.append_assoc, h, esc_back x d' (acc ++ [c]) r]
    simp
    omega
theorem quote_back (x r : List UInt8) : pieceL (quoteL x ++ r) = ⟨5, x, (quoteL x).length⟩ := by
  have h := esc_back x 0 [] r
  unfold quoteL
  simp only [List.cons_append, List.append_assoc, List.nil_append]
  rw [pieceL, if_neg (by decide), if_neg (by decide), if_pos (by decide)]
  unfold quotedL
  simp only [List.drop_succ_cons, List.drop_zero]
  rw [h]
  simp

/-- a piece that is its own text is found ahead of whatever may stand behind it -/
theorem piece_app (x r : List UInt8) (hk : (pieceL x).kind ≠ 0) (h5 : (pieceL x).kind ≠ 5) (hs : (pieceL x).size = x.length) (hr : stopR x r) : pieceL (x ++ r) = ⟨(pieceL x).kind, x, x.length⟩ ∧ (pieceL x).text = x := by
  cases x with
  | nil => simp [pieceL] at hk
  | cons c t =>
    have hr1 : ∀ d r', r = d :: r' → nm d = false := fun d r' e => (hr d r' e).1
    rw [List.cons_append, pieceL]
    rw [pieceL] at hk h5 hs ⊢
    by_cases h2 : classI c.toNat = 2
    · simp only [h2, if_true] at hk h5 hs ⊢
      unfold rowL at hk hs ⊢
      by_cases hl : 32 < rowN (c :: t)
      · rw [if_pos hl] at hk; simp at hk
      · rw [if_neg hl] at hs ⊢
        simp only at hs
        have ha := (take_nm (c :: t)).1
        rw [hs, List.take_length] at ha
        have hn := row_all (c :: t) r ha hr1
        rw [List.cons_append] at hn
        rw [hn, if_neg (by omega), hs, List.take_length]
        have : (c :: (t ++ r)).take (c :: t).length = c :: t := by rw [← List.cons_append, List.take_left']; rfl
        rw [this]
        exact ⟨rfl, rfl⟩
    · by_cases h3 : classI c.toNat = 3
      · simp only [h3] at hk h5 hs ⊢
        rw [if_neg (by decide), if_pos trivial] at hk h5 hs ⊢
        rw [if_neg (by decide), if_pos trivial]
        unfold numberL at hk h5 hs ⊢
        generalize hq : numGo 1 (c :: t) = q at hk h5 hs ⊢
        obtain ⟨n, st, b⟩ := q
        simp only at hk h5 hs ⊢
        cases b with
        | true => simp at hk
        | false =>
          simp only [Bool.false_eq_true, if_false] at hk h5 hs ⊢
          have hst : (st = 1 ∨ st = 3 ∨ st = 6) ∧ n = (c :: t).length := by
            unfold endedL at hk hs
            split at hk
            · rename_i e; rw [if_pos e] at hs; exact ⟨.inl e, hs⟩
            · rename_i e
              split at hk
              · rename_i e2; rw [if_neg e, if_pos e2] at hs; exact ⟨.inr e2, hs⟩
              · simp at hk
          have hn := num_app (c :: t) r 1 n st false hq hst.2 (fun d r' e => ⟨step_stop hst.1 (hr1 d r' e) (hr d r' e).2.1, hr1 d r' e⟩)
          rw [List.cons_append] at hn
          rw [hn]
          simp only [Bool.false_eq_true, if_false]
          rw [hst.2]
          have ht : (c :: (t ++ r)).take (c :: t).length = c :: t := by rw [← List.cons_append, List.take_left']; rfl
          unfold endedL
          rw [ht, List.take_length]
          rcases hst.1 with rfl | rfl | rfl <;> exact ⟨rfl, rfl⟩
      · by_cases h4 : classI c.toNat = 5
        · exfalso
          simp only [h4] at hk h5
          rw [if_neg (by decide), if_neg (by decide), if_pos trivial] at hk h5
          unfold quotedL at hk h5
          split at h5
          · exact h5 rfl
          · rename_i e; rw [e] at hk; exact hk rfl
        · by_cases h6 : classI c.toNat = 6
          · rw [if_neg h2, if_neg h3, if_neg h4, if_pos h6] at hk h5 hs ⊢
            rw [if_neg h2, if_neg h3, if_neg h4, if_pos h6]
            simp only [List.length_cons] at hs
            have : t = [] := List.eq_nil_of_length_eq_zero (by omega)
            subst this
            exact ⟨rfl, rfl⟩
          · by_cases h7 : classI c.toNat = 7 ∨ classI c.toNat = 8
            · rw [if_neg h2, if_neg h3, if_neg h4, if_neg h6, if_pos h7] at hk h5 hs ⊢
              rw [if_neg h2, if_neg h3, if_neg h4, if_neg h6, if_pos h7]
              by_cases ht : t.head? = some 61
              · rw [if_pos ht] at hs ⊢
                cases t with
                | nil => simp at ht
                | cons d t =>
                  simp only [List.head?_cons, Option.some.injEq] at ht
                  subst ht
                  simp only [List.length_cons] at hs
                  have : t = [] := List.eq_nil_of_length_eq_zero (by omega)
                  subst this
                  exact ⟨rfl, rfl⟩
              · rw [if_neg ht] at hk hs ⊢
                by_cases h8 : classI c.toNat = 7
                · rw [if_pos h8] at hs ⊢
                  simp only [List.length_cons] at hs
                  have : t = [] := List.eq_nil_of_length_eq_zero (by omega)
                  subst this
                  have hh : ([] ++ r).head? ≠ some 61 := by
                    cases r with
                    | nil => simp
                    | cons d r' => simpa using (hr d r' rfl).2.2.1
                  rw [if_neg hh]
                  exact ⟨rfl, rfl⟩
                · rw [if_neg h8] at hk
                  exact absurd rfl hk
            · rw [if_neg h2, if_neg h3, if_neg h4, if_neg h6, if_neg h7] at hk
              exact absurd rfl hk
/-- what is found may be printed -/
theorem piece_self (l : List UInt8) (hk : (pieceL l).kind ≠ 0) (h5 : (pieceL l).kind ≠ 5) : pieceL (pieceL l).text = ⟨(pieceL l).kind, (pieceL l).text, (pieceL l).text.length⟩ ∧ (pieceL l).text.length = (pieceL l).size := by
  cases l with
  | nil => simp [pieceL] at hk
  | cons c t =>
    rw [pieceL] at hk h5 ⊢
    by_cases h2 : classI c.toNat = 2
    · rw [if_pos h2] at hk h5 ⊢
      unfold rowL at hk ⊢
      by_cases hl : 32 < rowN (c :: t)
      · rw [if_pos hl] at hk; exact absurd rfl hk
      · rw [if_neg hl]
        simp only
        have ha := (take_nm (c :: t)).1
        have hlen : ((c :: t).take (rowN (c :: t))).length = rowN (c :: t) := by rw [List.length_take]; have := rowN_le (c :: t); omega
        have h1 : 1 ≤ rowN (c :: t) := by simp [rowN, List.takeWhile, class2 h2]
        obtain ⟨m, hm⟩ : ∃ m, rowN (c :: t) = m + 1 := ⟨rowN (c :: t) - 1, by omega⟩
        have hn := row_all _ [] ha (fun _ _ e => by cases e)
        rw [List.append_nil, hlen] at hn
        refine ⟨?_, hlen⟩
        generalize hx : (c :: t).take (rowN (c :: t)) = x at hn ha hlen ⊢
        have hx2 : x = c :: t.take m := by rw [← hx, hm, List.take_succ_cons]
        have hxl : x.take (rowN x) = x := by rw [hn, ← hlen, List.take_length]
        have : pieceL x = rowL x := by rw [hx2, pieceL, if_pos h2]
        rw [this]
        unfold rowL
        rw [if_neg (by omega), hxl, hn, hlen]
    · by_cases h3 : classI c.toNat = 3
      · rw [if_neg h2, if_pos h3] at hk h5 ⊢
        unfold numberL at hk h5 ⊢
        generalize hq : numGo 1 (c :: t) = q at hk h5 ⊢
        obtain ⟨n, st, b⟩ := q
        cases b with
        | true => exact absurd rfl hk
        | false =>
          simp only [Bool.false_eq_true, if_false] at hk h5 ⊢
          have hf := num_front (c :: t) 1
          rw [hq] at hf
          simp only at hf
          have hnl : n ≤ (c :: t).length := by have := numGo_le (c :: t) 1; rw [hq] at this; exact this
          have h1 : 1 ≤ n := by
            have : 1 ≤ (numGo 1 (c :: t)).1 := by
              rw [numGo, if_neg (by simp [stepI, class3 h3])]
              omega
            rw [hq] at this
            exact this
          obtain ⟨m, rfl⟩ : ∃ m, n = m + 1 := ⟨n - 1, by omega⟩
          have hlen : ((c :: t).take (m + 1)).length = m + 1 := by rw [List.length_take]; omega
          have hx2 : (c :: t).take (m + 1) = c :: t.take m := List.take_succ_cons
          have hp : pieceL ((c :: t).take (m + 1)) = numberL ((c :: t).take (m + 1)) := by rw [hx2, pieceL, if_neg h2, if_pos h3]
          have htt : ((c :: t).take (m + 1)).take (m + 1) = (c :: t).take (m + 1) := by rw [List.take_take]; simp
          unfold numberL at hp
          rw [hf] at hp
          simp only [Bool.false_eq_true, if_false] at hp
          unfold endedL at hk hp ⊢
          rw [htt] at hp
          by_cases e1 : st = 1
          · rw [if_pos e1] at hp ⊢
            exact ⟨by simp only; rw [hp, hlen], hlen⟩
          · by_cases e2 : st = 3 ∨ st = 6
            · rw [if_neg e1, if_pos e2] at hp ⊢
              exact ⟨by simp only; rw [hp, hlen], hlen⟩
            · rw [if_neg e1, if_neg e2] at hk
              exact absurd rfl hk
      · by_cases h4 : classI c.toNat = 5
        · exfalso
          rw [if_neg h2, if_neg h3, if_pos h4] at hk h5
          unfold quotedL at hk h5
          split at h5
          · exact h5 rfl
          · rename_i e; rw [e] at hk; exact hk rfl
        · by_cases h6 : classI c.toNat = 6
          · rw [if_neg h2, if_neg h3, if_neg h4, if_pos h6]
            refine ⟨?_, rfl⟩
            simp only
            rw [pieceL, if_neg h2, if_neg h3, if_neg h4, if_pos h6]
            rfl
          · by_cases h7 : classI c.toNat = 7 ∨ classI c.toNat = 8
            · rw [if_neg h2, if_neg h3, if_neg h4, if_neg h6, if_pos h7] at hk ⊢
              by_cases ht : t.head? = some 61
              · rw [if_pos ht]
                refine ⟨?_, rfl⟩
                simp only
                rw [pieceL, if_neg h2, if_neg h3, if_neg h4, if_neg h6, if_pos h7, if_pos (show [(61 : UInt8)].head? = some 61 from rfl)]
                rfl
              · rw [if_neg ht] at hk ⊢
                by_cases h8 : classI c.toNat = 7
                · rw [if_pos h8]
                  refine ⟨?_, rfl⟩
                  simp only
                  rw [pieceL, if_neg h2, if_neg h3, if_neg h4, if_neg h6, if_pos h7, if_neg (by simp), if_pos h8]
                  rfl
                · rw [if_neg h8] at hk
                  exact absurd rfl hk
            · rw [if_neg h2, if_neg h3, if_neg h4, if_neg h6, if_neg h7] at hk
              exact absurd rfl hk
end Go.Proofs.Ytmglbcldjhdhkab

