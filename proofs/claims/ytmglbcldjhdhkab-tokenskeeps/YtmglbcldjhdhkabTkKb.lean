/- Pieces laid out with gaps between them are scanned as just these pieces. -/
import Derived.Test.YtmglbcldjhdhkabTkK
import Derived.Test.YtmglbcldjhdhkabTkZ
namespace Go.Proofs.Ytmglbcldjhdhkab
open Go.PlainAid

theorem print_kinds {t : TokD} (h : printB t = true) : t.kind = 5 ∨ ((t.kind = 1 ∨ t.kind = 2 ∨ t.kind = 3 ∨ t.kind = 4 ∨ t.kind = 6) ∧ (pieceL t.text).kind = t.kind ∧ (pieceL t.text).size = t.text.length) := by
  unfold printB at h
  split at h
  · rename_i hk
    simp only [Bool.and_eq_true, decide_eq_true_eq] at h
    exact .inr ⟨hk, h⟩
  · exact .inl (by simpa using h)
theorem one_piece {t : TokD} (h : printB t = true) (r : List UInt8) (hr : stopR (oneL t) r) : pieceL (oneL t ++ r) = ⟨t.kind, t.text, (oneL t).length⟩ := by
  rcases print_kinds h with h5 | ⟨hk, h1, h2⟩
  · unfold oneL
    rw [if_pos h5, quote_back, h5]
  · have h5 : t.kind ≠ 5 := by omega
    unfold oneL at hr ⊢
    rw [if_neg h5] at hr ⊢
    have := (piece_app t.text r (by omega) (by omega) h2 hr).1
    rw [this, h1]
theorem kind_ne {t : TokD} (h : printB t = true) : t.kind ≠ 0 ∧ t.kind ≠ 7 := by
  rcases print_kinds h with h5 | ⟨hk, _⟩ <;> omega
theorem stop_nil (x : List UInt8) : stopR x [] := fun _ _ e => by cases e
theorem one_pos {t : TokD} (h : printB t = true) : 1 ≤ (oneL t).length := by
  have h1 := one_piece h [] (stop_nil _)
  have h2 := (piece_size (oneL t ++ [])).2
  rw [h1] at h2
  exact h2 (kind_ne h).1
theorem blank_class {c : UInt8} (h : blankB (c.toNat : Int) = true) : classI (c.toNat : Int) = 1 := by
  simp only [blankB, Bool.or_eq_true, beq_iff_eq] at h
  rcases h with ((h | h) | h) | h <;> rw [h] <;> decide
theorem piece_blank {c : UInt8} {t : List UInt8} (h : classI (c.toNat : Int) = 1) : (pieceL (c :: t)).kind = 0 := by
  rw [pieceL, if_neg (by omega), if_neg (by omega), if_neg (by omega), if_neg (by omega), if_neg (by omega)]
theorem piece_slash (t : List UInt8) : pieceL (47 :: t) = ⟨6, [47], 1⟩ := by
  rw [pieceL, if_neg (by decide), if_neg (by decide), if_neg (by decide), if_pos (by decide)]
theorem one_skip {t : TokD} (h : printB t = true) (r : List UInt8) (hr : stopR (oneL t) r) : skipN false (oneL t ++ r) = 0 := by
  have h1 := one_piece h r hr
  have hp := one_pos h
  have hk := (kind_ne h).1
  generalize hx : oneL t = x at h1 hp hr ⊢
  cases x with
  | nil => simp at hp
  | cons c x =>
    rw [List.cons_append] at h1 ⊢
    rw [skipN]
    have hb : ¬ (blankB (c.toNat : Int) = true) := fun e => hk (by rw [← piece_blank (t := x ++ r) (blank_class e), h1])
    rw [if_neg hb, if_neg]
    rintro ⟨rfl, e⟩
    rw [piece_slash] at h1
    simp only [Fd.mk.injEq, List.length_cons] at h1
    have : x = [] := List.eq_nil_of_length_eq_zero (by omega)
    subst this
    cases r with
    | nil => simp at e
    | cons d r' =>
      simp only [List.nil_append, List.head?_cons, Option.some.injEq] at e
      exact (hr d r' rfl).2.2.2 rfl e

/-- no line ends within a piece -/
theorem nm_ten : nm 10 = false := by decide
theorem esc_ten (c d : UInt8) (h : d ∈ escB c) : d ≠ 10 := by
  unfold escB at h
  split at h
  · rename_i hc
    simp at h
    rcases h with rfl | rfl
    · decide
    · rcases hc with rfl | rfl <;> decide
  · split at h
    · simp at h; rcases h with rfl | rfl <;> decide
    · rename_i h10
      split at h
      · have ht : ∀ a : Fin 16, hexD a.val ≠ 10 := by decide
        have hl := c.toNat_lt
        simp at h
        rcases h with rfl | rfl | rfl | rfl
        · decide
        · decide
        · exact ht ⟨c.toNat / 16, by omega⟩
        · exact ht ⟨c.toNat % 16, by omega⟩
      · simp at h; subst h; exact h10
theorem num_ten : ∀ (x : List UInt8) (st : Int), (numGo st x).1 = x.length → ∀ c ∈ x, c ≠ 10
  | [], _, _, c, hc => by simp at hc
  | d :: x, st, h, c, hc => by
    rw [numGo] at h
    split at h
    · simp at h
    · rename_i hs
      rcases List.mem_cons.1 hc with rfl | hc
      · rintro rfl
        exact hs (by simp [stepI, digitB])
      · exact num_ten x (stepI st d.toNat) (by simpa using h) c hc
theorem piece_ten (x : List UInt8) (hk : (pieceL x).kind ≠ 0) (h5 : (pieceL x).kind ≠ 5) (hs : (pieceL x).size = x.length) : ∀ c ∈ x, c ≠ 10 := by
  cases x with
  | nil => intro c hc; simp at hc
  | cons c t =>
    have hc10 : c ≠ 10 := by rintro rfl; exact hk (piece_blank (by decide))
    rw [pieceL] at hk h5 hs
    by_cases h2 : classI c.toNat = 2
    · rw [if_pos h2] at hk hs
      unfold rowL at hk hs
      split at hk
      · simp at hk
      · rename_i hl
        rw [if_neg hl] at hs
        simp only at hs
        have ha := (take_nm (c :: t)).1
        rw [hs, List.take_length, List.all_eq_true] at ha
        intro d hd e
        subst e
        have := ha _ hd
        rw [nm_ten] at this
        simp at this
    · by_cases h3 : classI c.toNat = 3
      · rw [if_neg h2, if_pos h3] at hk hs
        refine num_ten _ 1 ?_
        unfold numberL at hk hs
        split at hk
        · simp at hk
        · rename_i e
          rw [if_neg e] at hs
          unfold endedL at hs
          repeat' split at hs
          all_goals exact hs
      · by_cases h4 : classI c.toNat = 5
        · exfalso
          rw [if_neg h2, if_neg h3, if_pos h4] at hk h5
          unfold quotedL at hk h5
          split at h5
          · exact h5 rfl
          · rename_i e; rw [e] at hk; exact hk rfl
        · by_cases h6 : classI c.toNat = 6
          · rw [if_neg h2, if_neg h3, if_neg h4, if_pos h6] at hs
            simp only [List.length_cons] at hs
            have : t = [] := List.eq_nil_of_length_eq_zero (by omega)
            subst this
            intro d hd
            simp at hd
            subst hd
            exact hc10
          · by_cases h7 : classI c.toNat = 7 ∨ classI c.toNat = 8
            · rw [if_neg h2, if_neg h3, if_neg h4, if_neg h6, if_pos h7] at hs hk
              by_cases ht : t.head? = some 61
              · rw [if_pos ht] at hs
                cases t with
                | nil => simp at ht
                | cons d t =>
                  simp only [List.head?_cons, Option.some.injEq] at ht
                  subst ht
                  simp only [List.length_cons] at hs
                  have : t = [] := List.eq_nil_of_length_eq_zero (by omega)
                  subst this
                  intro d hd
                  simp at hd
                  rcases hd with rfl | rfl
                  · exact hc10
                  · decide
              · rw [if_neg ht] at hs
                have : t = [] := by
                  split at hs <;> (simp only [List.length_cons] at hs; exact List.eq_nil_of_length_eq_zero (by omega))
                subst this
                intro d hd
                simp at hd
                subst hd
                exact hc10
            · rw [if_neg h2, if_neg h3, if_neg h4, if_neg h6, if_neg h7] at hk
              exact absurd rfl hk
theorem one_ten {t : TokD} (h : printB t = true) : ∀ c ∈ oneL t, c ≠ 10 := by
  rcases print_kinds h with h5 | ⟨hk, h1, h2⟩
  · unfold oneL
    rw [if_pos h5]
    intro c hc
    unfold quoteL at hc
    simp only [List.mem_cons, List.mem_append, List.not_mem_nil, or_false] at hc
    rcases hc with rfl | hc | rfl
    · decide
    · unfold escL at hc
      obtain ⟨d, _, hd⟩ := List.mem_flatMap.1 hc
      exact esc_ten d c hd
    · decide
  · unfold oneL
    rw [if_neg (by omega)]
    exact piece_ten _ (by omega) (by omega) h2
theorem adv_flat : ∀ (x : List UInt8) (p : Nat × Nat), (∀ c ∈ x, c ≠ 10) → adv p x = (p.1, p.2 + x.length)
  | [], p, _ => rfl
  | c :: x, p, h => by
    have h1 := adv_flat x (adv1 p c) (fun d hd => h d (List.mem_cons_of_mem _ hd))
    have h2 : adv1 p c = (p.1, p.2 + 1) := by unfold adv1; rw [if_neg (h c (by simp))]
    rw [h2] at h1
    show adv (adv1 p c) x = _
    rw [h2, h1]
    simp; omega

/-- gaps and pieces, and a gap at the end -/
def weave : List (List UInt8 × TokD) → List UInt8 → List UInt8
  | [], e => e
  | (g, t) :: l, e => g ++ (oneL t ++ weave l e)
def weaveT : Nat × Nat → List (List UInt8 × TokD) → List UInt8 → List TokD
  | p, [], e => [⟨7, [], (adv p e).1, (adv p e).2⟩]
  | p, (g, t) :: l, e => ⟨t.kind, t.text, (adv p g).1, (adv p g).2⟩ :: weaveT (adv (adv p g) (oneL t)) l e
/-- a gap: nothing but blanks and whole remarks -/
def gapOk (g : List UInt8) : Prop := ∀ r, skipN false (g ++ r) = g.length + skipN false r
def follow : List (List UInt8 × TokD) → List UInt8 → Prop
  | [], _ => True
  | (_, t) :: l, e => stopR (oneL t) (weave l e) ∧ follow l e
theorem scan_weave : ∀ (l : List (List UInt8 × TokD)) (e : List UInt8) (n : Nat) (p : Nat × Nat), l.length < n → (∀ x ∈ l, gapOk x.1 ∧ printB x.2 = true) → gapOk e → follow l e → scanF n (weave l e) p = (some (weaveT p l e), (0, 0))
  | [], e, 0, p, hn, _, _, _ => by simp at hn
  | [], e, n + 1, p, _, _, he, _ => by
    have h := he []
    rw [List.append_nil, show skipN false [] = 0 from rfl] at h
    rw [weave, scanF, if_pos (by omega), weaveT]
  | (g, t) :: l, e, 0, p, hn, _, _, _ => by simp at hn
  | (g, t) :: l, e, n + 1, p, hn, ha, he, hf => by
    obtain ⟨h1, h2⟩ := ha (g, t) (by simp)
    simp only at h1 h2
    have hs : skipN false (g ++ (oneL t ++ weave l e)) = g.length := by rw [h1, one_skip h2 _ hf.1]; rfl
    have hp := one_piece h2 _ hf.1
    have ih := scan_weave l e n (adv (adv p g) (oneL t)) (by simpa using hn) (fun x hx => ha x (List.mem_cons_of_mem _ hx)) he hf.2
    have hpos := one_pos h2
    have hk := (kind_ne h2).1
    have d1 : (g ++ (oneL t ++ weave l e)).drop g.length = oneL t ++ weave l e := List.drop_left' rfl
    have d2 : (g ++ (oneL t ++ weave l e)).drop (g.length + (oneL t).length) = weave l e := by rw [← List.append_assoc]; exact List.drop_left' (by simp)
    have t1 : (g ++ (oneL t ++ weave l e)).take g.length = g := List.take_left' rfl
    have t2 : (g ++ (oneL t ++ weave l e)).take (g.length + (oneL t).length) = g ++ oneL t := by rw [← List.append_assoc]; exact List.take_left' (by simp)
    rw [weave, scanF, hs, if_neg (by simp; omega), d1, hp]
    simp only
    rw [if_neg hk, d2, t2, t1, adv_append, ih]
    rfl
theorem gap_nil : gapOk [] := fun r => by simp
theorem gap_blank {c : UInt8} {g : List UInt8} (h : blankB (c.toNat : Int) = true) (hg : gapOk g) : gapOk (c :: g) := fun r => by
  rw [List.cons_append, skipN, if_pos h, hg]
  simp; omega
theorem skip_rem : ∀ (x r : List UInt8), (∀ c ∈ x, c ≠ 10) → skipN true (x ++ 10 :: r) = x.length + 1 + skipN false r
  | [], r, _ => by simp [skipN]; omega
  | c :: x, r, h => by
    rw [List.cons_append, skipN, if_neg (h c (by simp)), skip_rem x r (fun d hd => h d (List.mem_cons_of_mem _ hd))]
    simp; omega
theorem gap_rem {x g : List UInt8} (h : ∀ c ∈ x, c ≠ 10) (hg : gapOk g) : gapOk (47 :: 47 :: (x ++ 10 :: g)) := fun r => by
  have e : (47 :: 47 :: (x ++ 10 :: g)) ++ r = 47 :: ((47 :: x) ++ 10 :: (g ++ r)) := by simp
  rw [e, skipN, if_neg (by decide), if_pos ⟨rfl, rfl⟩, skip_rem (47 :: x) (g ++ r) (by intro c hc; rcases List.mem_cons.1 hc with rfl | hc; decide; exact h c hc), hg]
  simp; omega

/-- one blank between each two -/
def itemsJ : Bool → List TokD → List (List UInt8 × TokD)
  | _, [] => []
  | b, t :: ts => (if b then [] else [32], t) :: itemsJ false ts
def lineT : Nat → Bool → List TokD → List TokD
  | c, _, [] => [⟨7, [], 1, c⟩]
  | c, b, t :: ts => ⟨t.kind, t.text, 1, ((if b then c else c + 1 : Nat) : Int)⟩ :: lineT ((if b then c else c + 1) + (oneL t).length) false ts
theorem items_len : ∀ (b : Bool) (ts : List TokD), (itemsJ b ts).length = ts.length
  | _, [] => rfl
  | b, t :: ts => by simp [itemsJ, items_len false ts]
theorem weave_false : ∀ (ts : List TokD), weave (itemsJ false ts) [] = if ts = [] then [] else 32 :: joinL ts
  | [] => rfl
  | [t] => by simp [itemsJ, weave, joinL]
  | t :: u :: ts => by
    have := weave_false (u :: ts)
    rw [if_neg (by simp)] at this ⊢
    rw [itemsJ, weave, this, joinL]
    simp
theorem weave_join : ∀ (ts : List TokD), weave (itemsJ true ts) [] = joinL ts
  | [] => rfl
  | [t] => by simp [itemsJ, weave, joinL]
  | t :: u :: ts => by
    have := weave_false (u :: ts)
    rw [if_neg (by simp)] at this
    rw [itemsJ, weave, this, joinL]
    simp
theorem weave_line : ∀ (ts : List TokD) (b : Bool) (c : Nat), (∀ t ∈ ts, printB t = true) → weaveT (1, c) (itemsJ b ts) [] = lineT c b ts
  | [], b, c, _ => by simp [itemsJ, weaveT, lineT, adv]
  | t :: ts, b, c, h => by
    have ht := adv_flat (oneL t) (1, if b then c else c + 1) (one_ten (h t (by simp)))
    have hg : adv (1, c) (if b then [] else [32]) = (1, if b then c else c + 1) := by cases b <;> rfl
    have ih := weave_line ts false ((if b then c else c + 1) + (oneL t).length) (fun u hu => h u (List.mem_cons_of_mem _ hu))
    rw [itemsJ, weaveT, hg, ht, ih, lineT]
    rfl
theorem gap_one : gapOk [32] := gap_blank (by decide) gap_nil
theorem items_ok : ∀ (ts : List TokD) (b : Bool), (∀ t ∈ ts, printB t = true) → (∀ x ∈ itemsJ b ts, gapOk x.1 ∧ printB x.2 = true) ∧ follow (itemsJ b ts) []
  | [], _, _ => by simp [itemsJ, follow]
  | t :: ts, b, h => by
    obtain ⟨h1, h2⟩ := items_ok ts false (fun u hu => h u (List.mem_cons_of_mem _ hu))
    rw [itemsJ]
    refine ⟨?_, ?_, h2⟩
    · intro x hx
      rcases List.mem_cons.1 hx with rfl | hx
      · refine ⟨?_, h t (by simp)⟩
        cases b
        · exact gap_one
        · exact gap_nil
      · exact h1 x hx
    · rw [weave_false]
      split
      · exact stop_nil _
      · intro c r' e
        simp only [List.cons.injEq] at e
        obtain ⟨rfl, _⟩ := e
        exact ⟨by decide, by decide, by decide, by intro _; decide⟩
/-- what is printed is scanned as the same -/
theorem scan_join (ts : List TokD) (h : ∀ t ∈ ts, printB t = true) (hl : (joinL ts).length ≤ 65536) : scanL (joinL ts) = (some (lineT 1 true ts), 0, 0, 0) := by
  obtain ⟨h1, h2⟩ := items_ok ts true h
  have hn : ts.length ≤ (joinL ts).length := by
    clear hl h1 h2
    have key : ∀ ts : List TokD, (∀ t ∈ ts, printB t = true) → ts.length ≤ (joinL ts).length := by
      intro ts
      induction ts with
      | nil => intro _; simp
      | cons t ts ih =>
        intro h
        have := ih (fun u hu => h u (List.mem_cons_of_mem _ hu))
        have hp := one_pos (h t (by simp))
        cases ts with
        | nil => simpa [joinL] using hp
        | cons u ts => rw [joinL]; simp at this ⊢; omega
    exact key ts h
  have hs := scan_weave (itemsJ true ts) [] ((joinL ts).length + 1) (1, 1) (by rw [items_len]; omega) h1 gap_nil h2
  rw [weave_join, weave_line ts true 1 h] at hs
  unfold scanL
  rw [if_neg (by omega), hs]
end Go.Proofs.Ytmglbcldjhdhkab

