/- Pieces with any gaps between them: what is scanned, and where each piece stands. -/
import Derived.Test.YtmglbcldjhdhkaaTkKc
import Derived.Test.YtmglbcldjhdhkaaTkC4
namespace Go.Proofs.Ytmglbcldjhdhkaa
open Go.PlainAid

def itemsG (G : Nat → List UInt8) : Nat → List TokD → List (List UInt8 × TokD)
  | _, [] => []
  | j, t :: ts => (G j, t) :: itemsG G (j + 1) ts
theorem itemsG_len (G : Nat → List UInt8) : ∀ (ts : List TokD) (j : Nat), (itemsG G j ts).length = ts.length
  | [], _ => rfl
  | t :: ts, j => by simp [itemsG, itemsG_len G ts]
theorem weave_end : ∀ (l : List (List UInt8 × TokD)) (e : List UInt8), weave l e = weave l [] ++ e
  | [], e => by simp [weave]
  | (g, t) :: l, e => by rw [weave, weave, weave_end l e]; simp
/-- the text ahead of the i-th gap -/
def txtG (G : Nat → List UInt8) (P : List TokD) (i : Nat) : List UInt8 := weave (itemsG G 0 (P.take i)) []
theorem weaveG_snoc (G : Nat → List UInt8) : ∀ (A : List TokD) (t : TokD) (j : Nat), weave (itemsG G j (A ++ [t])) [] = weave (itemsG G j A) [] ++ (G (j + A.length) ++ oneL t)
  | [], t, j => by simp [itemsG, weave]
  | a :: A, t, j => by
    have := weaveG_snoc G A t (j + 1)
    simp only [List.cons_append, itemsG, weave]
    rw [this, show j + 1 + A.length = j + (a :: A).length by simp; omega]
    simp
theorem txt_next (G : Nat → List UInt8) (P : List TokD) (i : Nat) (h : i < P.length) : txtG G P (i + 1) = txtG G P i ++ G i ++ oneL P[i] := by
  unfold txtG
  rw [List.take_succ_eq_append_getElem h, weaveG_snoc, List.length_take, Nat.min_eq_left (Nat.le_of_lt h), Nat.zero_add]
  simp
theorem txt_all (G : Nat → List UInt8) (P : List TokD) : weave (itemsG G 0 P) (G P.length) = txtG G P P.length ++ G P.length := by
  rw [weave_end]
  unfold txtG
  rw [List.take_length]
theorem weaveT_at (G : Nat → List UInt8) : ∀ (ts : List TokD) (e : List UInt8) (p : Nat × Nat) (j i : Nat) (h : i < ts.length),
    (weaveT p (itemsG G j ts) e)[i]? = some ⟨ts[i].kind, ts[i].text, (adv p (weave (itemsG G j (ts.take i)) [] ++ G (j + i))).1, (adv p (weave (itemsG G j (ts.take i)) [] ++ G (j + i))).2⟩
  | [], _, _, _, _, h => by simp at h
  | t :: ts, e, p, j, 0, _ => by simp [itemsG, weaveT, weave]
  | t :: ts, e, p, j, i + 1, h => by
    have ih := weaveT_at G ts e (adv (adv p (G j)) (oneL t)) (j + 1) i (by simpa using h)
    have e1 : adv (adv (adv p (G j)) (oneL t)) (weave (itemsG G (j + 1) (ts.take i)) [] ++ G (j + 1 + i)) = adv p (weave (itemsG G j ((t :: ts).take (i + 1))) [] ++ G (j + (i + 1))) := by
      rw [List.take_succ_cons, itemsG, weave, show j + (i + 1) = j + 1 + i by omega, ← adv_append, ← adv_append]
      simp
    rw [itemsG, weaveT, List.getElem?_cons_succ, ih, e1]
    simp
theorem weaveT_end (G : Nat → List UInt8) : ∀ (ts : List TokD) (e : List UInt8) (p : Nat × Nat) (j : Nat),
    (weaveT p (itemsG G j ts) e)[ts.length]? = some ⟨7, [], (adv p (weave (itemsG G j ts) [] ++ e)).1, (adv p (weave (itemsG G j ts) [] ++ e)).2⟩
  | [], e, p, j => by simp [itemsG, weaveT, weave]
  | t :: ts, e, p, j => by
    have ih := weaveT_end G ts e (adv (adv p (G j)) (oneL t)) (j + 1)
    have e1 : adv (adv (adv p (G j)) (oneL t)) (weave (itemsG G (j + 1) ts) [] ++ e) = adv p (weave (itemsG G j (t :: ts)) [] ++ e) := by
      rw [itemsG, weave, ← adv_append, ← adv_append]
      simp
    rw [itemsG, weaveT, List.length_cons, List.getElem?_cons_succ, ih, e1]
    rfl
theorem weaveT_len : ∀ (l : List (List UInt8 × TokD)) (p : Nat × Nat) (e : List UInt8), (weaveT p l e).length = l.length + 1
  | [], _, _ => rfl
  | (g, t) :: l, p, e => by simp [weaveT, weaveT_len l]
theorem weaveT_app (G : Nat → List UInt8) : ∀ (ts : List TokD) (e : List UInt8) (p : Nat × Nat) (j : Nat), ∃ (Q : List TokD) (u : TokD), weaveT p (itemsG G j ts) e = Q ++ [u] ∧ u.kind = 7 ∧ u.text = [] ∧ Q.length = ts.length ∧ sameKT Q ts
  | [], e, p, j => ⟨[], _, rfl, rfl, rfl, rfl, rfl⟩
  | t :: ts, e, p, j => by
    obtain ⟨Q, u, h1, h2, h3, h4, h5⟩ := weaveT_app G ts e (adv (adv p (G j)) (oneL t)) (j + 1)
    refine ⟨⟨t.kind, t.text, (adv p (G j)).1, (adv p (G j)).2⟩ :: Q, u, by rw [itemsG, weaveT, h1]; rfl, h2, h3, by simp [h4], ?_⟩
    unfold sameKT at h5 ⊢
    simp [h5]
theorem followG (G : Nat → List UInt8) (e : List UInt8) : ∀ (ts : List TokD) (j : Nat), (∀ i (h : i < ts.length) r, stopR (oneL ts[i]) ((if i + 1 < ts.length then G (j + i + 1) else e) ++ r)) → follow (itemsG G j ts) e
  | [], _, _ => trivial
  | t :: ts, j, h => by
    rw [itemsG]
    refine ⟨?_, followG G e ts (j + 1) (fun i hi r => ?_)⟩
    · have h0 := h 0 (by simp)
      cases ts with
      | nil =>
        have := h0 []
        simpa [itemsG, weave] using this
      | cons u ts =>
        rw [itemsG, weave]
        have := h0 (oneL u ++ weave (itemsG G (j + 1 + 1) ts) e)
        simpa using this
    · have := h (i + 1) (by simpa using hi) r
      simp only [List.length_cons, Nat.add_lt_add_iff_right, List.getElem_cons_succ] at this
      rw [show j + 1 + i + 1 = j + (i + 1) + 1 by omega]
      exact this
/-- what is scanned of pieces with gaps -/
theorem scan_gaps (G : Nat → List UInt8) (P : List TokD) (h : ∀ t ∈ P, printB t = true) (hg : ∀ i, i ≤ P.length → gapOk (G i)) (hs : ∀ i (_ : i < P.length) r, stopR (oneL P[i]) (G (i + 1) ++ r)) (hl : (txtG G P P.length ++ G P.length).length ≤ 65536) :
    scanL (txtG G P P.length ++ G P.length) = (some (weaveT (1, 1) (itemsG G 0 P) (G P.length)), 0, 0, 0) := by
  have hn : ∀ (ts : List TokD) (j : Nat), (∀ t ∈ ts, printB t = true) → ts.length ≤ (weave (itemsG G j ts) []).length := by
    intro ts
    induction ts with
    | nil => intro _ _; simp
    | cons t ts ih =>
      intro j ht
      have := ih (j + 1) (fun u hu => ht u (List.mem_cons_of_mem _ hu))
      have hp := one_pos (ht t (by simp))
      rw [itemsG, weave]
      simp
      omega
  have hitems : ∀ (ts : List TokD) (j : Nat), (∀ t ∈ ts, printB t = true) → (∀ i, i < ts.length → gapOk (G (j + i))) → ∀ x ∈ itemsG G j ts, gapOk x.1 ∧ printB x.2 = true := by
    intro ts
    induction ts with
    | nil => intro _ _ _ x hx; simp [itemsG] at hx
    | cons t ts ih =>
      intro j ht hgp x hx
      rw [itemsG] at hx
      rcases List.mem_cons.1 hx with rfl | hx
      · exact ⟨hgp 0 (by simp), ht t (by simp)⟩
      · exact ih (j + 1) (fun u hu => ht u (List.mem_cons_of_mem _ hu)) (fun i hi => by have := hgp (i + 1) (by simpa using hi); rwa [show j + (i + 1) = j + 1 + i by omega] at this) x hx
  have hlen := hn P 0 h
  have hs2 := scan_weave (itemsG G 0 P) (G P.length) ((txtG G P P.length ++ G P.length).length + 1) (1, 1)
    (by rw [itemsG_len, ← txt_all, weave_end, List.length_append]; omega) (hitems P 0 h (fun i hi => by rw [Nat.zero_add]; exact hg i (by omega))) (hg _ (Nat.le_refl _))
    (followG G _ P 0 (fun i hi r => by
      have := hs i hi r
      split
      · rw [Nat.zero_add]; exact this
      · rename_i hne
        have e : P.length = i + 1 := by omega
        rw [e]; exact this))
  rw [txt_all] at hs2
  unfold scanL
  rw [if_neg (by omega), hs2]
end Go.Proofs.Ytmglbcldjhdhkaa
