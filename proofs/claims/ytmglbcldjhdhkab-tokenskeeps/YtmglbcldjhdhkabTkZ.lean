/- Tokens in memory that are read, and how they are joined. -/
import Derived.Test.YtmglbcldjhdhkabTkY
import Derived.Test.YtmglbcldjhdhkabTkP
namespace Go.Proofs.Ytmglbcldjhdhkab
open Go.RowKit Go.PlainAid

/-- the slice v reads as the tokens l -/
structure Ts4 (w : World) (v : Value) (l : List TokD) : Prop where
  ex : ∃ ao cap, v = .slice ao l.length cap ∧ l.length ≤ cap ∧ cap ≤ 9223372036854775807 ∧ (ao = none → cap = 0) ∧
    (l ≠ [] → ∃ b o, ao = some ⟨b, o, none⟩ ∧ ∀ i (h : i < l.length), w.cell? ⟨b, o + i * 4, none⟩ = some (.int .i64 (l[i]).kind) ∧ w.cell? ⟨b, o + i * 4 + 1, none⟩ = some (.string (ba (l[i]).text)) ∧ w.cell? ⟨b, o + i * 4 + 2, none⟩ = some (.int .i64 (l[i]).line) ∧ w.cell? ⟨b, o + i * 4 + 3, none⟩ = some (.int .i64 (l[i]).col))
  txt : ∀ t ∈ l, t.text.length ≤ 140737488351232
theorem Ts4.keep {F : List Nat} {w w' : World} {v : Value} {l : List TokD} (h : Ts4 w v l) (k : Keep F w w') (hn : Off v F) : Ts4 w' v l := by
  obtain ⟨ao, cap, rfl, h1, h2, h3, h4⟩ := h.ex
  refine ⟨⟨ao, cap, rfl, h1, h2, h3, fun hl => ?_⟩, h.txt⟩
  obtain ⟨b, o, rfl, hc⟩ := h4 hl
  exact ⟨b, o, rfl, fun i hi => ⟨k.cell' (hc i hi).1 (hn b rfl), k.cell' (hc i hi).2.1 (hn b rfl), k.cell' (hc i hi).2.2.1 (hn b rfl), k.cell' (hc i hi).2.2.2 (hn b rfl)⟩⟩
/-- its first n -/
theorem Ts4.front {w : World} {ao : Option Addr} {cap : Nat} {l : List TokD} (h : Ts4 w (.slice ao l.length cap) l) (n : Nat) (hn : n ≤ l.length) : Ts4 w (.slice ao n cap) (l.take n) := by
  obtain ⟨ao2, cap2, e, h1, h2, h3, h4⟩ := h.ex
  simp only [Value.slice.injEq] at e
  obtain ⟨rfl, _, rfl⟩ := e
  have hl : (l.take n).length = n := by rw [List.length_take]; omega
  refine ⟨⟨ao, cap, by rw [hl], by omega, h2, h3, fun hne => ?_⟩, fun t ht => h.txt t (List.mem_of_mem_take ht)⟩
  obtain ⟨b, o, rfl, hc⟩ := h4 (by intro e; subst e; simp at hne)
  refine ⟨b, o, rfl, fun i hi => ?_⟩
  have := hc i (by omega)
  rw [List.getElem_take]
  exact this
theorem getD_cell (l : List TokD) (i j : Nat) (h : i < l.length) (hj : j < 4) : (toksC l)[i * 4 + j]? = (tokC l[i])[j]? := by
  induction l generalizing i with
  | nil => simp at h
  | cons t l ih =>
    cases i with
    | zero =>
      have : (tokC t).length = 4 := rfl
      simp only [toksC, List.flatMap_cons, Nat.zero_mul, Nat.zero_add, List.getElem_cons_zero]
      exact List.getElem?_append_left (by omega)
    | succ i =>
      have e : (tokC t).length = 4 := rfl
      simp only [toksC, List.flatMap_cons, List.getElem_cons_succ]
      rw [List.getElem?_append_right (by omega), e, show (i + 1) * 4 + j - 4 = i * 4 + j by omega]
      exact ih i (by simpa using h)
theorem Ts4.ofRow {w : World} {v : Value} {l : List TokD} (h : RowT w v l) (ht : ∀ t ∈ l, t.text.length ≤ 140737488351232) : Ts4 w v l := by
  rcases RowC.cases h with ⟨h0, _, rfl⟩ | ⟨g, cap, rfl, h1, h2, _, hc, _⟩
  · have : l = [] := List.eq_nil_of_length_eq_zero h0
    subst this
    exact ⟨⟨none, 0, rfl, by simp, by omega, fun _ => rfl, fun h => absurd rfl h⟩, ht⟩
  · refine ⟨⟨some ⟨g, 0, none⟩, cap, rfl, h1, h2, (by intro h; cases h), fun _ => ⟨g, 0, rfl, fun i hi => ?_⟩⟩, ht⟩
    have e := fun j (hj : j < 4) => (hc (i * 4 + j) (by omega)).trans (getD_cell l i j hi hj)
    simp only [Nat.zero_add]
    exact ⟨e 0 (by omega), e 1 (by omega), e 2 (by omega), e 3 (by omega)⟩

theorem esc_ge (l : List UInt8) : l.length ≤ (escL l).length := by
  induction l with
  | nil => simp
  | cons c l ih =>
    have : 1 ≤ (escB c).length := by
      unfold escB
      repeat' split
      all_goals simp
    simp [escL] at *
    omega
theorem one_ge (t : TokD) : t.text.length ≤ (oneL t).length := by
  unfold oneL
  split
  · have := esc_ge t.text; simp [quoteL]; omega
  · exact Nat.le_refl _
theorem one_le (t : TokD) : (oneL t).length ≤ 4 * t.text.length + 2 := by
  unfold oneL
  split
  · have := escL_len t.text; simp [quoteL]; omega
  · omega
theorem join_snoc : ∀ (ts : List TokD) (t : TokD), joinL (ts ++ [t]) = if ts = [] then oneL t else joinL ts ++ 32 :: oneL t
  | [], t => by simp [joinL]
  | [a], t => by simp [joinL]
  | a :: b :: ts, t => by
    have := join_snoc (b :: ts) t
    rw [if_neg (by simp)] at this ⊢
    simp only [List.cons_append] at this ⊢
    rw [joinL, this, joinL]
    simp
theorem join_mono (P : List TokD) (n : Nat) : (joinL (P.take n)).length ≤ (joinL P).length := by
  by_cases h : n < P.length
  · have key : ∀ m, n + m ≤ P.length → (joinL (P.take n)).length ≤ (joinL (P.take (n + m))).length := by
      intro m
      induction m with
      | zero => intro _; exact Nat.le_refl _
      | succ m ih =>
        intro hm
        have h1 := ih (by omega)
        have e : P.take (n + (m + 1)) = P.take (n + m) ++ [P[n + m]'(by omega)] := by
          rw [show n + (m + 1) = (n + m) + 1 by omega, List.take_succ_eq_append_getElem]
        rw [e, join_snoc]
        split
        · rename_i h0
          rw [h0] at h1
          have : (joinL ([] : List TokD)).length = 0 := rfl
          omega
        · simp; omega
    have := key (P.length - n) (by omega)
    rwa [show n + (P.length - n) = P.length by omega, List.take_length] at this
  · rw [List.take_of_length_le (by omega)]; exact Nat.le_refl _
end Go.Proofs.Ytmglbcldjhdhkab

