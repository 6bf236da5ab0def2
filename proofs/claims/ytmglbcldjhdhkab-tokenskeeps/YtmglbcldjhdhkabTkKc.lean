/- Where each printed piece stands. -/
import Derived.Test.YtmglbcldjhdhkabTkKb
import Derived.Test.YtmglbcldjhdhkabTkC2
namespace Go.Proofs.Ytmglbcldjhdhkab
open Go.PlainAid

theorem join_app : ∀ (A B : List TokD), A ≠ [] → B ≠ [] → joinL (A ++ B) = joinL A ++ 32 :: joinL B
  | [], _, h, _ => absurd rfl h
  | [a], B, _, hB => by
    cases B with
    | nil => exact absurd rfl hB
    | cons b B => simp [joinL]
  | a :: c :: A, B, _, hB => by
    have := join_app (c :: A) B (by simp) hB
    simp only [List.cons_append] at this ⊢
    rw [joinL, this, joinL]
    simp
/-- the column of the i-th piece; behind the last: the column of the end -/
def colC (P : List TokD) (i : Nat) : Nat := if i < P.length then 1 + (joinL (P.take i)).length + (if i = 0 then 0 else 1) else (joinL P).length + 1
theorem col_zero (P : List TokD) : colC P 0 = 1 := by
  unfold colC
  split
  · simp [joinL]
  · have : P = [] := List.eq_nil_of_length_eq_zero (by omega)
    subst this
    rfl
theorem col_end (P : List TokD) : colC P P.length = (joinL P).length + 1 := by
  unfold colC
  rw [if_neg (by omega)]
theorem take_len (P : List TokD) (i : Nat) (h : i < P.length) : (joinL (P.take (i + 1))).length + 1 = colC P i + (oneL P[i]).length := by
  unfold colC
  rw [if_pos h, join_next P i h]
  split
  · rename_i e; subst e; simp [joinL]; omega
  · simp; omega
theorem col_next (P : List TokD) (i : Nat) (h : i < P.length) : colC P (i + 1) = colC P i + (oneL P[i]).length + (if i + 1 < P.length then 1 else 0) := by
  have h1 := take_len P i h
  by_cases h2 : i + 1 < P.length
  · rw [if_pos h2, ← h1]
    unfold colC
    rw [if_pos h2, if_neg (by omega)]
    omega
  · rw [if_neg h2, ← h1]
    have e : P.length = i + 1 := by omega
    rw [← e, col_end, List.take_length]
/-- the text around the i-th piece -/
theorem join_split (P : List TokD) (i : Nat) (h : i < P.length) : ∃ A C, joinL P = A ++ (oneL P[i] ++ C) ∧ A.length + 1 = colC P i ∧ (i + 1 < P.length → ∃ C', C = 32 :: C') := by
  have hA : ∃ A, joinL (P.take (i + 1)) = A ++ oneL P[i] ∧ A.length + 1 = colC P i := by
    rw [join_next P i h]
    unfold colC
    rw [if_pos h]
    split
    · rename_i e; subst e; exact ⟨[], rfl, by simp [joinL]⟩
    · exact ⟨joinL (P.take i) ++ [32], by simp, by simp; omega⟩
  obtain ⟨A, e1, e2⟩ := hA
  by_cases h2 : i + 1 < P.length
  · have h3 := join_app (P.take (i + 1)) (P.drop (i + 1)) (by intro e; have := congrArg List.length e; rw [List.length_take, List.length_nil] at this; omega) (by intro e; have := congrArg List.length e; rw [List.length_drop, List.length_nil] at this; omega)
    rw [List.take_append_drop, e1] at h3
    exact ⟨A, 32 :: joinL (P.drop (i + 1)), by rw [h3]; simp, e2, fun _ => ⟨_, rfl⟩⟩
  · rw [List.take_of_length_le (by omega)] at e1
    exact ⟨A, [], by rw [e1]; simp, e2, fun h => absurd h h2⟩
theorem ba_mid (A B C : List UInt8) : (ba (A ++ (B ++ C))).extract A.length (A.length + B.length) = ba B := by
  rw [ext_mid, ba_toList]
  have : (A ++ (B ++ C)).drop A.length = B ++ C := List.drop_left' rfl
  rw [this, show A.length + B.length - A.length = B.length by omega]
  congr 1
  exact List.take_left' rfl

def colF : Nat → Bool → List TokD → Nat → Nat
  | c, b, _, 0 => if b then c else c + 1
  | c, b, t :: ts, i + 1 => colF ((if b then c else c + 1) + (oneL t).length) false ts i
  | c, _, [], _ + 1 => c
theorem line_at : ∀ (ts : List TokD) (c : Nat) (b : Bool) (i : Nat) (h : i < ts.length), (lineT c b ts)[i]? = some ⟨ts[i].kind, ts[i].text, 1, (colF c b ts i : Int)⟩
  | [], _, _, _, h => by simp at h
  | t :: ts, c, b, 0, _ => by simp [lineT, colF]
  | t :: ts, c, b, i + 1, h => by
    have := line_at ts ((if b then c else c + 1) + (oneL t).length) false i (by simpa using h)
    rw [lineT, List.getElem?_cons_succ, this]
    simp [colF]
theorem line_end : ∀ (ts : List TokD) (c : Nat) (b : Bool), (lineT c b ts)[ts.length]? = some ⟨7, [], 1, ((c + (weave (itemsJ b ts) []).length : Nat) : Int)⟩
  | [], c, b => by simp [lineT, itemsJ, weave]
  | t :: ts, c, b => by
    have := line_end ts ((if b then c else c + 1) + (oneL t).length) false
    rw [lineT, List.length_cons, List.getElem?_cons_succ, this, itemsJ, weave]
    cases b <;> simp <;> omega
theorem line_len : ∀ (ts : List TokD) (c : Nat) (b : Bool), (lineT c b ts).length = ts.length + 1
  | [], _, _ => rfl
  | t :: ts, c, b => by simp [lineT, line_len ts]
theorem colF_eq : ∀ (ts : List TokD) (c : Nat) (b : Bool) (i : Nat), i < ts.length → colF c b ts i = c + (weave (itemsJ b (ts.take i)) []).length + (if b = true ∧ i = 0 then 0 else 1)
  | [], _, _, _, h => by simp at h
  | t :: ts, c, b, 0, _ => by cases b <;> simp [colF, itemsJ, weave]
  | t :: ts, c, b, i + 1, h => by
    have := colF_eq ts ((if b then c else c + 1) + (oneL t).length) false i (by simpa using h)
    rw [colF, this, List.take_succ_cons, itemsJ, weave]
    cases b <;> simp <;> omega
theorem colF_C (P : List TokD) (i : Nat) (h : i < P.length) : colF 1 true P i = colC P i := by
  rw [colF_eq P 1 true i h, weave_join]
  unfold colC
  rw [if_pos h]
  simp
theorem line_app : ∀ (ts : List TokD) (c : Nat) (b : Bool), ∃ Q : List TokD, lineT c b ts = Q ++ [⟨7, [], 1, ((c + (weave (itemsJ b ts) []).length : Nat) : Int)⟩] ∧ Q.length = ts.length ∧ sameKT Q ts
  | [], c, b => ⟨[], by simp [lineT, itemsJ, weave], rfl, rfl⟩
  | t :: ts, c, b => by
    obtain ⟨Q, h1, h2, h3⟩ := line_app ts ((if b then c else c + 1) + (oneL t).length) false
    refine ⟨⟨t.kind, t.text, 1, ((if b then c else c + 1 : Nat) : Int)⟩ :: Q, ?_, by simp [h2], ?_⟩
    · rw [lineT, h1, itemsJ, weave]
      cases b <;> simp <;> omega
    · unfold sameKT at h3 ⊢
      simp [h3]
theorem line_same (P : List TokD) : sameKT (aheadL (lineT 1 true P)) P := by
  obtain ⟨Q, h1, _, h3⟩ := line_app P 1 true
  rw [h1, ahead_snoc, if_pos rfl]
  exact h3
/-- what is cut off where all may be printed -/
theorem ahead_cut (l : List TokD) (h : ∀ t ∈ cutE l, printB t = true) : aheadL l = cutE l := by
  rcases List.eq_nil_or_concat l with rfl | ⟨Q, t, hl⟩
  · rfl
  · rw [List.concat_eq_append] at hl
    subst hl
    rw [cut_last] at h ⊢
    rw [ahead_snoc]
    by_cases he : endB t = true
    · rw [if_pos he]
      simp only [endB, Bool.and_eq_true, decide_eq_true_eq] at he
      rw [if_pos he.1]
    · rw [if_neg he] at h ⊢
      have := (kind_ne (h t (by simp))).2
      rw [if_neg this]
theorem print_cases (l : List TokD) : printL l = ([], 50) ∨ printL l = ([], 3) ∨ (printL l = (joinL (cutE l), 0) ∧ (∀ t ∈ cutE l, printB t = true) ∧ (joinL (cutE l)).length ≤ 65536) := by
  by_cases h : (cutE l).all printB = true
  · by_cases h2 : 65536 < (joinL (cutE l)).length
    · right; left; unfold printL; rw [if_pos h, if_pos h2]
    · right; right; refine ⟨?_, List.all_eq_true.1 h, by omega⟩; unfold printL; rw [if_pos h, if_neg h2]
  · left; unfold printL; rw [if_neg h]
theorem one_join (P : List TokD) (t : TokD) (h : t ∈ P) : (oneL t).length ≤ (joinL P).length := by
  obtain ⟨i, hi, rfl⟩ := List.getElem_of_mem h
  obtain ⟨A, C, e, _⟩ := join_split P i hi
  rw [e]
  simp
  omega
end Go.Proofs.Ytmglbcldjhdhkab

