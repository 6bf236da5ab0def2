/- TokensBegins, as plain data: a byte that is refused is refused whatever comes behind; a beginning is brought to its end. -/
import Derived.Test.YtmglbcldjhdhkabTkQb
namespace Go.Proofs.Ytmglbcldjhdhkab
open Go.PlainAid

theorem run_len : ∀ (l : List UInt8) (m : Mc), (runM m l).1 ≤ l.length
  | [], _ => Nat.le_refl _
  | c :: t, m => by
    rw [runM]
    split
    · simp
    · have := run_len t
      simp
      exact this _
theorem run_take : ∀ (l : List UInt8) (m : Mc), runM m (l.take (runM m l).1) = runM m l
  | [], _ => rfl
  | c :: t, m => by
    cases h : takeM m c with
    | none => rw [run_stop h]; rfl
    | some m' =>
      rw [run_cons h, List.take_succ_cons, run_cons h, run_take t m']
theorem run_more : ∀ (a b : List UInt8) (m : Mc), (runM m a).1 = a.length → runM m (a ++ b) = (a.length + (runM (runM m a).2 b).1, (runM (runM m a).2 b).2)
  | [], b, m, _ => by simp [runM]
  | c :: t, b, m, h => by
    cases h2 : takeM m c with
    | none => rw [run_stop h2] at h; simp at h
    | some m' =>
      rw [run_cons h2] at h ⊢
      have h3 : (runM m' t).1 = t.length := by simpa using h
      rw [List.cons_append, run_cons h2, run_more t b m' h3]
      simp
      omega
theorem run_refuse : ∀ (l : List UInt8) (m : Mc) (t : List UInt8), (runM m l).1 < l.length → runM m (l.take ((runM m l).1 + 1) ++ t) = runM m l
  | [], _, _, h => by simp [runM] at h
  | c :: r, m, t, h => by
    cases h2 : takeM m c with
    | none =>
      rw [run_stop h2]
      simp only [Nat.zero_add, List.take_succ_cons, List.take_zero, List.cons_append]
      exact run_stop h2
    | some m' =>
      rw [run_cons h2] at h ⊢
      have h3 : (runM m' r).1 < r.length := by simpa using h
      rw [List.take_succ_cons, List.cons_append, run_cons h2, run_refuse r m' t h3]
theorem run_fin (m : Mc) : (runM m (finM m)).1 = (finM m).length ∧ finM (runM m (finM m)).2 = [] := by
  obtain ⟨st, n⟩ := m
  unfold finM
  by_cases h : st = 5 ∨ st = 7 ∨ st = 8 ∨ st = 10 ∨ st = 11 ∨ st = 12 ∨ st = 13 ∨ st = 15
  · rcases h with rfl | rfl | rfl | rfl | rfl | rfl | rfl | rfl
    all_goals exact ⟨rfl, rfl⟩
  · simp only [not_or] at h
    obtain ⟨h1, h2, h3, h4, h5, h6, h7, h8⟩ := h
    simp [h1, h2, h3, h4, h5, h6, h7, h8, runM]
/-- what the scan tells, by the machine -/
theorem scan_ok {l : List UInt8} (hl : l.length ≤ 65536) (h : (runM ⟨0, 0⟩ l).1 = l.length) (hf : finM (runM ⟨0, 0⟩ l).2 = []) : ∃ ts, scanL l = (some ts, 0, 0, 0) := by
  have hs := run_scan (l.length + 1) l (1, 1) ⟨0, 0⟩ (ready0 0 l) (Nat.lt_succ_self _)
  unfold scanL
  rw [if_neg (by omega)]
  cases hq : scanF (l.length + 1) l (1, 1) with
  | mk a b =>
    rw [hq] at hs
    cases a with
    | some ts => exact ⟨ts, rfl⟩
    | none =>
      obtain ⟨k, ⟨_, m', e, h3⟩, _⟩ := hs.2 rfl
      rw [e] at h hf
      rcases h3 with h3 | h3
      · simp only at h; omega
      · exact absurd hf h3
theorem scan_bad {l : List UInt8} (hl : l.length ≤ 65536) (h : (runM ⟨0, 0⟩ l).1 < l.length ∨ finM (runM ⟨0, 0⟩ l).2 ≠ []) : scanL l = (none, 50, adv (1, 1) (l.take (runM ⟨0, 0⟩ l).1)) := by
  have hs := run_scan (l.length + 1) l (1, 1) ⟨0, 0⟩ (ready0 0 l) (Nat.lt_succ_self _)
  unfold scanL
  rw [if_neg (by omega)]
  cases hq : scanF (l.length + 1) l (1, 1) with
  | mk a b =>
    rw [hq] at hs
    cases a with
    | some ts =>
      obtain ⟨m', e, h2⟩ := hs.1 (by simp)
      rw [e] at h
      rcases h with h | h
      · simp at h
      · exact absurd h2 h
    | none =>
      obtain ⟨k, ⟨_, m', e, _⟩, h4⟩ := hs.2 rfl
      simp only at h4 ⊢
      rw [h4, e]
/-- the place goes on -/
def befP (p q : Nat × Nat) : Prop := p.1 < q.1 ∨ (p.1 = q.1 ∧ p.2 < q.2)
theorem befP.trans {p q r : Nat × Nat} (h : befP p q) (k : befP q r) : befP p r := by
  unfold befP at *
  omega
theorem bef_one (p : Nat × Nat) (c : UInt8) : befP p (adv1 p c) := by
  unfold befP adv1
  split <;> simp
theorem bef_adv : ∀ (l : List UInt8) (p : Nat × Nat), l ≠ [] → befP p (adv p l)
  | [], _, h => absurd rfl h
  | [c], p, _ => bef_one p c
  | c :: d :: t, p, _ => (bef_one p c).trans (bef_adv (d :: t) (adv1 p c) (by simp))
theorem bef_take (l : List UInt8) (j k : Nat) (h : j < k) (hk : k ≤ l.length) : befP (adv (1, 1) (l.take j)) (adv (1, 1) (l.take k)) := by
  have e : l.take k = l.take j ++ (l.drop j).take (k - j) := by
    rw [← List.take_add, show j + (k - j) = k by omega]
  rw [e, adv_append]
  refine bef_adv _ _ ?_
  intro h0
  have := congrArg List.length h0
  simp at this
  omega
end Go.Proofs.Ytmglbcldjhdhkab

