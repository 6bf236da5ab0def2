/- The machine and the scan: where the one stops the other is refused. -/
import Derived.Test.YtmglbcldjhdhkabTkQa
namespace Go.Proofs.Ytmglbcldjhdhkab
open Go.PlainAid

theorem class_small {c : UInt8} : classI (c.toNat : Int) = 2 ↔ smallB (c.toNat : Int) = true := by
  unfold classI
  constructor
  · intro h
    split at h
    · assumption
    · repeat' split at h
      all_goals simp at h
  · intro h; rw [if_pos h]
instance : DecidableEq Mc := fun a b => match a, b with
  | ⟨a1, a2⟩, ⟨b1, b2⟩ => decidable_of_iff (a1 = b1 ∧ a2 = b2) (by simp)
theorem class_tab : ∀ a : Fin 256, (classI (a.val : Int) = 3 → begM a.val.toUInt8 = some ⟨4, 1⟩) ∧ (classI (a.val : Int) = 5 → begM a.val.toUInt8 = some ⟨10, 1⟩ ∧ a.val = 34) ∧
    (classI (a.val : Int) = 6 → (a.val = 47 ∧ begM a.val.toUInt8 = some ⟨1, 1⟩) ∨ (a.val ≠ 47 ∧ begM a.val.toUInt8 = some ⟨0, 1⟩)) ∧ (classI (a.val : Int) = 7 → begM a.val.toUInt8 = some ⟨14, 1⟩) ∧
    (classI (a.val : Int) = 8 → begM a.val.toUInt8 = some ⟨15, 1⟩) ∧ (classI (a.val : Int) = 1 → begM a.val.toUInt8 = some ⟨0, 1⟩) ∧ (classI (a.val : Int) = 2 → begM a.val.toUInt8 = some ⟨3, 1⟩) ∧
    (classI (a.val : Int) = 0 ∨ classI (a.val : Int) = 4 → begM a.val.toUInt8 = none) ∧ (0 ≤ classI (a.val : Int) ∧ classI (a.val : Int) ≤ 8) ∧ (blankB (a.val : Int) = true ↔ classI (a.val : Int) = 1) := by
  decide +kernel
theorem class_of (c : UInt8) : (classI (c.toNat : Int) = 3 → begM c = some ⟨4, 1⟩) ∧ (classI (c.toNat : Int) = 5 → begM c = some ⟨10, 1⟩ ∧ c.toNat = 34) ∧
    (classI (c.toNat : Int) = 6 → (c.toNat = 47 ∧ begM c = some ⟨1, 1⟩) ∨ (c.toNat ≠ 47 ∧ begM c = some ⟨0, 1⟩)) ∧ (classI (c.toNat : Int) = 7 → begM c = some ⟨14, 1⟩) ∧
    (classI (c.toNat : Int) = 8 → begM c = some ⟨15, 1⟩) ∧ (classI (c.toNat : Int) = 1 → begM c = some ⟨0, 1⟩) ∧ (classI (c.toNat : Int) = 2 → begM c = some ⟨3, 1⟩) ∧
    (classI (c.toNat : Int) = 0 ∨ classI (c.toNat : Int) = 4 → begM c = none) ∧ (0 ≤ classI (c.toNat : Int) ∧ classI (c.toNat : Int) ≤ 8) ∧ (blankB (c.toNat : Int) = true ↔ classI (c.toNat : Int) = 1) := by
  have h := class_tab ⟨c.toNat, c.toNat_lt⟩
  have e : c.toNat.toUInt8 = c := by apply UInt8.toNat_inj.1; simp
  simp only [e] at h
  exact h
theorem ready_next {m m1 : Mc} {c : UInt8} {t : List UInt8} (h : takeM m c = some m1) {k : Nat} {m' : Mc} (g : Goes m1 t k m') : Goes m (c :: t) (k + 1) m' := g.step h

theorem do_piece (m : Mc) (c : UInt8) (t : List UInt8) (hr : takeM m c = begM c) (hb : blankB (c.toNat : Int) = false) (hs : ¬ (c = 47 ∧ t.head? = some 47)) : Does m (c :: t) (pieceL (c :: t)) := by
  obtain ⟨k3, k5, k6, k7, k8, _, k2, k0, krg, kb⟩ := class_of c
  have h1 : classI (c.toNat : Int) ≠ 1 := fun e => by rw [kb.2 e] at hb; simp at hb
  rw [pieceL]
  by_cases h2 : classI (c.toNat : Int) = 2
  · rw [if_pos h2]
    have ht := hr.trans (k2 h2)
    have hn : rowN (c :: t) = rowN t + 1 := by simp [rowN, class2 h2]
    obtain ⟨g1, g2⟩ := do_row t 1 (by omega)
    unfold rowL
    rw [hn]
    by_cases hl : 32 < rowN t + 1
    · rw [if_pos hl]
      refine ⟨fun h => absurd rfl h, fun _ => ?_⟩
      have := (g2 (by omega)).step (m := m) (c := c) (by rw [ht]; rfl)
      exact this
    · rw [if_neg hl]
      refine ⟨fun _ => ?_, fun h => ?_⟩
      · obtain ⟨g, r⟩ := g1 (by omega)
        exact ⟨_, g.step (m := m) (c := c) (by rw [ht]; rfl), r⟩
      · simp only at h
        split at h <;> omega
  · by_cases h3 : classI (c.toNat : Int) = 3
    · rw [if_neg h2, if_pos h3]
      have ht := hr.trans (k3 h3)
      have hst : stepI 1 (c.toNat : Int) = 1 := by simp [stepI, class3 h3]
      obtain ⟨g1, g2⟩ := do_num t 1 1 (by omega)
      have hn : numGo 1 (c :: t) = ((numGo 1 t).1 + 1, (numGo 1 t).2) := by
        rw [numGo, hst]; simp
      unfold numberL
      rw [hn]
      generalize numGo 1 t = q at g1 g2
      obtain ⟨k, st, b⟩ := q
      simp only at g1 g2 ⊢
      have ht' : takeM m c = some ⟨1 + 3, 1⟩ := ht
      cases b with
      | true =>
        rw [if_pos rfl]
        exact ⟨fun h => absurd rfl h, fun _ => (g2 (by simp)).step ht'⟩
      | false =>
        simp only [Bool.false_eq_true, if_false]
        unfold endedL
        by_cases e1 : st = 1
        · rw [if_pos e1]
          refine ⟨fun _ => ?_, fun h => by simp at h⟩
          obtain ⟨m', g, r⟩ := g1 ⟨rfl, .inl e1⟩
          exact ⟨m', g.step ht', r⟩
        · by_cases e2 : st = 3 ∨ st = 6
          · rw [if_neg e1, if_pos e2]
            refine ⟨fun _ => ?_, fun h => by simp at h⟩
            obtain ⟨m', g, r⟩ := g1 ⟨rfl, .inr e2⟩
            exact ⟨m', g.step ht', r⟩
          · rw [if_neg e1, if_neg e2]
            exact ⟨fun h => absurd rfl h, fun _ => (g2 (by rintro ⟨_, e⟩; rcases e with e | e; exact e1 e; exact e2 e)).step ht'⟩
    · by_cases h5 : classI (c.toNat : Int) = 5
      · rw [if_neg h2, if_neg h3, if_pos h5]
        have ht := hr.trans (k5 h5).1
        obtain ⟨g1, g2⟩ := do_text t 0 1 0 [] (by omega)
        unfold quotedL
        simp only [List.drop_succ_cons, List.drop_zero]
        have ht' : takeM m c = some ⟨0 + 10, 1⟩ := ht
        cases hq : (qGo 0 0 [] t).1 with
        | some x =>
          refine ⟨fun _ => ⟨_, (g1 (by rw [hq]; simp)).step ht', ready0 _ _⟩, fun h => by simp at h⟩
        | none =>
          exact ⟨fun h => absurd rfl h, fun _ => (g2 hq).step ht'⟩
      · by_cases h6 : classI (c.toNat : Int) = 6
        · rw [if_neg h2, if_neg h3, if_neg h5, if_pos h6]
          refine ⟨fun _ => ?_, fun h => by simp at h⟩
          rcases k6 h6 with ⟨e47, hbg⟩ | ⟨_, hbg⟩
          · refine ⟨_, (Goes.zero ⟨1, 1⟩ t).step (hr.trans hbg), ?_⟩
            have ec : c = 47 := by apply UInt8.toNat_inj.1; exact e47
            cases t with
            | nil => rfl
            | cons d t =>
              have hd : d ≠ 47 := fun e => hs ⟨ec, by rw [e]; rfl⟩
              simp [ready, takeM, hd]
          · exact ⟨_, (Goes.zero ⟨0, 1⟩ t).step (hr.trans hbg), ready0 _ _⟩
        · by_cases h78 : classI (c.toNat : Int) = 7 ∨ classI (c.toNat : Int) = 8
          · rw [if_neg h2, if_neg h3, if_neg h5, if_neg h6, if_pos h78]
            by_cases hh : t.head? = some 61
            · rw [if_pos hh]
              cases t with
              | nil => simp at hh
              | cons d t =>
                simp only [List.head?_cons, Option.some.injEq] at hh
                subst hh
                refine ⟨fun _ => ?_, fun h => by simp at h⟩
                rcases h78 with e | e
                · exact ⟨⟨0, 1⟩, ((Goes.zero ⟨0, 1⟩ t).step (m := ⟨14, 1⟩) (c := 61) (by simp [takeM])).step (hr.trans (k7 e)), ready0 _ _⟩
                · exact ⟨⟨0, 1⟩, ((Goes.zero ⟨0, 1⟩ t).step (m := ⟨15, 1⟩) (c := 61) (by simp [takeM])).step (hr.trans (k8 e)), ready0 _ _⟩
            · rw [if_neg hh]
              by_cases e7 : classI (c.toNat : Int) = 7
              · rw [if_pos e7]
                refine ⟨fun _ => ⟨_, (Goes.zero ⟨14, 1⟩ t).step (hr.trans (k7 e7)), ?_⟩, fun h => by simp at h⟩
                cases t with
                | nil => rfl
                | cons d t =>
                  have hd : d ≠ 61 := fun e => hh (by rw [e]; rfl)
                  simp [ready, takeM, hd]
              · rw [if_neg e7]
                refine ⟨fun h => absurd rfl h, fun _ => ?_⟩
                have e8 : classI (c.toNat : Int) = 8 := by omega
                refine Stops.step (hr.trans (k8 e8)) ?_
                cases t with
                | nil => exact Stops.last (by simp [finM])
                | cons d t =>
                  have hd : d ≠ 61 := fun e => hh (by rw [e]; rfl)
                  exact Stops.here (by simp [takeM, hd])
          · rw [if_neg h2, if_neg h3, if_neg h5, if_neg h6, if_neg h78]
            refine ⟨fun h => absurd rfl h, fun _ => Stops.here ?_⟩
            rw [hr]
            exact k0 (by omega)

theorem do_skip : ∀ (l : List UInt8), (∀ m, ready m l → ∃ m', Goes m l (skipN false l) m' ∧ ready m' (l.drop (skipN false l))) ∧ (∀ n, ∃ m', Goes ⟨2, n⟩ l (skipN true l) m' ∧ ready m' (l.drop (skipN true l)))
  | [] => ⟨fun m h => ⟨m, Goes.zero _ _, h⟩, fun n => ⟨⟨2, n⟩, Goes.zero _ _, rfl⟩⟩
  | c :: t => by
    obtain ⟨i1, i2⟩ := do_skip t
    constructor
    · intro m hr
      have hr' : takeM m c = begM c := hr
      rw [skipN]
      obtain ⟨_, _, _, _, _, k1, _, _, _, kb⟩ := class_of c
      split
      · rename_i hb
        obtain ⟨m', g, r⟩ := i1 ⟨0, 1⟩ (ready0 _ _)
        exact ⟨m', g.step (hr'.trans (k1 (kb.1 hb))), r⟩
      · split
        · rename_i hs
          obtain ⟨rfl, hh⟩ := hs
          obtain ⟨m', g, r⟩ := i2 1
          refine ⟨m', Goes.step (m1 := ⟨1, 1⟩) (hr'.trans (by decide)) ?_, r⟩
          cases t with
          | nil => simp at hh
          | cons d t =>
            simp only [List.head?_cons, Option.some.injEq] at hh
            subst hh
            refine ⟨g.1, ?_⟩
            have : runM ⟨1, 1⟩ (47 :: t) = runM ⟨2, 1⟩ (47 :: t) := by
              rw [run_cons (m' := ⟨2, 1⟩) (by simp [takeM]), run_cons (m := ⟨2, 1⟩) (m' := ⟨2, 1⟩) (by simp [takeM])]
            rw [this]
            exact g.2
        · exact ⟨m, Goes.zero _ _, hr⟩
    · intro n
      rw [skipN]
      split
      · rename_i h10
        obtain ⟨m', g, r⟩ := i1 ⟨0, n⟩ (ready0 _ _)
        exact ⟨m', g.step (by simp [takeM, h10]), r⟩
      · rename_i h10
        obtain ⟨m', g, r⟩ := i2 n
        exact ⟨m', g.step (by simp [takeM, h10]), r⟩
theorem skip_drop : ∀ (l : List UInt8) (b : Bool), skipN false (l.drop (skipN b l)) = 0
  | [], b => by cases b <;> simp [skipN]
  | c :: t, false => by
    rw [skipN]
    split
    · exact skip_drop t false
    · split
      · exact skip_drop t true
      · rename_i h1 h2
        rw [List.drop_zero, skipN, if_neg h1, if_neg h2]
  | c :: t, true => by
    rw [skipN]
    split
    · exact skip_drop t false
    · exact skip_drop t true
theorem skip_zero {c : UInt8} {t : List UInt8} (h : skipN false (c :: t) = 0) : blankB (c.toNat : Int) = false ∧ ¬ (c = 47 ∧ t.head? = some 47) := by
  rw [skipN] at h
  split at h
  · simp at h
  · rename_i hb
    split at h
    · simp at h
    · rename_i hs
      exact ⟨by simpa using hb, hs⟩
/-- the machine goes through a text just if it is scanned, and stops where the scan does -/
theorem run_scan : ∀ (n : Nat) (l : List UInt8) (p : Nat × Nat) (m : Mc), ready m l → l.length < n →
    ((scanF n l p).1 ≠ none → ∃ m', runM m l = (l.length, m') ∧ finM m' = []) ∧ ((scanF n l p).1 = none → ∃ k, Stops m l k ∧ (scanF n l p).2 = adv p (l.take k))
  | 0, _, _, _, _, h => by omega
  | n + 1, l, p, m, hr, hn => by
    obtain ⟨m1, g1, r1⟩ := (do_skip l).1 m hr
    have hsk := skip_le l false
    have hz := skip_drop l false
    rw [scanF]
    by_cases he : l.length ≤ skipN false l
    · rw [if_pos he]
      have e : skipN false l = l.length := by omega
      rw [e] at g1 r1
      rw [List.drop_length] at r1
      refine ⟨fun _ => ⟨m1, ?_, r1⟩, fun h => by simp at h⟩
      rw [g1.2, List.drop_length]
      simp [runM]
    · rw [if_neg he]
      have hdl : (l.drop (skipN false l)).length = l.length - skipN false l := List.length_drop
      generalize hr2 : l.drop (skipN false l) = r at r1 hz hdl
      cases r with
      | nil => simp at hdl; omega
      | cons c t =>
        obtain ⟨hb, hs⟩ := skip_zero hz
        obtain ⟨d1, d2⟩ := do_piece m1 c t r1 hb hs
        have hps := piece_size (c :: t)
        by_cases hk : (pieceL (c :: t)).kind = 0
        · rw [if_pos hk]
          refine ⟨fun h => absurd rfl h, fun _ => ⟨_, g1.stops (by rw [hr2]; exact d2 hk), rfl⟩⟩
        · rw [if_neg hk]
          obtain ⟨m2, g2, r2⟩ := d1 hk
          have g3 : Goes m l (skipN false l + (pieceL (c :: t)).size) m2 := g1.trans (by rw [hr2]; exact g2)
          have hd2 : l.drop (skipN false l + (pieceL (c :: t)).size) = (c :: t).drop (pieceL (c :: t)).size := by rw [← hr2, List.drop_drop]
          have h1 := hps.2 hk
          have ih := run_scan n (l.drop (skipN false l + (pieceL (c :: t)).size)) (adv p (l.take (skipN false l + (pieceL (c :: t)).size))) m2 (by rw [hd2]; exact r2) (by rw [List.length_drop]; omega)
          generalize hq : scanF n (l.drop (skipN false l + (pieceL (c :: t)).size)) (adv p (l.take (skipN false l + (pieceL (c :: t)).size))) = q at ih
          obtain ⟨a, b⟩ := q
          cases a with
          | some ts =>
            obtain ⟨m', e1, e2⟩ := ih.1 (by simp)
            refine ⟨fun _ => ⟨m', ?_, e2⟩, fun h => by simp at h⟩
            rw [g3.2, e1, List.length_drop]
            have := g3.1
            simp; omega
          | none =>
            obtain ⟨k, s, e⟩ := ih.2 rfl
            refine ⟨fun h => absurd rfl h, fun _ => ⟨_, g3.stops s, ?_⟩⟩
            simp only at e ⊢
            rw [e, ← adv_append]
            exact congrArg (adv p) List.take_add.symm
end Go.Proofs.Ytmglbcldjhdhkab

