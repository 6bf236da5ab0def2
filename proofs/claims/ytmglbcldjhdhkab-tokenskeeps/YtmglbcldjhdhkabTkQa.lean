/- The document's machine, told as a plain function; it takes just what the scan goes through. -/
import Derived.Test.YtmglbcldjhdhkabTkKb
namespace Go.Proofs.Ytmglbcldjhdhkab
open Go.PlainAid

/-- what is awaited, and how many bytes a row has -/
structure Mc where
  st : Int
  n : Int
def oneMark (c : UInt8) : Bool := c == 91 || c == 93 || c == 40 || c == 41 || c == 44 || c == 58 || c == 35 || c == 42 || c == 43 || c == 45
def begM (c : UInt8) : Option Mc :=
  if smallB (c.toNat : Int) then some ⟨3, 1⟩ else if digitB (c.toNat : Int) then some ⟨4, 1⟩ else if c = 34 then some ⟨10, 1⟩ else if c = 47 then some ⟨1, 1⟩ else if c = 61 ∨ c = 60 ∨ c = 62 then some ⟨14, 1⟩
  else if c = 33 then some ⟨15, 1⟩ else if blankB (c.toNat : Int) || oneMark c then some ⟨0, 1⟩ else none
def digM (m : Mc) (c : UInt8) : Option Mc :=
  if digitB (c.toNat : Int) then (if m.st = 5 then some ⟨6, m.n⟩ else if m.st = 7 ∨ m.st = 8 then some ⟨9, m.n⟩ else some m)
  else if m.st = 4 ∧ c = 46 then some ⟨5, m.n⟩ else if m.st = 6 ∧ c = 101 then some ⟨7, m.n⟩ else if m.st = 7 ∧ c = 45 then some ⟨8, m.n⟩
  else if (m.st = 4 ∨ m.st = 6 ∨ m.st = 9) ∧ smallB (c.toNat : Int) = false then begM c else none
def txtM (m : Mc) (c : UInt8) : Option Mc :=
  if m.st = 10 then (if c.toNat < 32 then none else some ⟨if c = 34 then 0 else if c = 92 then 11 else 10, m.n⟩)
  else if m.st = 11 then (if c = 34 ∨ c = 92 ∨ c = 110 ∨ c = 120 then some ⟨if c = 120 then 12 else 10, m.n⟩ else none)
  else if hexI (c.toNat : Int) < 0 then none else if m.st = 12 then some ⟨13, m.n⟩ else some ⟨10, m.n⟩
def takeM (m : Mc) (c : UInt8) : Option Mc :=
  if m.st = 0 then begM c
  else if m.st = 1 then (if c = 47 then some ⟨2, m.n⟩ else begM c)
  else if m.st = 2 then some ⟨if c = 10 then 0 else 2, m.n⟩
  else if m.st = 3 then (if nm c then (if m.n + 1 ≤ 32 then some ⟨3, m.n + 1⟩ else none) else begM c)
  else if m.st = 14 then (if c = 61 then some ⟨0, m.n⟩ else begM c)
  else if m.st = 15 then (if c = 61 then some ⟨0, m.n⟩ else none)
  else if m.st = 10 ∨ m.st = 11 ∨ m.st = 12 ∨ m.st = 13 then txtM m c
  else digM m c
def runM : Mc → List UInt8 → Nat × Mc
  | m, [] => (0, m)
  | m, c :: t => match takeM m c with
    | none => (0, m)
    | some m' => ((runM m' t).1 + 1, (runM m' t).2)
def finM (m : Mc) : List UInt8 :=
  if m.st = 5 ∨ m.st = 7 ∨ m.st = 8 then [48] else if m.st = 10 then [34] else if m.st = 11 then [110, 34] else if m.st = 12 then [48, 48, 34] else if m.st = 13 then [48, 34] else if m.st = 15 then [61] else []
/-- what comes next begins anew -/
def ready (m : Mc) : List UInt8 → Prop
  | [] => finM m = []
  | c :: _ => takeM m c = begM c
theorem ready0 (n : Int) : ∀ l, ready ⟨0, n⟩ l
  | [] => rfl
  | _ :: _ => rfl
theorem run_cons {m m' : Mc} {c : UInt8} {t : List UInt8} (h : takeM m c = some m') : runM m (c :: t) = ((runM m' t).1 + 1, (runM m' t).2) := by rw [runM, h]
theorem run_stop {m : Mc} {c : UInt8} {t : List UInt8} (h : takeM m c = none) : runM m (c :: t) = (0, m) := by rw [runM, h]

/-- the machine goes by k bytes of l, and is then m' -/
def Goes (m : Mc) (l : List UInt8) (k : Nat) (m' : Mc) : Prop := k ≤ l.length ∧ runM m l = ((runM m' (l.drop k)).1 + k, (runM m' (l.drop k)).2)
theorem Goes.zero (m : Mc) (l : List UInt8) : Goes m l 0 m := ⟨Nat.zero_le _, by simp⟩
theorem Goes.step {m m1 m2 : Mc} {c : UInt8} {t : List UInt8} {k : Nat} (h : takeM m c = some m1) (g : Goes m1 t k m2) : Goes m (c :: t) (k + 1) m2 := by
  refine ⟨by simpa using g.1, ?_⟩
  rw [run_cons h, g.2, List.drop_succ_cons]
  simp; omega
/-- it stops behind k bytes: a byte is refused, or the text ends where more must come -/
def Stops (m : Mc) (l : List UInt8) (k : Nat) : Prop := k ≤ l.length ∧ ∃ m', runM m l = (k, m') ∧ (k < l.length ∨ finM m' ≠ [])
theorem Stops.step {m m1 : Mc} {c : UInt8} {t : List UInt8} {k : Nat} (h : takeM m c = some m1) (g : Stops m1 t k) : Stops m (c :: t) (k + 1) := by
  obtain ⟨h1, m', h2, h3⟩ := g
  refine ⟨by simpa using h1, m', by rw [run_cons h, h2], ?_⟩
  rcases h3 with h3 | h3
  · left; simpa using h3
  · exact .inr h3
theorem Stops.here {m : Mc} {c : UInt8} {t : List UInt8} (h : takeM m c = none) : Stops m (c :: t) 0 := ⟨Nat.zero_le _, m, run_stop h, .inl (by simp)⟩
theorem Stops.last {m : Mc} (h : finM m ≠ []) : Stops m [] 0 := ⟨Nat.zero_le _, m, rfl, .inr h⟩
theorem Goes.stops {m m' : Mc} {l : List UInt8} {k j : Nat} (g : Goes m l k m') (s : Stops m' (l.drop k) j) : Stops m l (k + j) := by
  obtain ⟨h1, m2, h2, h3⟩ := s
  refine ⟨by have := g.1; rw [List.length_drop] at h1; omega, m2, by rw [g.2, h2, Nat.add_comm], ?_⟩
  rcases h3 with h3 | h3
  · left; rw [List.length_drop] at h3; omega
  · exact .inr h3
theorem Goes.trans {m m' m'' : Mc} {l : List UInt8} {k j : Nat} (g : Goes m l k m') (s : Goes m' (l.drop k) j m'') : Goes m l (k + j) m'' := by
  refine ⟨by have := g.1; have h1 := s.1; rw [List.length_drop] at h1; omega, ?_⟩
  rw [g.2, s.2, List.drop_drop]
  simp; omega
/-- what the machine does with a piece that is looked for -/
def Does (m : Mc) (l : List UInt8) (f : Fd) : Prop := (f.kind ≠ 0 → ∃ m', Goes m l f.size m' ∧ ready m' (l.drop f.size)) ∧ (f.kind = 0 → Stops m l f.size)

theorem do_row : ∀ (t : List UInt8) (n : Nat), n ≤ 32 → (n + rowN t ≤ 32 → Goes ⟨3, n⟩ t (rowN t) ⟨3, n + rowN t⟩ ∧ ready ⟨3, n + rowN t⟩ (t.drop (rowN t))) ∧ (32 < n + rowN t → Stops ⟨3, n⟩ t (32 - n))
  | [], n, _ => by simp [rowN, Goes, runM, ready, finM]; omega
  | c :: t, n, hn => by
    by_cases hc : nm c = true
    · have hr : rowN (c :: t) = rowN t + 1 := by simp [rowN, hc]
      rw [hr]
      constructor
      · intro h
        have ht : takeM ⟨3, n⟩ c = some ⟨3, ((n + 1 : Nat) : Int)⟩ := by simp [takeM, hc]; omega
        obtain ⟨g, r⟩ := (do_row t (n + 1) (by omega)).1 (by omega)
        have e : ((n + 1 : Nat) : Int) + (rowN t : Int) = (n : Int) + ((rowN t + 1 : Nat) : Int) := by omega
        rw [e] at g r
        exact ⟨g.step ht, r⟩
      · intro h
        by_cases h32 : n = 32
        · subst h32
          exact Stops.here (by simp [takeM, hc])
        · have ht : takeM ⟨3, n⟩ c = some ⟨3, ((n + 1 : Nat) : Int)⟩ := by simp [takeM, hc]; omega
          have g := (do_row t (n + 1) (by omega)).2 (by omega)
          have := g.step ht
          rwa [show 32 - (n + 1) + 1 = 32 - n by omega] at this
    · have hr : rowN (c :: t) = 0 := by simp [rowN, hc]
      rw [hr]
      refine ⟨fun _ => ⟨?_, ?_⟩, fun h => by omega⟩
      · simpa using Goes.zero ⟨3, (n : Int)⟩ (c :: t)
      · simp [ready, takeM, hc]
theorem dig_not_small {c : UInt8} (h : digitB (c.toNat : Int) = true) : smallB (c.toNat : Int) = false := by
  simp only [digitB, Bool.and_eq_true, decide_eq_true_eq] at h
  simp only [smallB, Bool.and_eq_false_iff, decide_eq_false_iff_not]
  omega
theorem beg_under : begM 95 = none := by decide
theorem not_nm {c : UInt8} (h : nm c = false) : smallB (c.toNat : Int) = false ∧ digitB (c.toNat : Int) = false := by
  simp only [nm, inNameB, Bool.or_eq_false_iff] at h
  exact ⟨h.1.1, h.1.2⟩
/-- one byte of a number -/
theorem dig_step (st : Int) (hs : 1 ≤ st ∧ st ≤ 6) (n : Int) (c : UInt8) : takeM ⟨st + 3, n⟩ c = if stepI st (c.toNat : Int) ≠ 0 then some ⟨stepI st (c.toNat : Int) + 3, n⟩ else if (st = 1 ∨ st = 3 ∨ st = 6) ∧ smallB (c.toNat : Int) = false then begM c else none := by
  have h1 : takeM ⟨st + 3, n⟩ c = digM ⟨st + 3, n⟩ c := by
    unfold takeM
    rw [if_neg (by simp; omega), if_neg (by simp; omega), if_neg (by simp; omega), if_neg (by simp; omega), if_neg (by simp; omega), if_neg (by simp; omega), if_neg (by simp; omega)]
  rw [h1]
  have hc46 : ((c.toNat : Int) = 46) ↔ c = 46 := ⟨fun e => by apply UInt8.toNat_inj.1; show c.toNat = 46; omega, fun e => by rw [e]; rfl⟩
  have hc101 : ((c.toNat : Int) = 101) ↔ c = 101 := ⟨fun e => by apply UInt8.toNat_inj.1; show c.toNat = 101; omega, fun e => by rw [e]; rfl⟩
  have hc45 : ((c.toNat : Int) = 45) ↔ c = 45 := ⟨fun e => by apply UInt8.toNat_inj.1; show c.toNat = 45; omega, fun e => by rw [e]; rfl⟩
  unfold digM stepI
  simp only [hc46, hc101, hc45]
  have h6 : st = 1 ∨ st = 2 ∨ st = 3 ∨ st = 4 ∨ st = 5 ∨ st = 6 := by omega
  cases hd : digitB (c.toNat : Int)
  · by_cases a46 : c = 46
    · subst a46
      rcases h6 with rfl | rfl | rfl | rfl | rfl | rfl <;> simp
    · by_cases a101 : c = 101
      · subst a101
        rcases h6 with rfl | rfl | rfl | rfl | rfl | rfl <;> simp [smallB]
      · by_cases a45 : c = 45
        · subst a45
          rcases h6 with rfl | rfl | rfl | rfl | rfl | rfl <;> simp
        · rcases h6 with rfl | rfl | rfl | rfl | rfl | rfl <;> simp [a46, a101, a45]
  · rcases h6 with rfl | rfl | rfl | rfl | rfl | rfl <;> simp
theorem step_range (st c : Int) (hs : 1 ≤ st ∧ st ≤ 6) (h : stepI st c ≠ 0) : 1 ≤ stepI st c ∧ stepI st c ≤ 6 := by
  have key : stepI st c = 0 ∨ (1 ≤ stepI st c ∧ stepI st c ≤ 6) := by
    unfold stepI
    repeat' split
    all_goals omega
  omega
theorem do_num : ∀ (t : List UInt8) (st : Int) (n : Int), 1 ≤ st ∧ st ≤ 6 →
    ((numGo st t).2.2 = false ∧ ((numGo st t).2.1 = 1 ∨ (numGo st t).2.1 = 3 ∨ (numGo st t).2.1 = 6) → ∃ m', Goes ⟨st + 3, n⟩ t (numGo st t).1 m' ∧ ready m' (t.drop (numGo st t).1)) ∧
    (¬ ((numGo st t).2.2 = false ∧ ((numGo st t).2.1 = 1 ∨ (numGo st t).2.1 = 3 ∨ (numGo st t).2.1 = 6)) → Stops ⟨st + 3, n⟩ t (numGo st t).1)
  | [], st, n, hs => by
    simp only [numGo]
    constructor
    · intro h
      refine ⟨_, Goes.zero _ _, ?_⟩
      have : st + 3 = 4 ∨ st + 3 = 6 ∨ st + 3 = 9 := by omega
      rcases this with e | e | e <;> simp [ready, finM, e]
    · intro h
      refine Stops.last ?_
      have h' : ¬ (st = 1 ∨ st = 3 ∨ st = 6) := fun e => h ⟨trivial, e⟩
      have : st = 2 ∨ st = 4 ∨ st = 5 := by omega
      rcases this with rfl | rfl | rfl <;> simp [finM]
  | c :: t, st, n, hs => by
    have hd := dig_step st hs n c
    rw [numGo]
    by_cases h0 : stepI st (c.toNat : Int) = 0
    · rw [if_pos h0]
      rw [if_neg (by simp [h0])] at hd
      simp only
      constructor
      · rintro ⟨h1, h2⟩
        refine ⟨_, Goes.zero _ _, ?_⟩
        rw [if_pos ⟨h2, (not_nm h1).1⟩] at hd
        simpa [ready] using hd
      · intro h
        refine Stops.here ?_
        rw [hd]
        by_cases hf : (st = 1 ∨ st = 3 ∨ st = 6) ∧ smallB (c.toNat : Int) = false
        · rw [if_pos hf]
          have hn : nm c = true := by
            cases e : nm c
            · exact absurd ⟨e, hf.1⟩ h
            · rfl
          have hdg : digitB (c.toNat : Int) = false := by
            cases e : digitB (c.toNat : Int)
            · rfl
            · unfold stepI at h0
              rw [if_pos e] at h0
              repeat' split at h0
              all_goals omega
          have h95 : c = 95 := by
            simp only [nm, inNameB, hf.2, hdg, Bool.false_or, beq_iff_eq] at hn
            apply UInt8.toNat_inj.1
            show c.toNat = 95
            omega
          rw [h95]
          exact beg_under
        · rw [if_neg hf]
    · rw [if_neg h0]
      rw [if_pos h0] at hd
      obtain ⟨g1, g2⟩ := do_num t (stepI st c.toNat) n (step_range st _ hs h0)
      simp only
      constructor
      · intro h
        obtain ⟨m', g, r⟩ := g1 h
        exact ⟨m', g.step hd, r⟩
      · intro h
        exact (g2 h).step hd
theorem do_text : ∀ (t : List UInt8) (st : Int) (n : Int) (d : UInt8) (acc : List UInt8), 0 ≤ st ∧ st ≤ 3 →
    ((qGo st d acc t).1 ≠ none → Goes ⟨st + 10, n⟩ t (qGo st d acc t).2 ⟨0, n⟩) ∧ ((qGo st d acc t).1 = none → Stops ⟨st + 10, n⟩ t (qGo st d acc t).2)
  | [], st, n, d, acc, hs => by
    simp only [qGo]
    refine ⟨fun h => absurd rfl h, fun _ => Stops.last ?_⟩
    have : st = 0 ∨ st = 1 ∨ st = 2 ∨ st = 3 := by omega
    rcases this with rfl | rfl | rfl | rfl <;> simp [finM]
  | c :: t, st, n, d, acc, hs => by
    have ht : takeM ⟨st + 10, n⟩ c = txtM ⟨st + 10, n⟩ c := by
      unfold takeM
      rw [if_neg (by simp; omega), if_neg (by simp; omega), if_neg (by simp; omega), if_neg (by simp; omega), if_neg (by simp; omega), if_neg (by simp; omega), if_pos (by simp; omega)]
    rw [qGo]
    by_cases hq : st = 0 ∧ c = 34
    · rw [if_pos hq]
      obtain ⟨rfl, rfl⟩ := hq
      refine ⟨fun _ => Goes.step (m1 := ⟨0, n⟩) (by rw [ht]; simp [txtM]) (Goes.zero _ _), fun h => by simp at h⟩
    · rw [if_neg hq]
      have key : (qStep st d acc c = none ∧ takeM ⟨st + 10, n⟩ c = none) ∨ ∃ st' d' acc', qStep st d acc c = some (st', d', acc') ∧ (0 ≤ st' ∧ st' ≤ 3) ∧ takeM ⟨st + 10, n⟩ c = some ⟨st' + 10, n⟩ := by
        rw [ht]
        have h4 : st = 0 ∨ st = 1 ∨ st = 2 ∨ st = 3 := by omega
        unfold qStep txtM
        rcases h4 with rfl | rfl | rfl | rfl
        · have hc : c ≠ 34 := fun e => hq ⟨rfl, e⟩
          by_cases h92 : c = 92
          · subst h92; right; exact ⟨1, d, acc, by simp, by omega, by simp⟩
          · by_cases h32 : c.toNat < 32
            · left; simp [hc, h92, h32]
            · right; exact ⟨0, d, acc ++ [c], by simp [hc, h92, h32], by omega, by simp [hc, h92, h32]⟩
        · by_cases h1 : c = 34 ∨ c = 92
          · right; refine ⟨0, d, acc ++ [c], by simp [h1], by omega, ?_⟩
            rcases h1 with rfl | rfl <;> simp
          · by_cases h2 : c = 110
            · subst h2; right; exact ⟨0, d, acc ++ [10], by simp, by omega, by simp⟩
            · by_cases h3 : c = 120
              · subst h3; right; exact ⟨2, d, acc, by simp, by omega, by simp⟩
              · left
                have h1' : ¬ (c = 34) ∧ ¬ (c = 92) := ⟨fun e => h1 (.inl e), fun e => h1 (.inr e)⟩
                simp [h1', h2, h3]
        · by_cases hx : hexI (c.toNat : Int) < 0
          · left; simp [hx]
          · right; exact ⟨3, (hexI c.toNat).toNat.toUInt8, acc, by simp [hx], by omega, by simp [hx]⟩
        · by_cases hx : hexI (c.toNat : Int) < 0
          · left; simp [hx]
          · right; exact ⟨0, d, acc ++ [(d <<< 4) ||| (hexI c.toNat).toNat.toUInt8], by simp [hx], by omega, by simp [hx]⟩
      rcases key with ⟨e1, e2⟩ | ⟨st', d', acc', e1, e2, e3⟩
      · rw [e1]
        exact ⟨fun h => absurd rfl h, fun _ => Stops.here e2⟩
      · rw [e1]
        obtain ⟨g1, g2⟩ := do_text t st' n d' acc' e2
        exact ⟨fun h => (g1 h).step e3, fun h => (g2 h).step e3⟩
end Go.Proofs.Ytmglbcldjhdhkab

