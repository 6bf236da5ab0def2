/- Graphs, told plainly: what leads to what, what a walk with a list of what waits marks, what a walk into the depth leaves. -/
import Derived.PlainAid

namespace Go.Proofs.Ytmlpkjeaieljfab

/-- an arc between nodes -/
structure Ar where
  f : Nat
  t : Nat
  g : Bool

instance : Inhabited Ar := ⟨⟨0, 0, false⟩⟩

/-- an arc leads from a to b -/
def Ec (A : List Ar) (a b : Nat) : Prop := ∃ x ∈ A, x.f = a ∧ x.t = b

inductive Rch (E : Nat → Nat → Prop) (a : Nat) : Nat → Prop
  | refl : Rch E a a
  | tail {b c : Nat} : Rch E a b → E b c → Rch E a c

theorem Rch.trans {E : Nat → Nat → Prop} {a b c : Nat} (h : Rch E a b) (k : Rch E b c) : Rch E a c := by
  induction k with
  | refl => exact h
  | tail _ e ih => exact ih.tail e
theorem Rch.one {E : Nat → Nat → Prop} {a b : Nat} (h : E a b) : Rch E a b := Rch.refl.tail h
theorem Rch.head {E : Nat → Nat → Prop} {a b c : Nat} (h : E a b) (k : Rch E b c) : Rch E a c := (Rch.one h).trans k
theorem Rch.turn {E : Nat → Nat → Prop} {a b : Nat} (h : Rch (fun x y => E y x) a b) : Rch E b a := by
  induction h with
  | refl => exact .refl
  | tail _ e ih => exact .head e ih
theorem Rch.turn' {E : Nat → Nat → Prop} {a b : Nat} (h : Rch E a b) : Rch (fun x y => E y x) b a := by
  induction h with
  | refl => exact .refl
  | tail _ e ih => exact .head e ih
theorem Rch.mono {E F : Nat → Nat → Prop} (hEF : ∀ a b, E a b → F a b) {a b : Nat} (h : Rch E a b) : Rch F a b := by
  induction h with
  | refl => exact .refl
  | tail _ e ih => exact ih.tail (hEF _ _ e)
theorem Rch.congr {E F : Nat → Nat → Prop} (hEF : ∀ a b, E a b ↔ F a b) {a b : Nat} : Rch E a b ↔ Rch F a b :=
  ⟨Rch.mono fun a b => (hEF a b).1, Rch.mono fun a b => (hEF a b).2⟩
/-- what is reached and closed -/
theorem Rch.closed {E : Nat → Nat → Prop} {M : Nat → Prop} (hM : ∀ x y, M x → E x y → M y) {a b : Nat} (h : Rch E a b) (ha : M a) : M b := by
  induction h with
  | refl => exact ha
  | tail _ e ih => exact hM _ _ ih e
theorem Rch.lt {E : Nat → Nat → Prop} {n a b : Nat} (hE : ∀ x y, E x y → x < n ∧ y < n) (h : Rch E a b) (ha : a < n) : b < n := by
  induction h with
  | refl => exact ha
  | tail _ e _ => exact (hE _ _ e).2

/-- each is reached from the other -/
def Mut (E : Nat → Nat → Prop) (a b : Nat) : Prop := Rch E a b ∧ Rch E b a
theorem Mut.refl {E : Nat → Nat → Prop} (a : Nat) : Mut E a a := ⟨.refl, .refl⟩
theorem Mut.symm {E : Nat → Nat → Prop} {a b : Nat} (h : Mut E a b) : Mut E b a := ⟨h.2, h.1⟩
theorem Mut.trans {E : Nat → Nat → Prop} {a b c : Nat} (h : Mut E a b) (k : Mut E b c) : Mut E a c := ⟨h.1.trans k.1, k.2.trans h.2⟩

/-- reached from s by nodes of which M says no -/
inductive RM (E : Nat → Nat → Prop) (M : Nat → Prop) (s : Nat) : Nat → Prop
  | refl : ¬ M s → RM E M s s
  | tail {b c : Nat} : RM E M s b → E b c → ¬ M c → RM E M s c

theorem RM.not {E : Nat → Nat → Prop} {M : Nat → Prop} {s x : Nat} (h : RM E M s x) : ¬ M x := by cases h <;> assumption
theorem RM.not0 {E : Nat → Nat → Prop} {M : Nat → Prop} {s x : Nat} (h : RM E M s x) : ¬ M s := by
  induction h with
  | refl h => exact h
  | tail _ _ _ ih => exact ih
theorem RM.rch {E : Nat → Nat → Prop} {M : Nat → Prop} {s x : Nat} (h : RM E M s x) : Rch E s x := by
  induction h with
  | refl => exact .refl
  | tail _ e _ ih => exact ih.tail e
/-- where M is closed, what is reached is M's or goes by none of M's -/
theorem rm_of_rch {E : Nat → Nat → Prop} {M : Nat → Prop} (hM : ∀ x y, M x → E x y → M y) {s x : Nat} (h : Rch E s x) : M x ∨ RM E M s x := by
  induction h with
  | refl => by_cases h : M s; exact .inl h; exact .inr (.refl h)
  | @tail b c _ e ih =>
    by_cases hc : M c
    · exact .inl hc
    · rcases ih with h | h
      · exact absurd (hM _ _ h e) hc
      · exact .inr (h.tail e hc)

/-- a walk with a list of what waits: m is marked, W waits, k is being looked at and its targets P are marked -/
structure Wk (E : Nat → Nat → Prop) (M : Nat → Prop) (s : Nat) (m : Nat → Prop) (W : List Nat) (k : Option Nat) (P : List Nat) : Prop where
  old : ∀ x, M x → m x
  new : ∀ x, m x → M x ∨ RM E M s x
  wait : ∀ x ∈ W, m x ∧ ¬ M x
  shut : ∀ x, m x → M x ∨ x ∈ W ∨ some x = k ∨ ∀ y, E x y → m y
  at_ : ∀ x, k = some x → m x ∧ ¬ M x
  done : ∀ y ∈ P, m y

theorem Wk.start {E : Nat → Nat → Prop} {M : Nat → Prop} {s : Nat} (h : ¬ M s) : Wk E M s (fun x => M x ∨ x = s) [s] none [] where
  old x h := .inl h
  new x hx := by rcases hx with h1 | rfl; exact .inl h1; exact .inr (.refl h)
  wait x hx := by simp at hx; subst hx; exact ⟨.inr rfl, h⟩
  shut x hx := by rcases hx with h1 | rfl; exact .inl h1; exact .inr (.inl (by simp))
  at_ x hx := by cases hx
  done y hy := by cases hy

theorem Wk.congr {E : Nat → Nat → Prop} {M m m' : Nat → Prop} {s : Nat} {W : List Nat} {k : Option Nat} {P : List Nat} (h : Wk E M s m W k P) (e : ∀ x, m x ↔ m' x) : Wk E M s m' W k P := by
  have : m = m' := funext fun x => propext (e x)
  subst this; exact h

/-- the last that waits is taken -/
theorem Wk.take {E : Nat → Nat → Prop} {M m : Nat → Prop} {s k : Nat} {W P : List Nat} (h : Wk E M s m (W ++ [k]) none P) : Wk E M s m W (some k) [] where
  old := h.old
  new := h.new
  wait x hx := h.wait x (by simp [hx])
  shut x hx := by
    rcases h.shut x hx with h1 | h1 | h1 | h1
    · exact .inl h1
    · simp at h1
      rcases h1 with h1 | rfl
      · exact .inr (.inl h1)
      · exact .inr (.inr (.inl rfl))
    · cases h1
    · exact .inr (.inr (.inr h1))
  at_ x hx := by cases hx; exact h.wait k (by simp)
  done y hy := by cases hy

/-- a target that is marked already -/
theorem Wk.skip {E : Nat → Nat → Prop} {M m : Nat → Prop} {s k y : Nat} {W P : List Nat} (h : Wk E M s m W (some k) P) (hy : m y) : Wk E M s m W (some k) (P ++ [y]) where
  old := h.old
  new := h.new
  wait := h.wait
  shut := h.shut
  at_ := h.at_
  done z hz := by simp at hz; rcases hz with hz | rfl; exact h.done z hz; exact hy

/-- a target that is new -/
theorem Wk.mark {E : Nat → Nat → Prop} {M m : Nat → Prop} {s k y : Nat} {W P : List Nat} (h : Wk E M s m W (some k) P) (hy : ¬ m y) (e : E k y) : Wk E M s (fun x => m x ∨ x = y) (W ++ [y]) (some k) (P ++ [y]) where
  old x hx := .inl (h.old x hx)
  new x hx := by
    rcases hx with hx | rfl
    · exact h.new x hx
    · have hk := h.at_ k rfl
      rcases h.new k hk.1 with h1 | h1
      · exact absurd h1 hk.2
      · exact .inr (h1.tail e (fun hM => hy (h.old _ hM)))
  wait x hx := by
    simp at hx
    rcases hx with hx | rfl
    · exact ⟨.inl (h.wait x hx).1, (h.wait x hx).2⟩
    · exact ⟨.inr rfl, fun hM => hy (h.old _ hM)⟩
  shut x hx := by
    rcases hx with hx | rfl
    · rcases h.shut x hx with h1 | h1 | h1 | h1
      · exact .inl h1
      · exact .inr (.inl (by simp [h1]))
      · exact .inr (.inr (.inl h1))
      · exact .inr (.inr (.inr fun y hy => .inl (h1 y hy)))
    · exact .inr (.inl (by simp))
  at_ x hx := ⟨.inl (h.at_ x hx).1, (h.at_ x hx).2⟩
  done z hz := by simp at hz; rcases hz with hz | rfl; exact .inl (h.done z hz); exact .inr rfl

/-- all its targets are marked -/
theorem Wk.left {E : Nat → Nat → Prop} {M m : Nat → Prop} {s k : Nat} {W P : List Nat} (h : Wk E M s m W (some k) P) (hP : ∀ y, E k y → y ∈ P) : Wk E M s m W none [] where
  old := h.old
  new := h.new
  wait := h.wait
  shut x hx := by
    rcases h.shut x hx with h1 | h1 | h1 | h1
    · exact .inl h1
    · exact .inr (.inl h1)
    · cases h1; exact .inr (.inr (.inr fun y hy => h.done y (hP y hy)))
    · exact .inr (.inr (.inr h1))
  at_ x hx := by cases hx
  done y hy := by cases hy

/-- nothing waits: the marks are what was marked and what is reached -/
theorem Wk.stop {E : Nat → Nat → Prop} {M m : Nat → Prop} {s : Nat} {P : List Nat} (h : Wk E M s m [] none P) (hs : m s) (x : Nat) : m x ↔ M x ∨ RM E M s x := by
  refine ⟨h.new x, fun hx => ?_⟩
  rcases hx with hx | hx
  · exact h.old x hx
  · induction hx with
    | refl => exact hs
    | tail hb e hc ih =>
      rcases h.shut _ ih with h1 | h1 | h1 | h1
      · exact absurd h1 hb.not
      · cases h1
      · cases h1
      · exact h1 _ e

/-- a walk into the depth: D is done, in this order, St are on its way -/
structure Df (E : Nat → Nat → Prop) (D St : List Nat) : Prop where
  nodup : (D ++ St).Nodup
  out : ∀ d ∈ D, ∀ v, E d v → v ∈ D ∨ v ∈ St
  chain : St.Pairwise (Rch E)
  ring : ∀ x ∈ D, (∃ s ∈ St, Rch E x s) → ∃ s ∈ St, Mut E s x
  kos : ∀ pre w post, D = pre ++ w :: post → ∀ x ∈ pre, Rch E x w → ∃ y, y ∉ pre ∧ Mut E y x

theorem Df.start {E : Nat → Nat → Prop} : Df E [] [] where
  nodup := by simp
  out d hd := by cases hd
  chain := by simp
  ring x hx := by cases hx
  kos pre w post h := by cases pre <;> cases h

/-- what is done leads out only by what is on the way -/
theorem Df.leads {E : Nat → Nat → Prop} {D St : List Nat} (h : Df E D St) {x t : Nat} (hx : x ∈ D) (hr : Rch E x t) : t ∈ D ∨ ∃ s ∈ St, Rch E x s := by
  induction hr with
  | refl => exact .inl hx
  | tail hb e ih =>
    rcases ih with ih | ih
    · rcases h.out _ ih _ e with h1 | h1
      · exact .inl h1
      · exact .inr ⟨_, h1, hb.tail e⟩
    · exact .inr ih

/-- a new node is entered -/
theorem Df.push {E : Nat → Nat → Prop} {D St : List Nat} (h : Df E D St) {t : Nat} (hD : t ∉ D) (hS : t ∉ St) (hr : ∀ s ∈ St, Rch E s t) : Df E D (St ++ [t]) where
  nodup := by
    rw [← List.append_assoc, List.nodup_append]
    refine ⟨h.nodup, by simp, fun a ha b hb => ?_⟩
    simp at ha hb
    subst hb
    rintro rfl
    rcases ha with ha | ha
    · exact hD ha
    · exact hS ha
  out d hd v hv := by
    rcases h.out d hd v hv with h1 | h1
    · exact .inl h1
    · exact .inr (by simp [h1])
  chain := by
    rw [List.pairwise_append]
    exact ⟨h.chain, by simp, fun a ha b hb => by simp at hb; subst hb; exact hr a ha⟩
  ring x hx hs := by
    obtain ⟨s, hs, hxs⟩ := hs
    have : ∃ s ∈ St, Rch E x s := by
      simp at hs
      rcases hs with hs | rfl
      · exact ⟨s, hs, hxs⟩
      · rcases h.leads hx hxs with h1 | h1
        · exact absurd h1 hD
        · exact h1
    obtain ⟨s', h1, h2⟩ := h.ring x hx this
    exact ⟨s', by simp [h1], h2⟩
  kos := h.kos

/-- the last one is done -/
theorem Df.pop {E : Nat → Nat → Prop} {D St : List Nat} {t : Nat} (h : Df E D (St ++ [t])) (ho : ∀ v, E t v → v ∈ D ∨ v ∈ St ++ [t]) : Df E (D ++ [t]) St where
  nodup := by
    have := h.nodup
    rw [List.append_assoc]
    refine this.perm ?_ 
    exact (List.perm_append_comm (l₁ := St) (l₂ := [t])).append_left D
  out d hd v hv := by
    simp at hd
    have : v ∈ D ∨ v ∈ St ++ [t] := by
      rcases hd with hd | rfl
      · exact h.out d hd v hv
      · exact ho v hv
    simp at this ⊢
    rcases this with h1 | h1 | h1
    · exact .inl (.inl h1)
    · exact .inr h1
    · exact .inl (.inr h1)
  chain := (List.pairwise_append.1 h.chain).1
  ring x hx hs := by
    obtain ⟨s, hs, hxs⟩ := hs
    have hst : Rch E s t := (List.pairwise_append.1 h.chain).2.2 s hs t (by simp)
    simp at hx
    rcases hx with hx | rfl
    · obtain ⟨s', h1, h2⟩ := h.ring x hx ⟨s, by simp [hs], hxs⟩
      simp at h1
      rcases h1 with h1 | rfl
      · exact ⟨s', h1, h2⟩
      · exact ⟨s, hs, hst.trans h2.1, hxs⟩
    · exact ⟨s, hs, hst, hxs⟩
  kos pre w post hD x hx hxw := by
    rcases List.eq_nil_or_concat post with rfl | ⟨post', z, rfl⟩
    · obtain ⟨rfl, he⟩ := List.append_inj' hD rfl
      cases he
      obtain ⟨s', h1, h2⟩ := h.ring x hx ⟨t, by simp, hxw⟩
      refine ⟨s', fun hm => ?_, h2⟩
      have := h.nodup
      rw [List.nodup_append] at this
      exact this.2.2 s' hm s' h1 rfl
    · have hD' : D ++ [t] = (pre ++ w :: post') ++ [z] := by rw [hD]; simp
      obtain ⟨rfl, _⟩ := List.append_inj' hD' rfl
      exact h.kos pre w post' rfl x hx hxw

/-- of what is unmarked, what leads to the last one done is in its part -/
theorem kos_part {E : Nat → Nat → Prop} {n : Nat} (hE : ∀ x y, E x y → x < n ∧ y < n) {pre post : List Nat} {k : Nat} {M : Nat → Prop} (h : ∀ x ∈ pre, Rch E x k → ∃ y, y ∉ pre ∧ Mut E y x) (hall : ∀ x, x < n → x ∈ pre ++ k :: post)
    (hM : ∀ x, x ∈ post → M x) (hcl : ∀ x y, M x → Mut E x y → M y) (hk : ¬ M k) (hkn : k < n) (x : Nat) : RM (fun a b => E b a) M k x ↔ Mut E k x := by
  constructor
  · intro hx
    have hr : Rch E x k := hx.rch.turn
    have hxn : x < n := Rch.lt (E := fun a b => E b a) (fun a b h => ⟨(hE b a h).2, (hE b a h).1⟩) hx.rch hkn
    have hmem := hall x hxn
    simp at hmem
    rcases hmem with h1 | rfl | h1
    · obtain ⟨y, hy, hm⟩ := h x h1 hr
      have hyn : y < n := Rch.lt hE hm.2 hxn
      have := hall y hyn
      simp at this
      rcases this with h2 | rfl | h2
      · exact absurd h2 hy
      · exact hm
      · exact absurd (hcl y x (hM y h2) hm) hx.not
    · exact Mut.refl _
    · exact absurd (hM x h1) hx.not
  · intro hm
    have hp : Rch (fun a b => E b a) k x := hm.2.turn'
    have : ∀ z, Rch (fun a b => E b a) k z → Rch (fun a b => E b a) z x → RM (fun a b => E b a) M k z := by
      intro z h1
      induction h1 with
      | refl => intro _; exact .refl hk
      | @tail b c hb e ih =>
        intro h2
        refine (ih (.head e h2)).tail e fun hM' => hk ?_
        have hc : Mut E c k := ⟨(hb.tail e).turn, hm.1.trans h2.turn⟩
        exact hcl c k hM' hc
    exact this x hp .refl

end Go.Proofs.Ytmlpkjeaieljfab

/- Arcs sorted by where they come from: how many come from lesser nodes. -/
namespace Go.Proofs.Ytmlpkjeaieljfab

/-- how many arcs come from nodes below k -/
def low (A : List Ar) (k : Nat) : Nat := A.countP fun a => decide (a.f < k)
/-- how many arcs come from k -/
def num (A : List Ar) (k : Nat) : Nat := A.countP fun a => decide (a.f = k)

theorem low_le (A : List Ar) (k : Nat) : low A k ≤ A.length := List.countP_le_length
theorem num_le (A : List Ar) (k : Nat) : num A k ≤ A.length := List.countP_le_length
theorem low_zero (A : List Ar) : low A 0 = 0 := by simp [low]
theorem low_succ (A : List Ar) (k : Nat) : low A (k + 1) = low A k + num A k := by
  induction A with
  | nil => rfl
  | cons a A ih =>
    simp only [low, num, List.countP_cons] at ih ⊢
    rw [ih]
    by_cases h1 : a.f < k
    · have h2 : a.f < k + 1 := by omega
      have h3 : ¬ a.f = k := by omega
      simp [h1, h2, h3]; omega
    · by_cases h2 : a.f = k
      · have h3 : a.f < k + 1 := by omega
        simp [h2]; omega
      · have h3 : ¬ a.f < k + 1 := by omega
        simp [h1, h2, h3]
theorem num_snoc (A : List Ar) (a : Ar) (k : Nat) : num (A ++ [a]) k = num A k + if a.f = k then 1 else 0 := by
  simp [num, List.countP_append, List.countP_singleton]
theorem low_all (A : List Ar) (n : Nat) (h : ∀ a ∈ A, a.f < n) : low A n = A.length := by
  unfold low
  rw [List.countP_eq_length]
  intro a ha
  simpa using h a ha

/-- in a sorted list those from below k stand ahead -/
theorem low_at (A : List Ar) (hs : A.Pairwise fun a b => a.f ≤ b.f) (k i : Nat) (hi : i < A.length) : A[i].f < k ↔ i < low A k := by
  induction A generalizing i with
  | nil => simp at hi
  | cons a A ih =>
    rw [List.pairwise_cons] at hs
    have hl : low (a :: A) k = low A k + if a.f < k then 1 else 0 := by simp [low, List.countP_cons]
    rw [hl]
    cases i with
    | zero =>
      simp only [List.getElem_cons_zero]
      by_cases h : a.f < k
      · simp [h]
      · have h0 : low A k = 0 := by
          unfold low
          rw [List.countP_eq_zero]
          intro b hb
          have := hs.1 b hb
          simp
          omega
        simp [h, h0]
    | succ i =>
      simp only [List.getElem_cons_succ]
      have hi' : i < A.length := by simpa using hi
      rw [ih hs.2 i hi']
      by_cases h : a.f < k
      · simp [h]
      · have h0 : low A k = 0 := by
          unfold low
          rw [List.countP_eq_zero]
          intro b hb
          have := hs.1 b hb
          simp
          omega
        simp [h, h0]

/-- where each node's arcs begin -/
structure GrOk (n : Nat) (A : List Ar) (F : List Nat) : Prop where
  len : F.length = n + 1
  at_ : ∀ k, k ≤ n → F.getD k 0 = low A k
  sort : A.Pairwise fun a b => a.f ≤ b.f
  node : ∀ a ∈ A, a.f < n ∧ a.t < n

theorem GrOk.mono {n : Nat} {A : List Ar} {F : List Nat} (h : GrOk n A F) (k : Nat) (hk : k < n) : F.getD k 0 ≤ F.getD (k + 1) 0 := by
  rw [h.at_ k (by omega), h.at_ (k + 1) (by omega), low_succ]; omega
theorem GrOk.le {n : Nat} {A : List Ar} {F : List Nat} (h : GrOk n A F) (k : Nat) (hk : k ≤ n) : F.getD k 0 ≤ A.length := by
  rw [h.at_ k hk]; exact low_le A k
theorem GrOk.from {n : Nat} {A : List Ar} {F : List Nat} (h : GrOk n A F) (k i : Nat) (hk : k < n) (hi : i < A.length) : A[i].f = k ↔ F.getD k 0 ≤ i ∧ i < F.getD (k + 1) 0 := by
  rw [h.at_ k (by omega), h.at_ (k + 1) (by omega), ← low_at A h.sort (k + 1) i hi]
  have := low_at A h.sort k i hi
  omega

/-- the arcs that leave a node -/
def outL (A : List Ar) (F : List Nat) (k : Nat) : List Ar := (A.take (F.getD (k + 1) 0)).drop (F.getD k 0)
theorem GrOk.out {n : Nat} {A : List Ar} {F : List Nat} (h : GrOk n A F) (k : Nat) (hk : k < n) (a : Ar) : a ∈ outL A F k ↔ a ∈ A ∧ a.f = k := by
  unfold outL
  have hfr := fun i (hi : i < A.length) => h.from k i hk hi
  have hlen := h.le (k + 1) hk
  generalize F.getD k 0 = p at *
  generalize F.getD (k + 1) 0 = q at *
  constructor
  · intro ha
    obtain ⟨i, hi, rfl⟩ := List.getElem_of_mem ha
    simp at hi
    have hi2 : p + i < A.length := by omega
    simp only [List.getElem_drop, List.getElem_take]
    exact ⟨List.getElem_mem _, (hfr _ hi2).2 ⟨by omega, by omega⟩⟩
  · rintro ⟨ha, hf⟩
    obtain ⟨i, hi, rfl⟩ := List.getElem_of_mem ha
    have := (hfr i hi).1 hf
    rw [List.mem_drop_iff_getElem]
    refine ⟨i - p, by simp; omega, ?_⟩
    simp only [List.getElem_take]
    congr 1
    omega
end Go.Proofs.Ytmlpkjeaieljfab

