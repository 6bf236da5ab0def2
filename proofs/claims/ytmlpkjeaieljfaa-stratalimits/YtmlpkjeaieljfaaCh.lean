/- A long chain: its numbers, its strata, what it reaches. -/
import Derived.Test.YtmlpkjeaieljfaaAn
namespace Go.Proofs.Ytmlpkjeaieljfaa

/-- arcs from each node to the next one -/
structure Chain (A : List Ar) : Prop where
  next : ∀ a ∈ A, a.t = a.f + 1 ∧ a.f < 4095
  all : ∀ k, k < 4095 → ∃ a ∈ A, a.f = k
theorem Chain.node {A : List Ar} (h : Chain A) : ∀ a ∈ A, a.f < 4096 ∧ a.t < 4096 := fun a ha => by
  have := h.next a ha
  omega
theorem Chain.ec {A : List Ar} (h : Chain A) {x y : Nat} : Ec A x y ↔ x < 4095 ∧ y = x + 1 := by
  constructor
  · rintro ⟨a, ha, rfl, rfl⟩
    have := h.next a ha
    omega
  · rintro ⟨hx, rfl⟩
    obtain ⟨a, ha, rfl⟩ := h.all x hx
    exact ⟨a, ha, rfl, (h.next a ha).1⟩
theorem Chain.le {A : List Ar} (h : Chain A) {x y : Nat} (hr : Rch (Ec A) x y) : x ≤ y := by
  induction hr with
  | refl => exact Nat.le_refl _
  | tail _ e ih => have := h.ec.1 e; omega
theorem Chain.num {A : List Ar} (h : Chain A) : Numbered (Ec A) 4096 (fun x => 4095 - x) := by
  refine ⟨fun x y hx hy => ?_, fun x hx k hk => ?_, fun x y hxy => ?_, fun x z hx hz hxz hrd => ?_⟩
  · constructor
    · intro e
      have : x = y := by omega
      rw [this]
      exact Mut.refl y
    · intro e
      have h1 := h.le e.1
      have h2 := h.le e.2
      omega
  · exact ⟨4095 - k, by omega, by omega⟩
  · have := h.ec.1 hxy
    omega
  · refine ⟨x, hx, rfl, ?_⟩
    by_cases hz2 : z = 4095
    · omega
    · rcases hrd z (z + 1) (Mut.refl z) (h.ec.2 ⟨by omega, rfl⟩) with e | e
      · omega
      · have := h.le e.1; omega
theorem Chain.parts {A : List Ar} (h : Chain A) {p : List Nat} (hp : Numbered (Ec A) 4096 (fun x => p.getD x 0)) : ∀ x, x < 4096 → p.getD x 0 = 4095 - x := fun x hx => hp.uniq (ec_lt h.node) h.num x hx
theorem Chain.noBad {A : List Ar} (h : Chain A) {p : List Nat} (hp : Numbered (Ec A) 4096 (fun x => p.getD x 0)) : NoBad A (fun x => p.getD x 0) := fun a ha _ e => by
  have h1 := h.next a ha
  have h2 := h.parts hp a.f (by omega)
  have h3 := h.parts hp a.t (by omega)
  simp only at e
  omega
theorem Chain.bad {A : List Ar} (h : Chain A) {p : List Nat} (hp : Numbered (Ec A) 4096 (fun x => p.getD x 0)) : badL p A = -1 := by
  rcases badL_spec p _ A rfl with ⟨h1, _⟩ | ⟨a, ha, h1, _, _⟩
  · exact h1
  · exact absurd h1.2 (h.noBad hp a ha h1.1)
theorem Chain.rch {A : List Ar} (h : Chain A) (x : Nat) : Rch (Ec A) 4094 x ↔ x = 4094 ∨ x = 4095 := by
  constructor
  · intro hr
    have h1 := h.le hr
    have : x < 4096 := Rch.lt (ec_lt h.node) hr (by omega)
    omega
  · rintro (rfl | rfl)
    · exact .refl
    · exact .one (h.ec.2 ⟨by omega, rfl⟩)
/-- how many of the first ones are taken away -/
def cN (i : Nat) : Nat := 2 * (i / 3) + (i % 3) / 2
theorem cN_next (i : Nat) : cN (i + 1) = cN i + if 0 < i % 3 then 1 else 0 := by
  unfold cN
  have : i % 3 = 0 ∨ i % 3 = 1 ∨ i % 3 = 2 := by omega
  rcases this with e | e | e
  · rw [if_neg (by omega)]; omega
  · rw [if_pos (by omega)]; omega
  · rw [if_pos (by omega)]; omega
theorem cN_le (i : Nat) (h : i ≤ 4095) : cN i ≤ 2730 := by
  unfold cN
  omega
theorem Chain.least {A : List Ar} (h : Chain A) (hg : ∀ a ∈ A, a.g = decide (0 < a.f % 3)) : Least A 4096 (fun x => 2730 - cN x) := by
  have hng : ∀ a ∈ A, ngN a.g = if 0 < a.f % 3 then 1 else 0 := fun a ha => by
    rw [hg a ha]
    unfold ngN
    simp
  refine ⟨fun a ha => ?_, fun t ht x hx => ?_⟩
  · have h1 := h.next a ha
    have h2 := cN_next a.f
    have h3 := cN_le (a.f + 1) (by omega)
    rw [hng a ha, h1.1]
    omega
  · have key : ∀ d x, x + d = 4095 → 2730 - cN x ≤ t x := by
      intro d
      induction d with
      | zero =>
        intro x hx
        obtain rfl : x = 4095 := by omega
        have : cN 4095 = 2730 := by decide
        omega
      | succ d ih =>
        intro x hx
        have h1 := ih (x + 1) (by omega)
        obtain ⟨a, ha, rfl⟩ := h.all x (by omega)
        have h2 := ht a ha
        rw [hng a ha, (h.next a ha).1] at h2
        have h3 := cN_next a.f
        omega
    exact key (4095 - x) x (by omega)
theorem filter_len (a n : Nat) : ((List.range n).filter (fun x => decide (a ≤ x))).length = n - a := by
  induction n with
  | zero => simp
  | succ n ih =>
    rw [List.range_succ, List.filter_append, List.length_append, ih]
    by_cases h : a ≤ n
    · simp [h]; omega
    · simp [h]; omega
theorem Chain.reach {A : List Ar} (h : Chain A) {m : List Bool} (hm : ∀ x, Mk m x ↔ ∃ k ∈ ([4094] : List Int), Rch (Ec A) k.toNat x) : ((List.range 4096).filter (fun k => m.getD k false)).length = 2 := by
  have : (List.range 4096).filter (fun k => m.getD k false) = (List.range 4096).filter (fun x => decide (4094 ≤ x)) := by
    refine List.filter_congr fun x hx => ?_
    have hx2 := List.mem_range.1 hx
    have h1 := hm x
    have h2 := h.rch x
    rw [Bool.eq_iff_iff, decide_eq_true_iff]
    rw [show (m.getD x false = true) = Mk m x from rfl, h1]
    constructor
    · rintro ⟨k, hk, hr⟩
      simp at hk
      subst hk
      have := h2.1 hr
      omega
    · intro hle
      exact ⟨4094, by simp, h2.2 (by omega)⟩
  rw [this, filter_len]

/-- the arcs of the law -/
def arcAt (i : Nat) : Ar := ⟨i % 4095, i % 4095 + 1, decide (0 < i % 3)⟩
theorem chain_from (A : List Ar) (h1 : ∀ a ∈ A, ∃ i, a = arcAt i) (h2 : ∀ k, k < 4095 → ∃ i, i % 4095 = k ∧ arcAt i ∈ A) : Chain A := by
  refine ⟨fun a ha => ?_, fun k hk => ?_⟩
  · obtain ⟨i, rfl⟩ := h1 a ha
    exact ⟨rfl, Nat.mod_lt _ (by omega)⟩
  · obtain ⟨i, hi, hm⟩ := h2 k hk
    exact ⟨_, hm, hi⟩
theorem chain_range (s n : Nat) (hn : 4095 ≤ n) (hs : s ≤ 1) : Chain ((List.range n).map fun i => arcAt (s + i)) := by
  refine chain_from _ (fun a ha => ?_) (fun k hk => ?_)
  · obtain ⟨i, _, rfl⟩ := List.mem_map.1 ha
    exact ⟨_, rfl⟩
  · by_cases e : s ≤ k
    · exact ⟨s + (k - s), by omega, List.mem_map.2 ⟨k - s, List.mem_range.2 (by omega), rfl⟩⟩
    · refine ⟨s + (4095 + k - s), by omega, List.mem_map.2 ⟨4095 + k - s, List.mem_range.2 (by omega), rfl⟩⟩
theorem chain_neg : ∀ a ∈ (List.range 4095).map (fun i => arcAt (0 + i)), a.g = decide (0 < a.f % 3) := fun a ha => by
  obtain ⟨i, hi, rfl⟩ := List.mem_map.1 ha
  have := List.mem_range.1 hi
  show decide (0 < (0 + i) % 3) = decide (0 < (0 + i) % 4095 % 3)
  rw [Nat.mod_eq_of_lt (a := 0 + i) (b := 4095) (by omega)]
end Go.Proofs.Ytmlpkjeaieljfaa
