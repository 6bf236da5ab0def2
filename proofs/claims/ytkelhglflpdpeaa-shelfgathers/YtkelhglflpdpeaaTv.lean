/- Lists that rise: what is added, laid over, taken away. -/
import Derived.Test.YtkelhglflpdpeaaTo

namespace Go.Proofs.Ytkelhglflpdpeaa
open Go.RowKit Go.PlainAid


/-- what place answers of a list that rises -/
def lk (l : List Pr) (k : Int) : Option Pr := match (l.drop (rnk l k)).head? with
  | some y => if y.k = k then some y else none
  | none => none

theorem ris_low {l : List Pr} (h : Ris l) (k : Int) : ∀ a ∈ l.take (rnk l k), a.k < k := by
  induction l with
  | nil => intro a ha; simp at ha
  | cons c t ih =>
    have h1 := List.pairwise_cons.1 h
    by_cases hc : c.k < k
    · have e : rnk (c :: t) k = rnk t k + 1 := by simp [rnk, hc]
      rw [e, List.take_succ_cons]
      intro a ha
      rcases List.mem_cons.1 ha with rfl | ha
      · exact hc
      · exact ih h1.2 a ha
    · have e : rnk (c :: t) k = 0 := List.countP_eq_zero.2 (fun a ha => by
        rcases List.mem_cons.1 ha with rfl | ha
        · simpa using hc
        · have := h1.1 a ha; simp; omega)
      rw [e]
      intro a ha; simp at ha
theorem ris_high {l : List Pr} (h : Ris l) (k : Int) : ∀ a ∈ l.drop (rnk l k), k ≤ a.k := by
  induction l with
  | nil => intro a ha; simp at ha
  | cons c t ih =>
    have h1 := List.pairwise_cons.1 h
    by_cases hc : c.k < k
    · have e : rnk (c :: t) k = rnk t k + 1 := by simp [rnk, hc]
      rw [e, List.drop_succ_cons]
      exact ih h1.2
    · have e : rnk (c :: t) k = 0 := List.countP_eq_zero.2 (fun a ha => by
        rcases List.mem_cons.1 ha with rfl | ha
        · simpa using hc
        · have := h1.1 a ha; simp; omega)
      rw [e]
      intro a ha
      rcases List.mem_cons.1 ha with rfl | ha
      · omega
      · have := h1.1 a ha; omega
/-- the list parted at k -/
theorem ris_parts {l : List Pr} (h : Ris l) (k : Int) : ∃ P S, l = P ++ S ∧ P.length = rnk l k ∧ (∀ a ∈ P, a.k < k) ∧ (∀ a ∈ S, k ≤ a.k) :=
  ⟨l.take (rnk l k), l.drop (rnk l k), (List.take_append_drop _ _).symm, by rw [List.length_take]; have := rnk_le l k; omega, ris_low h k, ris_high h k⟩
theorem lk_some {l : List Pr} (h : Ris l) {k : Int} {y : Pr} : lk l k = some y ↔ y ∈ l ∧ y.k = k := by
  obtain ⟨P, S, e, hn, hP, hS⟩ := ris_parts h k
  have hd : l.drop (rnk l k) = S := by rw [← hn]; conv => lhs; rw [e]
                                       simp
  unfold lk
  rw [hd]
  constructor
  · intro h1
    cases S with
    | nil => simp at h1
    | cons c t =>
      simp at h1
      obtain ⟨h1, rfl⟩ := h1
      exact ⟨by rw [e]; simp, h1⟩
  · rintro ⟨h1, h2⟩
    rw [e] at h1 h
    rcases List.mem_append.1 h1 with h3 | h3
    · have := hP y h3; omega
    · cases S with
      | nil => simp at h3
      | cons c t =>
        rcases List.mem_cons.1 h3 with rfl | h3
        · simp [h2]
        · have h4 := (List.pairwise_cons.1 (List.pairwise_append.1 h).2.1).1 y h3
          have h5 := hS c (by simp)
          omega
theorem lk_none {l : List Pr} (h : Ris l) {k : Int} : lk l k = none ↔ ∀ y ∈ l, y.k ≠ k := by
  constructor
  · intro h1 y hy he
    rw [(lk_some h).2 ⟨hy, he⟩] at h1
    cases h1
  · intro h1
    cases hl : lk l k with
    | none => rfl
    | some y => have := (lk_some h).1 hl; exact absurd this.2 (h1 y this.1)
/-- where there is one like k, it stands at the rank -/
theorem lk_at {l : List Pr} {k : Int} {y : Pr} (h : lk l k = some y) : rnk l k < l.length ∧ l.drop (rnk l k) = y :: l.drop (rnk l k + 1) ∧ y.k = k := by
  unfold lk at h
  cases hd : (l.drop (rnk l k)).head? with
  | none => rw [hd] at h; cases h
  | some c =>
    rw [hd] at h
    by_cases hc : c.k = k
    · simp [hc] at h
      subst h
      have hlt : rnk l k < l.length := by
        by_cases hx : rnk l k < l.length
        · exact hx
        · rw [List.drop_eq_nil_of_le (by omega)] at hd; cases hd
      refine ⟨hlt, ?_, hc⟩
      rw [List.drop_eq_getElem_cons hlt] at hd ⊢
      simp at hd
      rw [List.getElem?_eq_getElem hlt] at hd
      rw [Option.some.inj hd]
    · simp [hc] at h

def addL (l : List Pr) (x : Pr) : List Pr := if (lk l x.k).isSome then l else insL l (rnk l x.k) x
def putL (l : List Pr) (x : Pr) : List Pr := if (lk l x.k).isSome then setL l (rnk l x.k) x else insL l (rnk l x.k) x
def remL (l : List Pr) (x : Pr) : List Pr := if (lk l x.k).isSome then delL l (rnk l x.k) else l

theorem ins_ris {l : List Pr} (h : Ris l) {x : Pr} (hn : lk l x.k = none) : Ris (insL l (rnk l x.k) x) := by
  have hL := ris_low h x.k
  have hH := ris_high h x.k
  have hN := (lk_none h).1 hn
  have hp : Ris (l.take (rnk l x.k) ++ l.drop (rnk l x.k)) := by rw [List.take_append_drop]; exact h
  have h1 := List.pairwise_append.1 hp
  refine List.pairwise_append.2 ⟨h1.1, List.pairwise_cons.2 ⟨fun a ha => ?_, h1.2.1⟩, fun a ha b hb => ?_⟩
  · have := hH a ha
    have := hN a (List.mem_of_mem_drop ha)
    omega
  · rcases List.mem_cons.1 hb with rfl | hb
    · exact hL a ha
    · exact h1.2.2 a ha b hb
theorem set_ris {l : List Pr} (h : Ris l) {x y : Pr} (hn : lk l x.k = some y) : Ris (setL l (rnk l x.k) x) := by
  obtain ⟨h1, h2, h3⟩ := lk_at hn
  have hp : Ris (l.take (rnk l x.k) ++ l.drop (rnk l x.k)) := by rw [List.take_append_drop]; exact h
  rw [h2] at hp
  have g := List.pairwise_append.1 hp
  have g2 := List.pairwise_cons.1 g.2.1
  refine List.pairwise_append.2 ⟨g.1, List.pairwise_cons.2 ⟨fun a ha => ?_, g2.2⟩, fun a ha b hb => ?_⟩
  · have := g2.1 a ha; omega
  · rcases List.mem_cons.1 hb with rfl | hb
    · have := g.2.2 a ha y (by simp); omega
    · exact g.2.2 a ha b (by simp [hb])
theorem del_ris {l : List Pr} (h : Ris l) (i : Nat) : Ris (delL l i) := by
  have hp : Ris (l.take i ++ l.drop i) := by rw [List.take_append_drop]; exact h
  have g := List.pairwise_append.1 hp
  have hs : (l.drop (i + 1)).Sublist (l.drop i) := by rw [← List.drop_drop]; exact List.drop_sublist _ _
  exact List.pairwise_append.2 ⟨g.1, g.2.1.sublist hs, fun a ha b hb => g.2.2 a ha b (hs.subset hb)⟩
theorem add_ris {l : List Pr} (h : Ris l) (x : Pr) : Ris (addL l x) := by
  unfold addL
  split
  · exact h
  · rename_i hn
    exact ins_ris h (by simpa using hn)
theorem put_ris {l : List Pr} (h : Ris l) (x : Pr) : Ris (putL l x) := by
  unfold putL
  split
  · rename_i hn
    obtain ⟨y, hy⟩ := Option.isSome_iff_exists.1 hn
    exact set_ris h hy
  · rename_i hn
    exact ins_ris h (by simpa using hn)
theorem rem_ris {l : List Pr} (h : Ris l) (x : Pr) : Ris (remL l x) := by
  unfold remL
  split
  · exact del_ris h _
  · exact h
theorem add_len (l : List Pr) (x : Pr) : (addL l x).length ≤ l.length + 1 := by
  unfold addL
  split
  · omega
  · rw [insL_len _ _ _ (rnk_le _ _)]; omega
theorem put_len (l : List Pr) (x : Pr) : (putL l x).length ≤ l.length + 1 := by
  unfold putL
  split
  · rename_i hn
    obtain ⟨y, hy⟩ := Option.isSome_iff_exists.1 hn
    rw [setL_len _ _ _ (lk_at hy).1]; omega
  · rw [insL_len _ _ _ (rnk_le _ _)]; omega
theorem rem_len (l : List Pr) (x : Pr) : (remL l x).length ≤ l.length := by
  unfold remL
  split
  · simp [delL]; omega
  · omega

end Go.Proofs.Ytkelhglflpdpeaa
