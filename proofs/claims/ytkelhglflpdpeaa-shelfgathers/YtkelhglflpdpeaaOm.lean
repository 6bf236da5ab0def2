/- What follows for lists that rise. -/
import Derived.Test.YtkelhglflpdpeaaOc

namespace Go.Proofs.Ytkelhglflpdpeaa
open Go.RowKit Go.PlainAid


theorem ins_mem (l : List Pr) (i : Nat) (x : Pr) : x ∈ insL l i x := by simp [insL]
theorem set_mem (l : List Pr) (i : Nat) (x : Pr) : x ∈ setL l i x := by simp [setL]
theorem lk_put {l : List Pr} (h : Ris l) (x : Pr) : lk (putL l x) x.k = some x := by
  refine (lk_some (put_ris h x)).2 ⟨?_, rfl⟩
  unfold putL
  split
  · exact set_mem _ _ _
  · exact ins_mem _ _ _
theorem lk_rem {l : List Pr} (h : Ris l) (x : Pr) : lk (remL l x) x.k = none := by
  refine (lk_none (rem_ris h x)).2 ?_
  unfold remL
  split
  · rename_i hn
    obtain ⟨y, hy⟩ := Option.isSome_iff_exists.1 hn
    obtain ⟨h1, h2, h3⟩ := lk_at hy
    intro z hz
    have hp : Ris (l.take (rnk l x.k) ++ l.drop (rnk l x.k)) := by rw [List.take_append_drop]; exact h
    rw [h2] at hp
    have g := List.pairwise_append.1 hp
    have g2 := List.pairwise_cons.1 g.2.1
    rcases List.mem_append.1 hz with h4 | h4
    · have := ris_low h x.k z h4; omega
    · have := g2.1 z h4; omega
  · rename_i hn
    exact (lk_none h).1 (by simpa using hn)
theorem ris_at {l : List Pr} (h : Ris l) {i j : Nat} (hj : j < l.length) (hij : i < j) : (l[i]'(by omega)).k < l[j].k := List.pairwise_iff_getElem.1 h i j (by omega) hj hij
/-- an element stands at its rank -/
theorem rnk_at {l : List Pr} (h : Ris l) {i : Nat} (hi : i < l.length) : rnk l l[i].k = i := by
  have e : l = l.take i ++ l.drop i := (List.take_append_drop _ _).symm
  have h1 : rnk (l.take i ++ l.drop i) l[i].k = (l.take i).length := rnk_of (fun a ha => by
    obtain ⟨j, hj, rfl⟩ := List.getElem_of_mem ha
    rw [List.getElem_take]
    rw [List.length_take] at hj
    exact ris_at h hi (by omega)) (fun a ha => by
    obtain ⟨j, hj, rfl⟩ := List.getElem_of_mem ha
    rw [List.getElem_drop]
    rw [List.length_drop] at hj
    rcases Nat.eq_zero_or_pos j with rfl | hp
    · simp
    · exact Int.le_of_lt (ris_at h (show i + j < l.length by omega) (by omega)))
  rw [List.take_append_drop, List.length_take] at h1
  omega
theorem lk_mem {l : List Pr} (h : Ris l) {i : Nat} (hi : i < l.length) : lk l l[i].k = some l[i] := (lk_some h).2 ⟨List.getElem_mem hi, rfl⟩
theorem rnk_snoc (l : List Pr) (i : Nat) (hi : i < l.length) (k : Int) : rnk (l.take (i + 1)) k = rnk (l.take i) k + (if l[i].k < k then 1 else 0) := by
  rw [← List.take_append_getElem hi]
  unfold rnk
  rw [List.countP_append]
  congr 1
  by_cases hc : l[i].k < k <;> simp [hc]

end Go.Proofs.Ytkelhglflpdpeaa
