/- Arguments laid one over the other: the plain lists. -/
import Derived.Test.YtpbfglpjhmhneaaDoorMgA
namespace Go.Proofs.YtpbfglpjhmhneaaDoor
open Go.RowKit Go.PlainAid

def ltA (x y : AD) : Prop := cmpT x.nm.toList y.nm.toList = -1
instance (x y : AD) : Decidable (ltA x y) := by unfold ltA; infer_instance
theorem ltA.trans {x y z : AD} (h : ltA x y) (h2 : ltA y z) : ltA x z := ord_cmpT.trans _ _ _ h h2
theorem ltA.irr (x : AD) : ¬ ltA x x := fun h => by
  have := (ord_cmpT.same x.nm.toList x.nm.toList).2 rfl
  unfold ltA at h
  omega
theorem ltA.asym {x y : AD} (h : ltA x y) : ¬ ltA y x := fun h2 => ltA.irr x (h.trans h2)
theorem ltA.ne {x y : AD} (h : ltA x y) : x.nm ≠ y.nm := fun e => by
  have := (ord_cmpT.same x.nm.toList y.nm.toList).2 (by rw [e])
  unfold ltA at h
  omega
theorem ltA.tri {x y : AD} (h : ¬ ltA x y) (hn : x.nm ≠ y.nm) : ltA y x := by
  have h0 : cmpT x.nm.toList y.nm.toList ≠ 0 := fun e => hn (toList_inj ((ord_cmpT.same _ _).1 e))
  have h1 := ord_cmpT.range x.nm.toList y.nm.toList
  have h2 := ord_cmpT.anti x.nm.toList y.nm.toList
  unfold ltA at *
  omega

def dropEq (o : AD) : List AD → List AD
  | [] => []
  | x :: l => if x.nm = o.nm then l else x :: l
def laidL : List AD → List AD → List AD
  | [], c => c
  | o :: os, c => c.takeWhile (fun x => decide (ltA x o)) ++ o :: laidL os (dropEq o (c.dropWhile (fun x => decide (ltA x o))))
theorem laid_low {o c : AD} {os cs : List AD} (h : ltA c o) : laidL (o :: os) (c :: cs) = c :: laidL (o :: os) cs := by
  simp [laidL, h]
theorem laid_eq {o c : AD} {os cs : List AD} (h : c.nm = o.nm) : laidL (o :: os) (c :: cs) = o :: laidL os cs := by
  have hn : ¬ ltA c o := fun h2 => h2.ne h
  simp [laidL, hn, dropEq, h]
theorem laid_high {o c : AD} {os cs : List AD} (h : ¬ ltA c o) (h2 : c.nm ≠ o.nm) : laidL (o :: os) (c :: cs) = o :: laidL os (c :: cs) := by
  simp [laidL, h, dropEq, h2]
theorem laid_none {o : AD} {os : List AD} : laidL (o :: os) [] = o :: laidL os [] := by simp [laidL, dropEq]

theorem laid_all : ∀ (os c : List AD), os.Pairwise ltA → c.Pairwise ltA → (laidL os c).Pairwise ltA ∧ ∀ x, x ∈ laidL os c ↔ x ∈ os ∨ (x ∈ c ∧ ∀ o ∈ os, x.nm ≠ o.nm)
  | [], c, _, hc => ⟨hc, fun x => by simp [laidL]⟩
  | o :: os, c, ho, hc => by
    induction c with
    | nil =>
      obtain ⟨h1, h2⟩ := laid_all os [] (List.pairwise_cons.1 ho).2 List.Pairwise.nil
      rw [laid_none]
      refine ⟨List.pairwise_cons.2 ⟨fun y hy => ?_, h1⟩, fun x => ?_⟩
      · rcases (h2 y).1 hy with h | h
        · exact (List.pairwise_cons.1 ho).1 y h
        · simp at h
      · rw [List.mem_cons, h2 x]
        simp
    | cons c cs ih =>
      obtain ⟨hc1, hc2⟩ := List.pairwise_cons.1 hc
      obtain ⟨ho1, ho2⟩ := List.pairwise_cons.1 ho
      by_cases hlt : ltA c o
      · obtain ⟨h1, h2⟩ := ih hc2
        rw [laid_low hlt]
        refine ⟨List.pairwise_cons.2 ⟨fun y hy => ?_, h1⟩, fun x => ?_⟩
        · rcases (h2 y).1 hy with h | h
          · rcases List.mem_cons.1 h with rfl | h
            · exact hlt
            · exact hlt.trans (ho1 y h)
          · exact hc1 y h.1
        · rw [List.mem_cons, h2 x]
          constructor
          · rintro (rfl | h | h)
            · exact .inr ⟨List.mem_cons_self .., fun q hq => by
                rcases List.mem_cons.1 hq with rfl | hq
                · exact hlt.ne
                · exact (hlt.trans (ho1 q hq)).ne⟩
            · exact .inl h
            · exact .inr ⟨List.mem_cons_of_mem _ h.1, h.2⟩
          · rintro (h | ⟨h, h3⟩)
            · exact .inr (.inl h)
            · rcases List.mem_cons.1 h with rfl | h
              · exact .inl rfl
              · exact .inr (.inr ⟨h, h3⟩)
      · by_cases heq : c.nm = o.nm
        · obtain ⟨h1, h2⟩ := laid_all os cs ho2 hc2
          rw [laid_eq heq]
          have hcs : ∀ y ∈ cs, ltA o y := fun y hy => by
            have := hc1 y hy
            unfold ltA at this ⊢
            rwa [heq] at this
          refine ⟨List.pairwise_cons.2 ⟨fun y hy => ?_, h1⟩, fun x => ?_⟩
          · rcases (h2 y).1 hy with h | h
            · exact ho1 y h
            · exact hcs y h.1
          · rw [List.mem_cons, h2 x]
            constructor
            · rintro (rfl | h | h)
              · exact .inl (List.mem_cons_self ..)
              · exact .inl (List.mem_cons_of_mem _ h)
              · exact .inr ⟨List.mem_cons_of_mem _ h.1, fun q hq => by
                  rcases List.mem_cons.1 hq with rfl | hq
                  · exact (hcs x h.1).ne.symm
                  · exact h.2 q hq⟩
            · rintro (h | ⟨h, h3⟩)
              · rcases List.mem_cons.1 h with rfl | h
                · exact .inl rfl
                · exact .inr (.inl h)
              · rcases List.mem_cons.1 h with rfl | h
                · exact absurd heq (h3 o (List.mem_cons_self ..))
                · exact .inr (.inr ⟨h, fun q hq => h3 q (List.mem_cons_of_mem _ hq)⟩)
        · obtain ⟨h1, h2⟩ := laid_all os (c :: cs) ho2 hc
          rw [laid_high hlt heq]
          have hoc : ltA o c := ltA.tri hlt heq
          have hcs : ∀ y ∈ c :: cs, ltA o y := fun y hy => by
            rcases List.mem_cons.1 hy with rfl | hy
            · exact hoc
            · exact hoc.trans (hc1 y hy)
          refine ⟨List.pairwise_cons.2 ⟨fun y hy => ?_, h1⟩, fun x => ?_⟩
          · rcases (h2 y).1 hy with h | h
            · exact ho1 y h
            · exact hcs y h.1
          · rw [List.mem_cons, h2 x]
            constructor
            · rintro (rfl | h | h)
              · exact .inl (List.mem_cons_self ..)
              · exact .inl (List.mem_cons_of_mem _ h)
              · exact .inr ⟨h.1, fun q hq => by
                  rcases List.mem_cons.1 hq with rfl | hq
                  · exact (hcs x h.1).ne.symm
                  · exact h.2 q hq⟩
            · rintro (h | ⟨h, h3⟩)
              · rcases List.mem_cons.1 h with rfl | h
                · exact .inl rfl
                · exact .inr (.inl h)
              · exact .inr (.inr ⟨h, fun q hq => h3 q (List.mem_cons_of_mem _ hq)⟩)
  termination_by os => os.length

/-- two rising lists of the same members are one -/
theorem rise_one : ∀ (a b : List AD), a.Pairwise ltA → b.Pairwise ltA → (∀ x, x ∈ a ↔ x ∈ b) → a = b
  | [], [], _, _, _ => rfl
  | [], y :: b, _, _, h => by have := (h y).2 (List.mem_cons_self ..); simp at this
  | x :: a, [], _, _, h => by have := (h x).1 (List.mem_cons_self ..); simp at this
  | x :: a, y :: b, ha, hb, h => by
    obtain ⟨ha1, ha2⟩ := List.pairwise_cons.1 ha
    obtain ⟨hb1, hb2⟩ := List.pairwise_cons.1 hb
    have hxy : x = y := by
      rcases List.mem_cons.1 ((h x).1 (List.mem_cons_self ..)) with e | e
      · exact e
      · rcases List.mem_cons.1 ((h y).2 (List.mem_cons_self ..)) with f | f
        · exact f.symm
        · exact absurd (hb1 x e) (ha1 y f).asym
    subst hxy
    rw [rise_one a b ha2 hb2 (fun z => ?_)]
    constructor
    · intro hz
      rcases List.mem_cons.1 ((h z).1 (List.mem_cons_of_mem _ hz)) with e | e
      · subst e; exact absurd (ha1 z hz) (ltA.irr z)
      · exact e
    · intro hz
      rcases List.mem_cons.1 ((h z).2 (List.mem_cons_of_mem _ hz)) with e | e
      · subst e; exact absurd (hb1 z hz) (ltA.irr z)
      · exact e
/-- rising names, one by one -/
theorem Rises.pair {l : List AD} (h : Rises l) : l.Pairwise ltA := by
  have step : ∀ (k i : Nat) (hi : i + k + 1 < l.length), ltA (l[i]'(by omega)) (l[i + k + 1]'hi) := by
    intro k
    induction k with
    | zero => intro i hi; exact cmpT_neg ((h (i + 1) hi).2.2 i rfl)
    | succ k ih => intro i hi; exact (ih i (by omega)).trans (cmpT_neg ((h (i + k + 1 + 1) hi).2.2 (i + k + 1) rfl))
  rw [List.pairwise_iff_getElem]
  intro i j hi hj hij
  obtain ⟨k, rfl⟩ : ∃ k, j = i + k + 1 := ⟨j - i - 1, by omega⟩
  exact step k i hj
end Go.Proofs.YtpbfglpjhmhneaaDoor
