/- What is handed in, read as data. -/
import Derived.Test.YtkelhglflpdpeaaOc
import Derived.ProofKit
import Derived.OpenShut
import Derived.ChangeOld
import Derived.SizedLaws
import Derived.Lib.SmallJoins
import Derived.Deep.Slices
namespace Go.Proofs.Ytkelhglflpdpeaa
open Go.ChangeShapes Go.WideShapes Go.ChangeAt Go.RowKit Go.Joins Go.PlainAid

theorem laidOut : laidOutB Try.prog = true := by kernel_rfl
theorem cellsT3 : Try.prog.cellsOf 3 = 1 := by kernel_rfl
theorem cellsT29 : Try.prog.cellsOf 29 = 2 := by kernel_rfl
theorem cellsT33 : Try.prog.cellsOf 33 = 4 := by kernel_rfl
theorem bytesT29 : Try.prog.bytesOf 29 = 16 := by kernel_rfl
theorem bytesT33 : Try.prog.bytesOf 33 = 32 := by kernel_rfl

theorem list_of {α : Type} {Q : Nat → α → Prop} : ∀ (n : Nat), (∀ i, i < n → ∃ x, Q i x) → ∃ l : List α, l.length = n ∧ ∀ i (h : i < l.length), Q i l[i]
  | 0, _ => ⟨[], rfl, fun i h => by simp at h⟩
  | n + 1, h => by
    obtain ⟨l, h1, h2⟩ := list_of n (fun i hi => h i (by omega))
    obtain ⟨x, hx⟩ := h n (by omega)
    refine ⟨l ++ [x], by simp [h1], fun i hi => ?_⟩
    by_cases e : i < l.length
    · rw [List.getElem_append_left e]
      exact h2 i e
    · have : i = n := by simp at hi; omega
      subst this
      rw [List.getElem_append_right (by omega)]
      simpa [h1] using hx

theorem trod_struct2 {H : Type} {enc : TypeId × Value → H} {P : Program} {w : World} {base : Nat} {spare : Nat → Bool} {held : Bool} {t : TypeId} {f0 f1 : Field} {fuel : Nat} {cs : List Value} {x : DataW H × List MemPlace} (ht : P.underlying t = some (.struct #[f0, f1])) (h : DataW.trod enc P w base spare held fuel t cs = some x) :
    ∃ y0 y1 n, cs.length = P.cellsOf t ∧ DataW.trod enc P w base spare held n f0.type ((cs.drop f0.offset).take (P.cellsOf f0.type)) = some y0 ∧
      DataW.trod enc P w base spare held n f1.type ((cs.drop f1.offset).take (P.cellsOf f1.type)) = some y1 := by
  obtain ⟨xs, n, _, rfl, hl, hlen, hf⟩ := DataW.trod_struct ht h
  match xs, hlen with
  | [y0, y1], _ => exact ⟨y0, y1, n, hl, by simpa using hf 0 f0 rfl, by simpa using hf 1 f1 rfl⟩

theorem trod_struct3 {H : Type} {enc : TypeId × Value → H} {P : Program} {w : World} {base : Nat} {spare : Nat → Bool} {held : Bool} {t : TypeId} {f0 f1 f2 : Field} {fuel : Nat} {cs : List Value} {x : DataW H × List MemPlace} (ht : P.underlying t = some (.struct #[f0, f1, f2])) (h : DataW.trod enc P w base spare held fuel t cs = some x) :
    ∃ y0 y1 y2 n, x.1 = .agg [y0.1, y1.1, y2.1] ∧ cs.length = P.cellsOf t ∧ DataW.trod enc P w base spare held n f0.type ((cs.drop f0.offset).take (P.cellsOf f0.type)) = some y0 ∧
      DataW.trod enc P w base spare held n f1.type ((cs.drop f1.offset).take (P.cellsOf f1.type)) = some y1 ∧ DataW.trod enc P w base spare held n f2.type ((cs.drop f2.offset).take (P.cellsOf f2.type)) = some y2 := by
  obtain ⟨xs, n, _, rfl, hl, hlen, hf⟩ := DataW.trod_struct ht h
  match xs, hlen with
  | [y0, y1, y2], _ => exact ⟨y0, y1, y2, n, by simp, hl, by simpa using hf 0 f0 rfl, by simpa using hf 1 f1 rfl, by simpa using hf 2 f2 rfl⟩

set_option maxRecDepth 100000 in
/-- two cells that read as a pair -/
theorem open_pair {H : Type} {enc : TypeId × Value → H} {W : World} {fuel : Nat} {cs : List Value} {y : DataW H × List MemPlace}
    (hf : DataW.trod enc Try.prog W 0 (fun _ => true) true fuel 29 cs = some y) : ∃ x : Pr, cs = encP x ∧ (-9223372036854775808 ≤ x.k ∧ x.k ≤ 9223372036854775807) ∧ (-9223372036854775808 ≤ x.m ∧ x.m ≤ 9223372036854775807) := by
  obtain ⟨y0, y1, n, hl, g0, g1⟩ := trod_struct2 Try.underlying29 hf
  rw [cellsT29] at hl
  match cs, hl with
  | [c0, c1], _ =>
    simp only [cellsT3, List.drop_zero, List.drop_succ_cons, List.take_succ_cons, List.take_zero] at g0 g1
    obtain ⟨a0, e0, x0, w0⟩ := DataW.trod_int Try.underlying3 g0
    obtain ⟨a1, e1, x1, w1⟩ := DataW.trod_int Try.underlying3 g1
    obtain rfl : c0 = .int .i64 a0 := by simpa using e0
    obtain rfl : c1 = .int .i64 a1 := by simpa using e1
    exact ⟨⟨a0, a1⟩, rfl, by simpa [Lit.wf, IntKind.min, IntKind.max, IntKind.signed, IntKind.bits] using w0, by simpa [Lit.wf, IntKind.min, IntKind.max, IntKind.signed, IntKind.bits] using w1⟩
set_option maxRecDepth 100000 in
/-- four cells that read as a call -/
theorem open_call {H : Type} {enc : TypeId × Value → H} {W : World} {fuel : Nat} {cs : List Value} {y : DataW H × List MemPlace}
    (hf : DataW.trod enc Try.prog W 0 (fun _ => true) true fuel 33 cs = some y) : ∃ x : Oc, cs = encO x ∧ (-9223372036854775808 ≤ x.o ∧ x.o ≤ 9223372036854775807) ∧ (-9223372036854775808 ≤ x.c ∧ x.c ≤ 9223372036854775807) ∧ (-9223372036854775808 ≤ x.x.k ∧ x.x.k ≤ 9223372036854775807) ∧ (-9223372036854775808 ≤ x.x.m ∧ x.x.m ≤ 9223372036854775807) := by
  obtain ⟨y0, y1, y2, n, _, hl, g0, g1, g2⟩ := trod_struct3 Try.underlying33 hf
  rw [cellsT33] at hl
  match cs, hl with
  | [c0, c1, c2, c3], _ =>
    simp only [cellsT3, cellsT29, List.drop_zero, List.drop_succ_cons, List.take_succ_cons, List.take_zero] at g0 g1 g2
    obtain ⟨a0, e0, x0, w0⟩ := DataW.trod_int Try.underlying3 g0
    obtain ⟨a1, e1, x1, w1⟩ := DataW.trod_int Try.underlying3 g1
    obtain ⟨q, e2, w2, w3⟩ := open_pair g2
    obtain rfl : c0 = .int .i64 a0 := by simpa using e0
    obtain rfl : c1 = .int .i64 a1 := by simpa using e1
    simp [encP] at e2
    obtain ⟨rfl, rfl⟩ := e2
    exact ⟨⟨a0, a1, q⟩, rfl, by simpa [Lit.wf, IntKind.min, IntKind.max, IntKind.signed, IntKind.bits] using w0, by simpa [Lit.wf, IntKind.min, IntKind.max, IntKind.signed, IntKind.bits] using w1, w2, w3⟩

theorem open_pairs {H : Type} {enc : TypeId × Value → H} {W : World} {fuel : Nat} {v : Value} {y : DataW H × List MemPlace}
    (hf : DataW.trod enc Try.prog W 0 (fun _ => true) true fuel 25 [v] = some y) (hsz : ∀ n ∈ y.1.weights Try.prog 25, n ≤ 140737488351232) : ∃ l : List Pr, Rd encP 2 W v l ∧ l.length * 16 ≤ 140737488351232 ∧ (∀ x ∈ l, (-9223372036854775808 ≤ x.k ∧ x.k ≤ 9223372036854775807) ∧ (-9223372036854775808 ≤ x.m ∧ x.m ≤ 9223372036854775807)) ∧ ∀ x, v.ownBlock = some x → l ≠ [] → x < W.heap.size := by
  rcases Go.Deep.open_slice Try.underlying25 hf with ⟨hcs, hx⟩ | ⟨a, len, cap, m, n, D, Pl, hcs, _, hl, hm, hmm, hx, hel⟩
  · simp at hcs
    subst hcs
    exact ⟨[], Rd.nil encP 2 W, by simp, by simp, fun x hx => by simp [Value.ownBlock] at hx⟩
  · simp at hcs
    subst hcs
    simp only [if_true] at hmm
    subst hmm
    obtain ⟨b, off, spot⟩ := a
    rw [cellsT29] at hel
    have hmx : m ≤ maxLen := hm
    have hw : len * 16 ≤ 140737488351232 := by
      subst hx
      have hw : (DataW.slice ((List.range len).map D) ((List.range (m - len)).map fun j => D (len + j))).weights Try.prog 25 = (((List.range len).map D).length + ((List.range (m - len)).map fun j => D (len + j)).length) * Try.prog.bytesOf 29 :: (DataW.weightsAll Try.prog 29 ((List.range len).map D) ++ DataW.weightsAll Try.prog 29 ((List.range (m - len)).map fun j => D (len + j))) := by
        rw [DataW.weights]
        rw [Try.underlying25]
      simp only [] at hsz
      rw [hw] at hsz
      have h2 := hsz _ (List.mem_cons_self ..)
      rw [bytesT29] at h2
      simp only [List.length_map, List.length_range] at h2
      omega
    rcases Nat.eq_zero_or_pos len with h0 | h0
    · subst h0
      exact ⟨[], ⟨some ⟨b, off, spot⟩, m, rfl, by simp, hmx, (by intro h; cases h), fun h => absurd rfl h⟩, by simp, by simp, fun x _ h => absurd rfl h⟩
    · have hspot : spot = none := by
        obtain ⟨cs', h1, h2⟩ := hel 0 (by omega)
        obtain ⟨_, h3, h4⟩ := World.cells?_some h1
        have h5 := h4 0 (by omega)
        rw [List.getElem?_eq_getElem (by omega)] at h5
        have := World.cell?_spot h5
        simpa [Addr.add] using this
      subst hspot
      obtain ⟨l, hlen, hl2⟩ := list_of (Q := fun i (x : Pr) => ((-9223372036854775808 ≤ x.k ∧ x.k ≤ 9223372036854775807) ∧ (-9223372036854775808 ≤ x.m ∧ x.m ≤ 9223372036854775807)) ∧ ∀ j, j < 2 → W.cell? ⟨b, off + i * 2 + j, none⟩ = (encP x)[j]?) len (fun i hi => by
        obtain ⟨cs', h1, h2⟩ := hel i (by omega)
        rw [add_plain] at h1
        obtain ⟨_, h3, h4⟩ := World.cells?_some h1
        obtain ⟨t, rfl, hw⟩ := open_pair h2
        refine ⟨t, hw, fun j hj => ?_⟩
        have h5 := h4 j hj
        rw [add_plain] at h5
        exact h5)
      have hb : b < W.heap.size := by
        have := (hl2 0 (by omega)).2 0 (by omega)
        rw [List.getElem?_eq_getElem (by rw [encP_len]; omega)] at this
        exact World.block_lt_of_cell? W _ this
      refine ⟨l, ⟨some ⟨b, off, none⟩, m, by rw [hlen], by omega, hmx, (by intro h; cases h), fun _ => ⟨b, off, rfl, hb, fun i hi j hj => (hl2 i hi).2 j hj⟩⟩, by rw [hlen]; exact hw, fun x hx => ?_, fun x hx _ => by simp [Value.ownBlock] at hx; subst hx; exact hb⟩
      obtain ⟨i, hi, rfl⟩ := List.getElem_of_mem hx
      exact (hl2 i hi).1

theorem open_calls {H : Type} {enc : TypeId × Value → H} {W : World} {fuel : Nat} {v : Value} {y : DataW H × List MemPlace}
    (hf : DataW.trod enc Try.prog W 0 (fun _ => true) true fuel 22 [v] = some y) (hsz : ∀ n ∈ y.1.weights Try.prog 22, n ≤ 140737488351232) : ∃ l : List Oc, Rd encO 4 W v l ∧ l.length * 32 ≤ 140737488351232 ∧ (∀ x ∈ l, (-9223372036854775808 ≤ x.o ∧ x.o ≤ 9223372036854775807) ∧ (-9223372036854775808 ≤ x.c ∧ x.c ≤ 9223372036854775807) ∧ (-9223372036854775808 ≤ x.x.k ∧ x.x.k ≤ 9223372036854775807) ∧ (-9223372036854775808 ≤ x.x.m ∧ x.x.m ≤ 9223372036854775807)) ∧ ∀ x, v.ownBlock = some x → l ≠ [] → x < W.heap.size := by
  rcases Go.Deep.open_slice Try.underlying22 hf with ⟨hcs, hx⟩ | ⟨a, len, cap, m, n, D, Pl, hcs, _, hl, hm, hmm, hx, hel⟩
  · simp at hcs
    subst hcs
    exact ⟨[], Rd.nil encO 4 W, by simp, by simp, fun x hx => by simp [Value.ownBlock] at hx⟩
  · simp at hcs
    subst hcs
    simp only [if_true] at hmm
    subst hmm
    obtain ⟨b, off, spot⟩ := a
    rw [cellsT33] at hel
    have hmx : m ≤ maxLen := hm
    have hw : len * 32 ≤ 140737488351232 := by
      subst hx
      have hw : (DataW.slice ((List.range len).map D) ((List.range (m - len)).map fun j => D (len + j))).weights Try.prog 22 = (((List.range len).map D).length + ((List.range (m - len)).map fun j => D (len + j)).length) * Try.prog.bytesOf 33 :: (DataW.weightsAll Try.prog 33 ((List.range len).map D) ++ DataW.weightsAll Try.prog 33 ((List.range (m - len)).map fun j => D (len + j))) := by
        rw [DataW.weights]
        rw [Try.underlying22]
      simp only [] at hsz
      rw [hw] at hsz
      have h2 := hsz _ (List.mem_cons_self ..)
      rw [bytesT33] at h2
      simp only [List.length_map, List.length_range] at h2
      omega
    rcases Nat.eq_zero_or_pos len with h0 | h0
    · subst h0
      exact ⟨[], ⟨some ⟨b, off, spot⟩, m, rfl, by simp, hmx, (by intro h; cases h), fun h => absurd rfl h⟩, by simp, by simp, fun x _ h => absurd rfl h⟩
    · have hspot : spot = none := by
        obtain ⟨cs', h1, h2⟩ := hel 0 (by omega)
        obtain ⟨_, h3, h4⟩ := World.cells?_some h1
        have h5 := h4 0 (by omega)
        rw [List.getElem?_eq_getElem (by omega)] at h5
        have := World.cell?_spot h5
        simpa [Addr.add] using this
      subst hspot
      obtain ⟨l, hlen, hl2⟩ := list_of (Q := fun i (x : Oc) => ((-9223372036854775808 ≤ x.o ∧ x.o ≤ 9223372036854775807) ∧ (-9223372036854775808 ≤ x.c ∧ x.c ≤ 9223372036854775807) ∧ (-9223372036854775808 ≤ x.x.k ∧ x.x.k ≤ 9223372036854775807) ∧ (-9223372036854775808 ≤ x.x.m ∧ x.x.m ≤ 9223372036854775807)) ∧ ∀ j, j < 4 → W.cell? ⟨b, off + i * 4 + j, none⟩ = (encO x)[j]?) len (fun i hi => by
        obtain ⟨cs', h1, h2⟩ := hel i (by omega)
        rw [add_plain] at h1
        obtain ⟨_, h3, h4⟩ := World.cells?_some h1
        obtain ⟨t, rfl, hw⟩ := open_call h2
        refine ⟨t, hw, fun j hj => ?_⟩
        have h5 := h4 j hj
        rw [add_plain] at h5
        exact h5)
      have hb : b < W.heap.size := by
        have := (hl2 0 (by omega)).2 0 (by omega)
        rw [List.getElem?_eq_getElem (by rw [encO_len]; omega)] at this
        exact World.block_lt_of_cell? W _ this
      refine ⟨l, ⟨some ⟨b, off, none⟩, m, by rw [hlen], by omega, hmx, (by intro h; cases h), fun _ => ⟨b, off, rfl, hb, fun i hi j hj => (hl2 i hi).2 j hj⟩⟩, by rw [hlen]; exact hw, fun x hx => ?_, fun x hx _ => by simp [Value.ownBlock] at hx; subst hx; exact hb⟩
      obtain ⟨i, hi, rfl⟩ := List.getElem_of_mem hx
      exact (hl2 i hi).1


end Go.Proofs.Ytkelhglflpdpeaa
