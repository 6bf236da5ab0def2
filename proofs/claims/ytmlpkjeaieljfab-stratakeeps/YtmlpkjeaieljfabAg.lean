/- Arcs and ints that are handed in, read as data. -/
import Derived.Test.YtmlpkjeaieljfabGn
import Derived.ProofKit
import Derived.OpenShut
import Derived.ChangeOld
import Derived.SizedLaws
import Derived.Lib.SmallJoins
import Derived.Deep.Slices
namespace Go.Proofs.Ytmlpkjeaieljfab
open Go.ChangeShapes Go.WideShapes Go.ChangeAt Go.RowKit Go.Joins Go.PlainAid

theorem laidOut : laidOutB Try.prog = true := by kernel_rfl
theorem cellsT3 : Try.prog.cellsOf 3 = 1 := by kernel_rfl
theorem cellsT4 : Try.prog.cellsOf 4 = 1 := by kernel_rfl
theorem cellsT31 : Try.prog.cellsOf 31 = 3 := by kernel_rfl
theorem bytesT3 : Try.prog.bytesOf 3 = 8 := by kernel_rfl
theorem bytesT31 : Try.prog.bytesOf 31 = 24 := by kernel_rfl

theorem list_of {α : Type} {Q : Nat → α → Prop} : ∀ (n : Nat), (∀ i, i < n → ∃ x, Q i x) → ∃ l : List α, l.length = n ∧ ∀ i (h : i < l.length), Q i l[i]
  | 0, _ => ⟨[], rfl, fun i h => by simp at h⟩
  | n + 1, h => by
    obtain ⟨l, h1, h2⟩ := list_of n (fun i hi => h i (by omega))
    obtain ⟨x, hx⟩ := h n (by omega)
    refine ⟨l ++ [x], by simp [h1], fun i hi => ?_⟩
    by_cases e : i < l.length
    · rw [List.getElem_append_left e]
      exact h2 i e
    · have : i = n := by simp at hi; omega
      subst this
      rw [List.getElem_append_right (by omega)]
      simpa [h1] using hx

theorem trod_struct3 {H : Type} {enc : TypeId × Value → H} {P : Program} {w : World} {base : Nat} {spare : Nat → Bool} {held : Bool} {t : TypeId} {f0 f1 f2 : Field} {fuel : Nat} {cs : List Value} {x : DataW H × List MemPlace} (ht : P.underlying t = some (.struct #[f0, f1, f2])) (h : DataW.trod enc P w base spare held fuel t cs = some x) :
    ∃ y0 y1 y2 n, x.1 = .agg [y0.1, y1.1, y2.1] ∧ cs.length = P.cellsOf t ∧ DataW.trod enc P w base spare held n f0.type ((cs.drop f0.offset).take (P.cellsOf f0.type)) = some y0 ∧
      DataW.trod enc P w base spare held n f1.type ((cs.drop f1.offset).take (P.cellsOf f1.type)) = some y1 ∧ DataW.trod enc P w base spare held n f2.type ((cs.drop f2.offset).take (P.cellsOf f2.type)) = some y2 := by
  obtain ⟨xs, n, _, rfl, hl, hlen, hf⟩ := DataW.trod_struct ht h
  match xs, hlen with
  | [y0, y1, y2], _ => exact ⟨y0, y1, y2, n, by simp, hl, by simpa using hf 0 f0 rfl, by simpa using hf 1 f1 rfl, by simpa using hf 2 f2 rfl⟩

set_option maxRecDepth 100000 in
/-- three cells that read as an arc -/
theorem open_arc {H : Type} {enc : TypeId × Value → H} {W : World} {fuel : Nat} {cs : List Value} {x : DataW H × List MemPlace}
    (hf : DataW.trod enc Try.prog W 0 (fun _ => true) true fuel 31 cs = some x) : ∃ a : Az, cs = encZ a ∧ (-9223372036854775808 ≤ a.f ∧ a.f ≤ 9223372036854775807) ∧ (-9223372036854775808 ≤ a.t ∧ a.t ≤ 9223372036854775807) := by
  obtain ⟨y0, y1, y2, n, hx, hl, g0, g1, g2⟩ := trod_struct3 Try.underlying31 hf
  rw [cellsT31] at hl
  match cs, hl with
  | [c0, c1, c2], _ =>
    simp only [cellsT3, cellsT4, List.drop_zero, List.drop_succ_cons, List.take_succ_cons, List.take_zero] at g0 g1 g2
    obtain ⟨a0, e0, x0, w0⟩ := DataW.trod_int Try.underlying3 g0
    obtain ⟨a1, e1, x1, w1⟩ := DataW.trod_int Try.underlying3 g1
    obtain ⟨a2, e2, x2⟩ := DataW.trod_bool Try.underlying4 g2
    obtain rfl : c0 = .int .i64 a0 := by simpa using e0
    obtain rfl : c1 = .int .i64 a1 := by simpa using e1
    obtain rfl : c2 = .bool a2 := by simpa using e2
    exact ⟨⟨a0, a1, a2⟩, rfl, by simpa [Lit.wf, IntKind.min, IntKind.max, IntKind.signed, IntKind.bits] using w0, by simpa [Lit.wf, IntKind.min, IntKind.max, IntKind.signed, IntKind.bits] using w1⟩
/-- one cell that reads as an int -/
theorem open_int1 {H : Type} {enc : TypeId × Value → H} {W : World} {fuel : Nat} {cs : List Value} {x : DataW H × List MemPlace}
    (hf : DataW.trod enc Try.prog W 0 (fun _ => true) true fuel 3 cs = some x) : ∃ a : Int, cs = encI a ∧ (-9223372036854775808 ≤ a ∧ a ≤ 9223372036854775807) := by
  obtain ⟨a0, e0, x0, w0⟩ := DataW.trod_int Try.underlying3 hf
  exact ⟨a0, by simpa [encI] using e0, by simpa [Lit.wf, IntKind.min, IntKind.max, IntKind.signed, IntKind.bits] using w0⟩

theorem open_arcs {H : Type} {enc : TypeId × Value → H} {W : World} {fuel : Nat} {v : Value} {y : DataW H × List MemPlace}
    (hf : DataW.trod enc Try.prog W 0 (fun _ => true) true fuel 22 [v] = some y) (hsz : ∀ n ∈ y.1.weights Try.prog 22, n ≤ 140737488351232) : ∃ l : List Az, Rd encZ 3 W v l ∧ l.length * 24 ≤ 140737488351232 ∧ (∀ x ∈ l, (-9223372036854775808 ≤ x.f ∧ x.f ≤ 9223372036854775807) ∧ (-9223372036854775808 ≤ x.t ∧ x.t ≤ 9223372036854775807)) ∧ ∀ x, v.ownBlock = some x → l ≠ [] → x < W.heap.size := by
  rcases Go.Deep.open_slice Try.underlying22 hf with ⟨hcs, hx⟩ | ⟨a, len, cap, m, n, D, Pl, hcs, _, hl, hm, hmm, hx, hel⟩
  · simp at hcs
    subst hcs
    exact ⟨[], Rd.nil encZ 3 W, by simp, by simp, fun x hx => by simp [Value.ownBlock] at hx⟩
  · simp at hcs
    subst hcs
    simp only [if_true] at hmm
    subst hmm
    obtain ⟨b, off, spot⟩ := a
    rw [cellsT31] at hel
    have hmx : m ≤ maxLen := hm
    have hw : len * 24 ≤ 140737488351232 := by
      subst hx
      have hw : (DataW.slice ((List.range len).map D) ((List.range (m - len)).map fun j => D (len + j))).weights Try.prog 22 = (((List.range len).map D).length + ((List.range (m - len)).map fun j => D (len + j)).length) * Try.prog.bytesOf 31 :: (DataW.weightsAll Try.prog 31 ((List.range len).map D) ++ DataW.weightsAll Try.prog 31 ((List.range (m - len)).map fun j => D (len + j))) := by
        rw [DataW.weights]
        rw [Try.underlying22]
      simp only [] at hsz
      rw [hw] at hsz
      have h2 := hsz _ (List.mem_cons_self ..)
      rw [bytesT31] at h2
      simp only [List.length_map, List.length_range] at h2
      omega
    rcases Nat.eq_zero_or_pos len with h0 | h0
    · subst h0
      exact ⟨[], ⟨some ⟨b, off, spot⟩, m, rfl, by simp, hmx, (by intro h; cases h), fun h => absurd rfl h⟩, by simp, by simp, fun x _ h => absurd rfl h⟩
    · have hspot : spot = none := by
        obtain ⟨cs', h1, h2⟩ := hel 0 (by omega)
        obtain ⟨_, h3, h4⟩ := World.cells?_some h1
        have h5 := h4 0 (by omega)
        rw [List.getElem?_eq_getElem (by omega)] at h5
        have := World.cell?_spot h5
        simpa [Addr.add] using this
      subst hspot
      obtain ⟨l, hlen, hl2⟩ := list_of (Q := fun i (x : Az) => ((-9223372036854775808 ≤ x.f ∧ x.f ≤ 9223372036854775807) ∧ (-9223372036854775808 ≤ x.t ∧ x.t ≤ 9223372036854775807)) ∧ ∀ j, j < 3 → W.cell? ⟨b, off + i * 3 + j, none⟩ = (encZ x)[j]?) len (fun i hi => by
        obtain ⟨cs', h1, h2⟩ := hel i (by omega)
        rw [add_plain] at h1
        obtain ⟨_, h3, h4⟩ := World.cells?_some h1
        obtain ⟨t, rfl, hw⟩ := open_arc h2
        refine ⟨t, hw, fun j hj => ?_⟩
        have h5 := h4 j hj
        rw [add_plain] at h5
        exact h5)
      have hb : b < W.heap.size := by
        have := (hl2 0 (by omega)).2 0 (by omega)
        rw [List.getElem?_eq_getElem (by rw [encZ_len]; omega)] at this
        exact World.block_lt_of_cell? W _ this
      refine ⟨l, ⟨some ⟨b, off, none⟩, m, by rw [hlen], by omega, hmx, (by intro h; cases h), fun _ => ⟨b, off, rfl, hb, fun i hi j hj => (hl2 i hi).2 j hj⟩⟩, by rw [hlen]; exact hw, fun x hx => ?_, fun x hx _ => by simp [Value.ownBlock] at hx; subst hx; exact hb⟩
      obtain ⟨i, hi, rfl⟩ := List.getElem_of_mem hx
      exact (hl2 i hi).1

theorem open_ints {H : Type} {enc : TypeId × Value → H} {W : World} {fuel : Nat} {v : Value} {y : DataW H × List MemPlace}
    (hf : DataW.trod enc Try.prog W 0 (fun _ => true) true fuel 28 [v] = some y) (hsz : ∀ n ∈ y.1.weights Try.prog 28, n ≤ 140737488351232) : ∃ l : List Int, Rd encI 1 W v l ∧ l.length * 8 ≤ 140737488351232 ∧ (∀ x ∈ l, -9223372036854775808 ≤ x ∧ x ≤ 9223372036854775807) ∧ ∀ x, v.ownBlock = some x → l ≠ [] → x < W.heap.size := by
  rcases Go.Deep.open_slice Try.underlying28 hf with ⟨hcs, hx⟩ | ⟨a, len, cap, m, n, D, Pl, hcs, _, hl, hm, hmm, hx, hel⟩
  · simp at hcs
    subst hcs
    exact ⟨[], Rd.nil encI 1 W, by simp, by simp, fun x hx => by simp [Value.ownBlock] at hx⟩
  · simp at hcs
    subst hcs
    simp only [if_true] at hmm
    subst hmm
    obtain ⟨b, off, spot⟩ := a
    rw [cellsT3] at hel
    have hmx : m ≤ maxLen := hm
    have hw : len * 8 ≤ 140737488351232 := by
      subst hx
      have hw : (DataW.slice ((List.range len).map D) ((List.range (m - len)).map fun j => D (len + j))).weights Try.prog 28 = (((List.range len).map D).length + ((List.range (m - len)).map fun j => D (len + j)).length) * Try.prog.bytesOf 3 :: (DataW.weightsAll Try.prog 3 ((List.range len).map D) ++ DataW.weightsAll Try.prog 3 ((List.range (m - len)).map fun j => D (len + j))) := by
        rw [DataW.weights]
        rw [Try.underlying28]
      simp only [] at hsz
      rw [hw] at hsz
      have h2 := hsz _ (List.mem_cons_self ..)
      rw [bytesT3] at h2
      simp only [List.length_map, List.length_range] at h2
      omega
    rcases Nat.eq_zero_or_pos len with h0 | h0
    · subst h0
      exact ⟨[], ⟨some ⟨b, off, spot⟩, m, rfl, by simp, hmx, (by intro h; cases h), fun h => absurd rfl h⟩, by simp, by simp, fun x _ h => absurd rfl h⟩
    · have hspot : spot = none := by
        obtain ⟨cs', h1, h2⟩ := hel 0 (by omega)
        obtain ⟨_, h3, h4⟩ := World.cells?_some h1
        have h5 := h4 0 (by omega)
        rw [List.getElem?_eq_getElem (by omega)] at h5
        have := World.cell?_spot h5
        simpa [Addr.add] using this
      subst hspot
      obtain ⟨l, hlen, hl2⟩ := list_of (Q := fun i (x : Int) => (-9223372036854775808 ≤ x ∧ x ≤ 9223372036854775807) ∧ ∀ j, j < 1 → W.cell? ⟨b, off + i * 1 + j, none⟩ = (encI x)[j]?) len (fun i hi => by
        obtain ⟨cs', h1, h2⟩ := hel i (by omega)
        rw [add_plain] at h1
        obtain ⟨_, h3, h4⟩ := World.cells?_some h1
        obtain ⟨t, rfl, hw⟩ := open_int1 h2
        refine ⟨t, hw, fun j hj => ?_⟩
        have h5 := h4 j hj
        rw [add_plain] at h5
        exact h5)
      have hb : b < W.heap.size := by
        have := (hl2 0 (by omega)).2 0 (by omega)
        rw [List.getElem?_eq_getElem (by rw [encI_len]; omega)] at this
        exact World.block_lt_of_cell? W _ this
      refine ⟨l, ⟨some ⟨b, off, none⟩, m, by rw [hlen], by omega, hmx, (by intro h; cases h), fun _ => ⟨b, off, rfl, hb, fun i hi j hj => (hl2 i hi).2 j hj⟩⟩, by rw [hlen]; exact hw, fun x hx => ?_, fun x hx _ => by simp [Value.ownBlock] at hx; subst hx; exact hb⟩
      obtain ⟨i, hi, rfl⟩ := List.getElem_of_mem hx
      exact (hl2 i hi).1
end Go.Proofs.Ytmlpkjeaieljfab
