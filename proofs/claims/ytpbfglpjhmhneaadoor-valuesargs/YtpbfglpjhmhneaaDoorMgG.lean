/- Arguments that are handed in, read as data; how much they weigh. -/
import Derived.Test.YtpbfglpjhmhneaaDoorValA
import Derived.Test.YtpbfglpjhmhneaaDoorArgY
namespace Go.Proofs.YtpbfglpjhmhneaaDoor
open Go.ChangeShapes Go.WideShapes Go.ChangeAt Go.RowKit Go.Joins Go.PlainAid

theorem cells34 : Tryd.prog.cellsOf 34 = 7 := by kernel_rfl
theorem cells32 : Tryd.prog.cellsOf 32 = 6 := by kernel_rfl
theorem bytes9 : Tryd.prog.bytesOf 9 = 16 := by kernel_rfl
theorem bytes34 : Tryd.prog.bytesOf 34 = 88 := by kernel_rfl

theorem weights_all {H : Type} {P : Program} {e : TypeId} {d : DataW H} : ∀ {l : List (DataW H)}, d ∈ l → ∀ n ∈ d.weights P e, n ∈ DataW.weightsAll P e l
  | [], h => by cases h
  | x :: l, h => fun n hn => by
    rw [DataW.weightsAll, List.mem_append]
    rcases List.mem_cons.1 h with rfl | h
    · exact .inl hn
    · exact .inr (weights_all h n hn)
theorem Ts.len_eq {W : World} {ao : Option Addr} {n c : Nat} {l : List ByteArray} (h : Ts W (.slice ao n c) l) : n = l.length := by
  obtain ⟨a, cap, e, _⟩ := h.ex
  simp at e
  exact e.2.1
theorem texts_weight {H : Type} {enc : TypeId × Value → H} {W : World} {fuel : Nat} {v : Value} {y : DataW H × List MemPlace} {l : List ByteArray} {B : Nat}
    (hf : DataW.trod enc Tryd.prog W 0 (fun _ => true) true fuel 30 [v] = some y) (hT : Ts W v l) (hB : ∀ n ∈ y.1.weights Tryd.prog 30, n ≤ B) : l.length * 16 ≤ B := by
  rcases Go.Deep.open_slice Tryd.underlying30 hf with ⟨hcs, hx⟩ | ⟨a, len, cap, m, n, D, Pl, hcs, _, hl, hm, hmm, hx, hel⟩
  · simp at hcs
    subst hcs
    have := hT.len_eq
    omega
  · simp at hcs
    subst hcs
    have e := hT.len_eq
    subst hx
    have hw : (DataW.slice ((List.range len).map D) ((List.range (m - len)).map fun j => D (len + j))).weights Tryd.prog 30 = (((List.range len).map D).length + ((List.range (m - len)).map fun j => D (len + j)).length) * Tryd.prog.bytesOf 9 :: (DataW.weightsAll Tryd.prog 9 ((List.range len).map D) ++ DataW.weightsAll Tryd.prog 9 ((List.range (m - len)).map fun j => D (len + j))) := by
      rw [DataW.weights]
      rw [Tryd.underlying30]
    simp only [] at hB
    rw [hw] at hB
    have h2 := hB _ (List.mem_cons_self ..)
    rw [bytes9] at h2
    simp only [List.length_map, List.length_range] at h2
    omega

/-- six cells that read as a value: what it weighs -/
theorem cells6_weight {H : Type} {enc : TypeId × Value → H} {W : World} {fuel : Nat} {c0 c1 c2 c3 c4 c5 : Value} {x : DataW H × List MemPlace} {l : List ByteArray} {B : Nat}
    (hf : DataW.trod enc Tryd.prog W 0 (fun _ => true) true fuel 32 [c0, c1, c2, c3, c4, c5] = some x) (hT : Ts W c5 l) (hB : ∀ n ∈ x.1.weights Tryd.prog 32, n ≤ B) : l.length * 16 ≤ B := by
  obtain ⟨y0, y1, y2, y3, y4, y5, n, hx, _, g0, g1, g2, g3, g4, g5⟩ := trod_struct6 Tryd.underlying32 hf
  simp only [cellsT24, List.drop_zero, List.drop_succ_cons, List.take_succ_cons, List.take_zero] at g5
  refine texts_weight g5 hT (fun n hn => hB n ?_)
  rw [hx, DataW.weights]
  rw [Tryd.underlying32]
  simp only [DataW.weightsEach, List.map_cons, List.map_nil, List.mem_append]
  simp [hn]

/-- an argument's cells -/
theorem open_arg {H : Type} {enc : TypeId × Value → H} {W : World} {fuel b o : Nat} {cs : List Value} {x : DataW H × List MemPlace} (hc : ∀ i, i < 7 → W.cell? ⟨b, o + i, none⟩ = cs[i]?)
    (hf : DataW.trod enc Tryd.prog W 0 (fun _ => true) true fuel 34 cs = some x) :
    ∃ p : AD, p.val.Ok ∧ p.nm.size ≤ 9223372036854775807 ∧ (∃ u, ArgC W b o p u ∧ Ts W u p.val.texts) ∧ ∀ B, (∀ n ∈ x.1.weights Tryd.prog 34, n ≤ B) → p.val.texts.length * 16 ≤ B := by
  obtain ⟨y0, y1, n, rfl, hl, g0, g1⟩ := trod_struct2 Tryd.underlying34 hf
  rw [cells34] at hl
  match cs, hl with
  | [c0, c1, c2, c3, c4, c5, c6], _ =>
    simp only [cellsT9, cells32, List.drop_zero, List.drop_succ_cons, List.take_succ_cons, List.take_zero] at g0 g1
    obtain ⟨a0, e0, x0, w0⟩ := DataW.trod_string Tryd.underlying9 g0
    obtain rfl : c0 = .string a0 := by simpa using e0
    obtain ⟨p, hok, rfl, rfl, rfl, rfl, rfl, ht⟩ := open_cells6 g1
    simp only [maxLen] at w0
    refine ⟨⟨a0, p⟩, hok, by show a0.size ≤ _; omega, ⟨c6, ⟨by simpa using hc 0 (by omega), by simpa using hc 1 (by omega), by simpa using hc 2 (by omega), by simpa using hc 3 (by omega), by simpa using hc 4 (by omega), by simpa using hc 5 (by omega), by simpa using hc 6 (by omega)⟩, ht⟩, fun B hB => ?_⟩
    refine cells6_weight g1 ht (fun n hn => hB n ?_)
    rw [DataW.weights]
    rw [Tryd.underlying34]
    simp only [DataW.weightsEach, List.map_cons, List.map_nil, List.mem_append]
    simp [hn]

/-- a slice of arguments -/
theorem open_args {H : Type} {enc : TypeId × Value → H} {W : World} {fuel : Nat} {v : Value} {y : DataW H × List MemPlace}
    (hf : DataW.trod enc Tryd.prog W 0 (fun _ => true) true fuel 22 [v] = some y) :
    ∃ l : List AD, As W v l ∧ (∀ x ∈ l, x.nm.size ≤ 9223372036854775807) ∧ ∀ B, (∀ n ∈ y.1.weights Tryd.prog 22, n ≤ B) → l.length * 88 ≤ B ∧ ∀ x ∈ l, x.val.texts.length * 16 ≤ B := by
  rcases Go.Deep.open_slice Tryd.underlying22 hf with ⟨hcs, hx⟩ | ⟨a, len, cap, m, n, D, Pl, hcs, _, hl, hm, hmm, hx, hel⟩
  · simp at hcs
    subst hcs
    exact ⟨[], ⟨by simp, none, 0, rfl, by simp, by omega, fun h => absurd rfl h⟩, by simp, fun B _ => ⟨by simp, by simp⟩⟩
  · simp at hcs
    subst hcs
    simp only [if_true] at hmm
    subst hmm
    obtain ⟨b, off, spot⟩ := a
    rw [cells34] at hel
    have hw : y.1.weights Tryd.prog 22 = (((List.range len).map D).length + ((List.range (m - len)).map fun j => D (len + j)).length) * Tryd.prog.bytesOf 34 :: (DataW.weightsAll Tryd.prog 34 ((List.range len).map D) ++ DataW.weightsAll Tryd.prog 34 ((List.range (m - len)).map fun j => D (len + j))) := by
      rw [hx, DataW.weights]
      rw [Tryd.underlying22]
    rcases Nat.eq_zero_or_pos len with h0 | h0
    · subst h0
      exact ⟨[], ⟨by simp, some ⟨b, off, spot⟩, m, rfl, by simp, by simp only [maxLen] at hm; omega, fun h => absurd rfl h⟩, by simp, fun B _ => ⟨by simp, by simp⟩⟩
    · have hspot : spot = none := by
        obtain ⟨cs', h1, h2⟩ := hel 0 (by omega)
        obtain ⟨_, h3, h4⟩ := World.cells?_some h1
        have h5 := h4 0 (by omega)
        rw [List.getElem?_eq_getElem (by omega)] at h5
        have := World.cell?_spot h5
        simpa [Addr.add] using this
      subst hspot
      obtain ⟨l, hlen, hl2⟩ := list_of (Q := fun i (p : AD) => (p.val.Ok ∧ p.nm.size ≤ 9223372036854775807) ∧ (∃ u, ArgC W b (off + i * 7) p u ∧ Ts W u p.val.texts) ∧ ∀ B, (∀ n ∈ (D i).weights Tryd.prog 34, n ≤ B) → p.val.texts.length * 16 ≤ B) len (fun i hi => by
        obtain ⟨cs', h1, h2⟩ := hel i (by omega)
        rw [add_plain] at h1
        obtain ⟨_, h3, h4⟩ := World.cells?_some h1
        obtain ⟨p, q1, q0, q2, q3⟩ := open_arg (b := b) (o := off + i * 7) (fun k hk => by have := h4 k hk; rwa [add_plain] at this) h2
        exact ⟨p, ⟨q1, q0⟩, q2, q3⟩)
      refine ⟨l, ⟨fun x hx => ?_, some ⟨b, off, none⟩, m, by rw [hlen], by omega, by simp only [maxLen] at hm; omega, fun _ => ⟨b, off, rfl, fun i hi => (hl2 i hi).2.1⟩⟩, fun x hx => ?_, fun B hB => ⟨?_, fun x hx => ?_⟩⟩
      · obtain ⟨i, hi, rfl⟩ := List.getElem_of_mem hx
        exact (hl2 i hi).1.1
      · obtain ⟨i, hi, rfl⟩ := List.getElem_of_mem hx
        exact (hl2 i hi).1.2
      · have h2 := hB _ (by rw [hw]; exact List.mem_cons_self ..)
        rw [bytes34] at h2
        simp only [List.length_map, List.length_range] at h2
        omega
      · obtain ⟨i, hi, rfl⟩ := List.getElem_of_mem hx
        refine (hl2 i hi).2.2 B (fun n hn => hB n ?_)
        rw [hw]
        refine List.mem_cons_of_mem _ (List.mem_append_left _ (weights_all (d := D i) ?_ n hn))
        exact List.mem_map.2 ⟨i, List.mem_range.2 (by omega), rfl⟩

end Go.Proofs.YtpbfglpjhmhneaaDoor
