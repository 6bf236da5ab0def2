/- Arguments, tuples and filters that are handed in, read as data; how much they weigh. -/
import Derived.Test.YtclapbpkkaljgaaGreatDoorValA
import Derived.Test.YtclapbpkkaljgaaGreatDoorArgY
import Derived.Test.YtclapbpkkaljgaaGreatDoorOrA
namespace Go.Proofs.YtclapbpkkaljgaaGreatDoor
open Go.ChangeShapes Go.WideShapes Go.ChangeAt Go.RowKit Go.Joins Go.PlainAid

theorem cells49 : Tryz.prog.cellsOf 43 = 7 := by kernel_rfl
theorem cells47 : Tryz.prog.cellsOf 41 = 6 := by kernel_rfl
theorem cells26 : Tryz.prog.cellsOf 26 = 1 := by kernel_rfl
theorem cells23 : Tryz.prog.cellsOf 23 = 2 := by kernel_rfl
theorem cells25 : Tryz.prog.cellsOf 25 = 3 := by kernel_rfl
theorem cells28 : Tryz.prog.cellsOf 28 = 8 := by kernel_rfl
theorem bytes9 : Tryz.prog.bytesOf 9 = 16 := by kernel_rfl
theorem bytes49 : Tryz.prog.bytesOf 43 = 88 := by kernel_rfl

theorem weights_all {H : Type} {P : Program} {e : TypeId} {d : DataW H} : ∀ {l : List (DataW H)}, d ∈ l → ∀ n ∈ d.weights P e, n ∈ DataW.weightsAll P e l
  | [], h => by cases h
  | x :: l, h => fun n hn => by
    rw [DataW.weightsAll, List.mem_append]
    rcases List.mem_cons.1 h with rfl | h
    · exact .inl hn
    · exact .inr (weights_all h n hn)
theorem Ts.len_eq {W : World} {ao : Option Addr} {n c : Nat} {l : List ByteArray} (h : Ts W (.slice ao n c) l) : n = l.length := by
  obtain ⟨a, cap, e, _⟩ := h.ex
  simp at e
  exact e.2.1
theorem texts_weight {H : Type} {enc : TypeId × Value → H} {W : World} {fuel : Nat} {v : Value} {y : DataW H × List MemPlace} {l : List ByteArray} {B : Nat}
    (hf : DataW.trod enc Tryz.prog W 0 (fun _ => true) true fuel 39 [v] = some y) (hT : Ts W v l) (hB : ∀ n ∈ y.1.weights Tryz.prog 39, n ≤ B) : l.length * 16 ≤ B := by
  rcases Go.Deep.open_slice Tryz.underlying39 hf with ⟨hcs, hx⟩ | ⟨a, len, cap, m, n, D, Pl, hcs, _, hl, hm, hmm, hx, hel⟩
  · simp at hcs
    subst hcs
    have := hT.len_eq
    omega
  · simp at hcs
    subst hcs
    have e := hT.len_eq
    subst hx
    have hw : (DataW.slice ((List.range len).map D) ((List.range (m - len)).map fun j => D (len + j))).weights Tryz.prog 39 = (((List.range len).map D).length + ((List.range (m - len)).map fun j => D (len + j)).length) * Tryz.prog.bytesOf 9 :: (DataW.weightsAll Tryz.prog 9 ((List.range len).map D) ++ DataW.weightsAll Tryz.prog 9 ((List.range (m - len)).map fun j => D (len + j))) := by
      rw [DataW.weights]
      rw [Tryz.underlying39]
    simp only [] at hB
    rw [hw] at hB
    have h2 := hB _ (List.mem_cons_self ..)
    rw [bytes9] at h2
    simp only [List.length_map, List.length_range] at h2
    omega

set_option maxRecDepth 100000 in
/-- six cells that read as a value: what it weighs -/
theorem cells6_weight {H : Type} {enc : TypeId × Value → H} {W : World} {fuel : Nat} {c0 c1 c2 c3 c4 c5 : Value} {x : DataW H × List MemPlace} {l : List ByteArray} {B : Nat}
    (hf : DataW.trod enc Tryz.prog W 0 (fun _ => true) true fuel 41 [c0, c1, c2, c3, c4, c5] = some x) (hT : Ts W c5 l) (hB : ∀ n ∈ x.1.weights Tryz.prog 41, n ≤ B) : l.length * 16 ≤ B := by
  obtain ⟨y0, y1, y2, y3, y4, y5, n, hx, _, g0, g1, g2, g3, g4, g5⟩ := trod_struct6 Tryz.underlying41 hf
  simp only [cellsT24, List.drop_zero, List.drop_succ_cons, List.take_succ_cons, List.take_zero] at g5
  refine texts_weight g5 hT (fun n hn => hB n ?_)
  rw [hx, DataW.weights]
  rw [Tryz.underlying41]
  simp only [DataW.weightsEach, List.map_cons, List.map_nil, List.mem_append]
  simp [hn]

set_option maxRecDepth 100000 in
/-- an argument's cells -/
theorem open_arg {H : Type} {enc : TypeId × Value → H} {W : World} {fuel b o : Nat} {cs : List Value} {x : DataW H × List MemPlace} (hc : ∀ i, i < 7 → W.cell? ⟨b, o + i, none⟩ = cs[i]?)
    (hf : DataW.trod enc Tryz.prog W 0 (fun _ => true) true fuel 43 cs = some x) :
    ∃ p : AD, p.val.Ok ∧ p.nm.size ≤ 9223372036854775807 ∧ (∃ u, ArgC W b o p u ∧ Ts W u p.val.texts) ∧ ∀ B, (∀ n ∈ x.1.weights Tryz.prog 43, n ≤ B) → p.val.texts.length * 16 ≤ B := by
  obtain ⟨y0, y1, n, rfl, hl, g0, g1⟩ := trod_struct2 Tryz.underlying43 hf
  rw [cells49] at hl
  match cs, hl with
  | [c0, c1, c2, c3, c4, c5, c6], _ =>
    simp only [cellsT9, cells47, List.drop_zero, List.drop_succ_cons, List.take_succ_cons, List.take_zero] at g0 g1
    obtain ⟨a0, e0, x0, w0⟩ := DataW.trod_string Tryz.underlying9 g0
    obtain rfl : c0 = .string a0 := by simpa using e0
    obtain ⟨p, hok, rfl, rfl, rfl, rfl, rfl, ht⟩ := open_cells6 g1
    simp only [maxLen] at w0
    refine ⟨⟨a0, p⟩, hok, by show a0.size ≤ _; omega, ⟨c6, ⟨by simpa using hc 0 (by omega), by simpa using hc 1 (by omega), by simpa using hc 2 (by omega), by simpa using hc 3 (by omega), by simpa using hc 4 (by omega), by simpa using hc 5 (by omega), by simpa using hc 6 (by omega)⟩, ht⟩, fun B hB => ?_⟩
    refine cells6_weight g1 ht (fun n hn => hB n ?_)
    rw [DataW.weights]
    rw [Tryz.underlying43]
    simp only [DataW.weightsEach, List.map_cons, List.map_nil, List.mem_append]
    simp [hn]

set_option maxRecDepth 100000 in
/-- a slice of arguments -/
theorem open_args {H : Type} {enc : TypeId × Value → H} {W : World} {fuel : Nat} {v : Value} {y : DataW H × List MemPlace}
    (hf : DataW.trod enc Tryz.prog W 0 (fun _ => true) true fuel 26 [v] = some y) :
    ∃ l : List AD, As W v l ∧ ∀ B, (∀ n ∈ y.1.weights Tryz.prog 26, n ≤ B) → l.length * 88 ≤ B ∧ ∀ x ∈ l, x.val.texts.length * 16 ≤ B := by
  rcases Go.Deep.open_slice Tryz.underlying26 hf with ⟨hcs, hx⟩ | ⟨a, len, cap, m, n, D, Pl, hcs, _, hl, hm, hmm, hx, hel⟩
  · simp at hcs
    subst hcs
    exact ⟨[], ⟨by simp, none, 0, rfl, by simp, by omega, fun h => absurd rfl h⟩, fun B _ => ⟨by simp, by simp⟩⟩
  · simp at hcs
    subst hcs
    simp only [if_true] at hmm
    subst hmm
    obtain ⟨b, off, spot⟩ := a
    rw [cells49] at hel
    have hw : y.1.weights Tryz.prog 26 = (((List.range len).map D).length + ((List.range (m - len)).map fun j => D (len + j)).length) * Tryz.prog.bytesOf 43 :: (DataW.weightsAll Tryz.prog 43 ((List.range len).map D) ++ DataW.weightsAll Tryz.prog 43 ((List.range (m - len)).map fun j => D (len + j))) := by
      rw [hx, DataW.weights]
      rw [Tryz.underlying26]
    rcases Nat.eq_zero_or_pos len with h0 | h0
    · subst h0
      exact ⟨[], ⟨by simp, some ⟨b, off, spot⟩, m, rfl, by simp, by simp only [maxLen] at hm; omega, fun h => absurd rfl h⟩, fun B _ => ⟨by simp, by simp⟩⟩
    · have hspot : spot = none := by
        obtain ⟨cs', h1, h2⟩ := hel 0 (by omega)
        obtain ⟨_, h3, h4⟩ := World.cells?_some h1
        have h5 := h4 0 (by omega)
        rw [List.getElem?_eq_getElem (by omega)] at h5
        have := World.cell?_spot h5
        simpa [Addr.add] using this
      subst hspot
      obtain ⟨l, hlen, hl2⟩ := list_of (Q := fun i (p : AD) => p.val.Ok ∧ (∃ u, ArgC W b (off + i * 7) p u ∧ Ts W u p.val.texts) ∧ ∀ B, (∀ n ∈ (D i).weights Tryz.prog 43, n ≤ B) → p.val.texts.length * 16 ≤ B) len (fun i hi => by
        obtain ⟨cs', h1, h2⟩ := hel i (by omega)
        rw [add_plain] at h1
        obtain ⟨_, h3, h4⟩ := World.cells?_some h1
        obtain ⟨p, q1, _, q2, q3⟩ := open_arg (b := b) (o := off + i * 7) (fun k hk => by have := h4 k hk; rwa [add_plain] at this) h2
        exact ⟨p, q1, q2, q3⟩)
      refine ⟨l, ⟨fun x hx => ?_, some ⟨b, off, none⟩, m, by rw [hlen], by omega, by simp only [maxLen] at hm; omega, fun _ => ⟨b, off, rfl, fun i hi => (hl2 i hi).2.1⟩⟩, fun B hB => ⟨?_, fun x hx => ?_⟩⟩
      · obtain ⟨i, hi, rfl⟩ := List.getElem_of_mem hx
        exact (hl2 i hi).1
      · have h2 := hB _ (by rw [hw]; exact List.mem_cons_self ..)
        rw [bytes49] at h2
        simp only [List.length_map, List.length_range] at h2
        omega
      · obtain ⟨i, hi, rfl⟩ := List.getElem_of_mem hx
        refine (hl2 i hi).2.2 B (fun n hn => hB n ?_)
        rw [hw]
        refine List.mem_cons_of_mem _ (List.mem_append_left _ (weights_all (d := D i) ?_ n hn))
        exact List.mem_map.2 ⟨i, List.mem_range.2 (by omega), rfl⟩

theorem trod_struct5 {H : Type} {enc : TypeId × Value → H} {P : Program} {w : World} {base : Nat} {spare : Nat → Bool} {held : Bool} {t : TypeId} {f0 f1 f2 f3 f4 : Field} {fuel : Nat} {cs : List Value} {x : DataW H × List MemPlace} (ht : P.underlying t = some (.struct #[f0, f1, f2, f3, f4])) (h : DataW.trod enc P w base spare held fuel t cs = some x) :
    ∃ y0 y1 y2 y3 y4 n, x.1 = .agg [y0.1, y1.1, y2.1, y3.1, y4.1] ∧ cs.length = P.cellsOf t ∧ DataW.trod enc P w base spare held n f0.type ((cs.drop f0.offset).take (P.cellsOf f0.type)) = some y0 ∧
      DataW.trod enc P w base spare held n f1.type ((cs.drop f1.offset).take (P.cellsOf f1.type)) = some y1 ∧ DataW.trod enc P w base spare held n f2.type ((cs.drop f2.offset).take (P.cellsOf f2.type)) = some y2 ∧
      DataW.trod enc P w base spare held n f3.type ((cs.drop f3.offset).take (P.cellsOf f3.type)) = some y3 ∧ DataW.trod enc P w base spare held n f4.type ((cs.drop f4.offset).take (P.cellsOf f4.type)) = some y4 := by
  obtain ⟨xs, n, _, rfl, hl, hlen, hf⟩ := DataW.trod_struct ht h
  match xs, hlen with
  | [y0, y1, y2, y3, y4], _ => exact ⟨y0, y1, y2, y3, y4, n, by simp, hl, by simpa using hf 0 f0 rfl, by simpa using hf 1 f1 rfl, by simpa using hf 2 f2 rfl, by simpa using hf 3 f3 rfl, by simpa using hf 4 f4 rfl⟩
theorem trod_struct3 {H : Type} {enc : TypeId × Value → H} {P : Program} {w : World} {base : Nat} {spare : Nat → Bool} {held : Bool} {t : TypeId} {f0 f1 f2 : Field} {fuel : Nat} {cs : List Value} {x : DataW H × List MemPlace} (ht : P.underlying t = some (.struct #[f0, f1, f2])) (h : DataW.trod enc P w base spare held fuel t cs = some x) :
    ∃ y0 y1 y2 n, x.1 = .agg [y0.1, y1.1, y2.1] ∧ cs.length = P.cellsOf t ∧ DataW.trod enc P w base spare held n f0.type ((cs.drop f0.offset).take (P.cellsOf f0.type)) = some y0 ∧
      DataW.trod enc P w base spare held n f1.type ((cs.drop f1.offset).take (P.cellsOf f1.type)) = some y1 ∧ DataW.trod enc P w base spare held n f2.type ((cs.drop f2.offset).take (P.cellsOf f2.type)) = some y2 := by
  obtain ⟨xs, n, _, rfl, hl, hlen, hf⟩ := DataW.trod_struct ht h
  match xs, hlen with
  | [y0, y1, y2], _ => exact ⟨y0, y1, y2, n, by simp, hl, by simpa using hf 0 f0 rfl, by simpa using hf 1 f1 rfl, by simpa using hf 2 f2 rfl⟩

/-- a text's cell -/
theorem open_str {H : Type} {enc : TypeId × Value → H} {W : World} {fuel : Nat} {c : Value} {x : DataW H × List MemPlace} (hf : DataW.trod enc Tryz.prog W 0 (fun _ => true) true fuel 9 [c] = some x) :
    ∃ s : ByteArray, c = .string s ∧ s.size ≤ 9223372036854775807 ∧ ∀ B, (∀ n ∈ x.1.weights Tryz.prog 9, n ≤ B) → s.size ≤ B := by
  obtain ⟨a0, e0, x0, w0⟩ := DataW.trod_string Tryz.underlying9 hf
  simp only [maxLen] at w0
  refine ⟨a0, by simpa using e0, by omega, fun B hB => ?_⟩
  have := hB a0.data.toList.length (by rw [x0, DataW.weights]; simp)
  rw [Array.length_toList] at this
  exact this

/-- the texts of a tuple or filter: none is longer than B -/
structure K7.Le (x : K7) (B : Nat) : Prop where
  a : x.a.size ≤ B
  b : x.b.size ≤ B
  c : x.c.size ≤ B
  d : x.d.size ≤ B
  e : x.e.size ≤ B
  f : x.f.size ≤ B
  g : x.g.size ≤ B

set_option maxRecDepth 100000 in
/-- an argument that is a tuple -/
theorem open_tuple {H : Type} {enc : TypeId × Value → H} {W : World} {base : Nat} {v : Value} {d : DataW H} {p : List MemPlace}
    (hv : Value.okWide Tryz.prog W .any base 28 v) (h : DataW.Trod enc Tryz.prog W 0 (fun _ => true) true 28 v d p) :
    ∃ (x : K7) (u : Value) (l : List AD), v = x.tup u ∧ x.Le 9223372036854775807 ∧ As W u l ∧ ∀ B, (∀ n ∈ d.weights Tryz.prog 28, n ≤ B) → x.Le B ∧ l.length * 88 ≤ B ∧ ∀ x ∈ l, x.val.texts.length * 16 ≤ B := by
  obtain ⟨cs, rfl, hsz⟩ := okWide_struct Tryz.underlying28 hv
  obtain ⟨fuel, hf⟩ := h
  have hsz' : cs.size = 8 := hsz.trans cells28
  obtain ⟨l⟩ := cs
  match l, hsz' with
  | [c0, c1, c2, c3, c4, c5, c6, c7], _ =>
    have hf' : DataW.trod enc Tryz.prog W 0 (fun _ => true) true fuel 28 [c0, c1, c2, c3, c4, c5, c6, c7] = some (d, p) := by simpa [Value.cells] using hf
    obtain ⟨y0, y1, y2, y3, y4, n, hx, _, g0, g1, g2, g3, g4⟩ := trod_struct5 Tryz.underlying28 hf'
    simp only [cellsT9, cells23, cells25, cells26, List.drop_zero, List.drop_succ_cons, List.take_succ_cons, List.take_zero] at g0 g1 g2 g3 g4
    obtain ⟨z0, z1, n0, hx0, _, g00, g01⟩ := trod_struct2 Tryz.underlying23 g0
    simp only [cellsT9, List.drop_zero, List.drop_succ_cons, List.take_succ_cons, List.take_zero] at g00 g01
    obtain ⟨z2, z3, z4, n2, hx2, _, g20, g21, g22⟩ := trod_struct3 Tryz.underlying25 g2
    simp only [cellsT9, List.drop_zero, List.drop_succ_cons, List.take_succ_cons, List.take_zero] at g20 g21 g22
    obtain ⟨s0, rfl, q0, r0⟩ := open_str g00
    obtain ⟨s1, rfl, q1, r1⟩ := open_str g01
    obtain ⟨s2, rfl, q2, r2⟩ := open_str g1
    obtain ⟨s3, rfl, q3, r3⟩ := open_str g20
    obtain ⟨s4, rfl, q4, r4⟩ := open_str g21
    obtain ⟨s5, rfl, q5, r5⟩ := open_str g22
    obtain ⟨s6, rfl, q6, r6⟩ := open_str g3
    obtain ⟨l, hl, hw⟩ := open_args g4
    refine ⟨⟨s0, s1, s2, s3, s4, s5, s6⟩, c7, l, rfl, ⟨q0, q1, q2, q3, q4, q5, q6⟩, hl, fun B hB => ?_⟩
    simp only [] at hx
    subst hx
    rw [DataW.weights] at hB
    rw [Tryz.underlying28] at hB
    simp only [DataW.weightsEach, List.map_cons, List.map_nil, List.mem_append] at hB
    have hB0 : ∀ n ∈ y0.1.weights Tryz.prog 23, n ≤ B := fun n hn => hB n (by simp [hn])
    have hB2 : ∀ n ∈ y2.1.weights Tryz.prog 25, n ≤ B := fun n hn => hB n (by simp [hn])
    rw [hx0, DataW.weights] at hB0
    rw [Tryz.underlying23] at hB0
    simp only [DataW.weightsEach, List.map_cons, List.map_nil, List.mem_append] at hB0
    rw [hx2, DataW.weights] at hB2
    rw [Tryz.underlying25] at hB2
    simp only [DataW.weightsEach, List.map_cons, List.map_nil, List.mem_append] at hB2
    refine ⟨⟨r0 B (fun n hn => hB0 n (by simp [hn])), r1 B (fun n hn => hB0 n (by simp [hn])), r2 B (fun n hn => hB n (by simp [hn])), r3 B (fun n hn => hB2 n (by simp [hn])), r4 B (fun n hn => hB2 n (by simp [hn])), r5 B (fun n hn => hB2 n (by simp [hn])), r6 B (fun n hn => hB n (by simp [hn]))⟩, hw B (fun n hn => hB n (by simp [hn]))⟩

end Go.Proofs.YtclapbpkkaljgaaGreatDoor
