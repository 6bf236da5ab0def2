/- A value that is handed in, read as data. -/
import Derived.Test.YtncbanpimfhhbaaGreatDoorChkW
import Derived.ProofKit
import Derived.OpenShut
import Derived.ChangeOld
import Derived.SizedLaws
import Derived.Lib.SmallJoins
import Derived.Deep.Slices
import Derived.Test.YtncbanpimfhhbaaGreatDoorArgY

namespace Go.Proofs.YtncbanpimfhhbaaGreatDoor
open Go.ChangeShapes Go.WideShapes Go.ChangeAt Go.RowKit Go.Joins Go.PlainAid

theorem laidOut : laidOutB Tryz.prog = true := by kernel_rfl
theorem cellsT2 : Tryz.prog.cellsOf 2 = 1 := by kernel_rfl
theorem cellsT3 : Tryz.prog.cellsOf 3 = 1 := by kernel_rfl
theorem cellsT4 : Tryz.prog.cellsOf 4 = 1 := by kernel_rfl
theorem cellsT9 : Tryz.prog.cellsOf 9 = 1 := by kernel_rfl
theorem cellsT24 : Tryz.prog.cellsOf 29 = 1 := by kernel_rfl
theorem cellsT26 : Tryz.prog.cellsOf 28 = 1 := by kernel_rfl
theorem cellsT28 : Tryz.prog.cellsOf 31 = 6 := by kernel_rfl

theorem list_of {α : Type} {Q : Nat → α → Prop} : ∀ (n : Nat), (∀ i, i < n → ∃ x, Q i x) → ∃ l : List α, l.length = n ∧ ∀ i (h : i < l.length), Q i l[i]
  | 0, _ => ⟨[], rfl, fun i h => by simp at h⟩
  | n + 1, h => by
    obtain ⟨l, h1, h2⟩ := list_of n (fun i hi => h i (by omega))
    obtain ⟨x, hx⟩ := h n (by omega)
    refine ⟨l ++ [x], by simp [h1], fun i hi => ?_⟩
    by_cases e : i < l.length
    · rw [List.getElem_append_left e]
      exact h2 i e
    · have : i = n := by simp at hi; omega
      subst this
      rw [List.getElem_append_right (by omega)]
      simpa [h1] using hx

/-- a slice of texts -/
theorem open_texts {H : Type} {enc : TypeId × Value → H} {W : World} {fuel : Nat} {v : Value} {y : DataW H × List MemPlace}
    (hf : DataW.trod enc Tryz.prog W 0 (fun _ => true) true fuel 29 [v] = some y) : ∃ l : List ByteArray, Ts W v l := by
  rcases Go.Deep.open_slice Tryz.underlying29 hf with ⟨hcs, hx⟩ | ⟨a, len, cap, m, n, D, Pl, hcs, _, hl, hm, hmm, hx, hel⟩
  · simp at hcs
    subst hcs
    exact ⟨[], Ts.nil W⟩
  · simp at hcs
    subst hcs
    simp only [if_true] at hmm
    subst hmm
    obtain ⟨b, off, spot⟩ := a
    rw [cellsT9] at hel
    rcases Nat.eq_zero_or_pos len with h0 | h0
    · subst h0
      exact ⟨[], some ⟨b, off, spot⟩, m, rfl, by simp, by simp only [maxLen] at hm; omega, (by intro s hs; cases hs), fun h => absurd rfl h⟩
    · have hspot : spot = none := by
        obtain ⟨cs', h1, h2⟩ := hel 0 (by omega)
        obtain ⟨_, h3, h4⟩ := World.cells?_some h1
        have h5 := h4 0 (by omega)
        rw [List.getElem?_eq_getElem (by omega)] at h5
        have := World.cell?_spot h5
        simpa [Addr.add] using this
      subst hspot
      obtain ⟨l, hlen, hl2⟩ := list_of (Q := fun i (s : ByteArray) => s.size ≤ 9223372036854775807 ∧ W.cell? ⟨b, off + i, none⟩ = some (.string s)) len (fun i hi => by
        obtain ⟨cs', h1, h2⟩ := hel i (by omega)
        rw [add_plain, Nat.mul_one] at h1
        obtain ⟨_, h3, h4⟩ := World.cells?_some h1
        obtain ⟨s, e, _, ws⟩ := DataW.trod_string Tryz.underlying9 h2
        have h5 := h4 0 (by omega)
        rw [e, add_plain, Nat.add_zero] at h5
        simp only [maxLen] at ws
        exact ⟨s, by omega, by simpa using h5⟩)
      refine ⟨l, some ⟨b, off, none⟩, m, by rw [hlen], by omega, by simp only [maxLen] at hm; omega, fun s hs => ?_, fun _ => ⟨b, off, rfl, fun i hi => (hl2 i hi).2⟩⟩
      obtain ⟨i, hi, rfl⟩ := List.getElem_of_mem hs
      exact (hl2 i hi).1

theorem trod_struct6 {H : Type} {enc : TypeId × Value → H} {P : Program} {w : World} {base : Nat} {spare : Nat → Bool} {held : Bool} {t : TypeId} {f0 f1 f2 f3 f4 f5 : Field} {fuel : Nat} {cs : List Value} {x : DataW H × List MemPlace} (ht : P.underlying t = some (.struct #[f0, f1, f2, f3, f4, f5])) (h : DataW.trod enc P w base spare held fuel t cs = some x) :
    ∃ y0 y1 y2 y3 y4 y5 n, x.1 = .agg [y0.1, y1.1, y2.1, y3.1, y4.1, y5.1] ∧ cs.length = P.cellsOf t ∧ DataW.trod enc P w base spare held n f0.type ((cs.drop f0.offset).take (P.cellsOf f0.type)) = some y0 ∧
      DataW.trod enc P w base spare held n f1.type ((cs.drop f1.offset).take (P.cellsOf f1.type)) = some y1 ∧ DataW.trod enc P w base spare held n f2.type ((cs.drop f2.offset).take (P.cellsOf f2.type)) = some y2 ∧
      DataW.trod enc P w base spare held n f3.type ((cs.drop f3.offset).take (P.cellsOf f3.type)) = some y3 ∧ DataW.trod enc P w base spare held n f4.type ((cs.drop f4.offset).take (P.cellsOf f4.type)) = some y4 ∧
      DataW.trod enc P w base spare held n f5.type ((cs.drop f5.offset).take (P.cellsOf f5.type)) = some y5 := by
  obtain ⟨xs, n, _, rfl, hl, hlen, hf⟩ := DataW.trod_struct ht h
  match xs, hlen with
  | [y0, y1, y2, y3, y4, y5], _ => exact ⟨y0, y1, y2, y3, y4, y5, n, by simp, hl, by simpa using hf 0 f0 rfl, by simpa using hf 1 f1 rfl, by simpa using hf 2 f2 rfl, by simpa using hf 3 f3 rfl, by simpa using hf 4 f4 rfl, by simpa using hf 5 f5 rfl⟩

theorem trod_f32 {H : Type} {enc : TypeId × Value → H} {P : Program} {w : World} {base : Nat} {spare : Nat → Bool} {held : Bool} {t : TypeId} {fuel : Nat} {cs : List Value} {x : DataW H × List MemPlace} (ht : P.underlying t = some (.float .f32)) (h : DataW.trod enc P w base spare held fuel t cs = some x) :
    ∃ n, cs = [.float .f32 n] ∧ x.1 = .lit (.float .f32 n) ∧ (Lit.float .f32 n).wf = true := by
  cases fuel with
  | zero => simp [DataW.trod] at h
  | succ n =>
    unfold DataW.trod at h
    rw [ht] at h
    split at h <;> simp_all
    obtain ⟨h1, h2⟩ := h
    rw [← h2]
theorem trod_boolean {H : Type} {enc : TypeId × Value → H} {P : Program} {w : World} {base : Nat} {spare : Nat → Bool} {held : Bool} {t : TypeId} {fuel : Nat} {cs : List Value} {x : DataW H × List MemPlace} (ht : P.underlying t = some .bool) (h : DataW.trod enc P w base spare held fuel t cs = some x) :
    ∃ b, cs = [.bool b] := by
  cases fuel with
  | zero => simp [DataW.trod] at h
  | succ n =>
    unfold DataW.trod at h
    rw [ht] at h
    split at h <;> simp_all

/-- six cells that read as a value -/
theorem open_cells6 {H : Type} {enc : TypeId × Value → H} {W : World} {fuel : Nat} {c0 c1 c2 c3 c4 c5 : Value} {x : DataW H × List MemPlace}
    (hf : DataW.trod enc Tryz.prog W 0 (fun _ => true) true fuel 31 [c0, c1, c2, c3, c4, c5] = some x) :
    ∃ p : VD, p.Ok ∧ c0 = .int .i64 p.kind ∧ c1 = .bool p.bool ∧ c2 = .int .i64 p.int ∧ c3 = .float .f32 p.real ∧ c4 = .string p.text ∧ Ts W c5 p.texts := by
  obtain ⟨y0, y1, y2, y3, y4, y5, n, hx, _, g0, g1, g2, g3, g4, g5⟩ := trod_struct6 Tryz.underlying31 hf
  simp only [cellsT2, cellsT3, cellsT4, cellsT9, cellsT24, cellsT26, List.drop_zero, List.drop_succ_cons, List.take_succ_cons, List.take_zero] at g0 g1 g2 g3 g4 g5
  obtain ⟨a0, e0, x0, w0⟩ := DataW.trod_int Tryz.underlying3 g0
  obtain ⟨a1, e1⟩ := trod_boolean Tryz.underlying4 g1
  obtain ⟨a2, e2, x2, w2⟩ := DataW.trod_int Tryz.underlying2 g2
  obtain ⟨a3, e3, x3, w3⟩ := trod_f32 Tryz.underlying28 g3
  obtain ⟨a4, e4, x4, w4⟩ := DataW.trod_string Tryz.underlying9 g4
  obtain ⟨l, hl⟩ := open_texts g5
  obtain rfl : c0 = .int .i64 a0 := by simpa using e0
  obtain rfl : c1 = .bool a1 := by simpa using e1
  obtain rfl : c2 = .int .i64 a2 := by simpa using e2
  obtain rfl : c3 = .float .f32 a3 := by simpa using e3
  obtain rfl : c4 = .string a4 := by simpa using e4
  have r0 : -9223372036854775808 ≤ a0 ∧ a0 ≤ 9223372036854775807 := by simpa [Lit.wf, IntKind.min, IntKind.max, IntKind.signed, IntKind.bits] using w0
  have r2 : -9223372036854775808 ≤ a2 ∧ a2 ≤ 9223372036854775807 := by simpa [Lit.wf, IntKind.min, IntKind.max, IntKind.signed, IntKind.bits] using w2
  have r3 : a3 < 4294967296 := by simpa [Lit.wf] using w3
  simp only [maxLen] at w4
  exact ⟨⟨a0, a1, a2, a3, a4, l⟩, ⟨r0.1, r0.2, r2.1, r2.2, r3, by simp only; omega⟩, rfl, rfl, rfl, rfl, rfl, hl⟩

set_option maxRecDepth 100000 in
/-- an argument that is a value -/
theorem open_value {H : Type} {enc : TypeId × Value → H} {W : World} {base : Nat} {v : Value} {d : DataW H} {p : List MemPlace}
    (hv : Value.okWide Tryz.prog W .any base 31 v) (h : DataW.Trod enc Tryz.prog W 0 (fun _ => true) true 31 v d p) : ∃ (x : VD) (u : Value), v = x.val u ∧ x.Ok ∧ Ts W u x.texts := by
  obtain ⟨cs, rfl, hsz⟩ := okWide_struct Tryz.underlying31 hv
  obtain ⟨fuel, hf⟩ := h
  have hsz' : cs.size = 6 := hsz.trans cellsT28
  obtain ⟨l⟩ := cs
  match l, hsz' with
  | [c0, c1, c2, c3, c4, c5], _ =>
    obtain ⟨x, hok, rfl, rfl, rfl, rfl, rfl, ht⟩ := open_cells6 (by simpa [Value.cells] using hf)
    exact ⟨x, c5, rfl, hok, ht⟩

end Go.Proofs.YtncbanpimfhhbaaGreatDoor


/- Arguments that are handed in, read as data; how much they weigh. -/
namespace Go.Proofs.YtncbanpimfhhbaaGreatDoor
open Go.ChangeShapes Go.WideShapes Go.ChangeAt Go.RowKit Go.Joins Go.PlainAid
set_option maxRecDepth 1000000

theorem cells34 : Tryz.prog.cellsOf 33 = 7 := by kernel_rfl
theorem cells32 : Tryz.prog.cellsOf 31 = 6 := by kernel_rfl
theorem bytes9 : Tryz.prog.bytesOf 9 = 16 := by kernel_rfl
theorem bytes34 : Tryz.prog.bytesOf 33 = 88 := by kernel_rfl

theorem weights_all {H : Type} {P : Program} {e : TypeId} {d : DataW H} : ∀ {l : List (DataW H)}, d ∈ l → ∀ n ∈ d.weights P e, n ∈ DataW.weightsAll P e l
  | [], h => by cases h
  | x :: l, h => fun n hn => by
    rw [DataW.weightsAll, List.mem_append]
    rcases List.mem_cons.1 h with rfl | h
    · exact .inl hn
    · exact .inr (weights_all h n hn)
theorem Ts.len_eq {W : World} {ao : Option Addr} {n c : Nat} {l : List ByteArray} (h : Ts W (.slice ao n c) l) : n = l.length := by
  obtain ⟨a, cap, e, _⟩ := h.ex
  simp at e
  exact e.2.1
theorem texts_weight {H : Type} {enc : TypeId × Value → H} {W : World} {fuel : Nat} {v : Value} {y : DataW H × List MemPlace} {l : List ByteArray} {B : Nat}
    (hf : DataW.trod enc Tryz.prog W 0 (fun _ => true) true fuel 29 [v] = some y) (hT : Ts W v l) (hB : ∀ n ∈ y.1.weights Tryz.prog 29, n ≤ B) : l.length * 16 ≤ B := by
  rcases Go.Deep.open_slice Tryz.underlying29 hf with ⟨hcs, hx⟩ | ⟨a, len, cap, m, n, D, Pl, hcs, _, hl, hm, hmm, hx, hel⟩
  · simp at hcs
    subst hcs
    have := hT.len_eq
    omega
  · simp at hcs
    subst hcs
    have e := hT.len_eq
    subst hx
    have hw : (DataW.slice ((List.range len).map D) ((List.range (m - len)).map fun j => D (len + j))).weights Tryz.prog 29 = (((List.range len).map D).length + ((List.range (m - len)).map fun j => D (len + j)).length) * Tryz.prog.bytesOf 9 :: (DataW.weightsAll Tryz.prog 9 ((List.range len).map D) ++ DataW.weightsAll Tryz.prog 9 ((List.range (m - len)).map fun j => D (len + j))) := by
      rw [DataW.weights]
      rw [Tryz.underlying29]
    simp only [] at hB
    rw [hw] at hB
    have h2 := hB _ (List.mem_cons_self ..)
    rw [bytes9] at h2
    simp only [List.length_map, List.length_range] at h2
    omega

/-- six cells that read as a value: what it weighs -/
theorem cells6_weight {H : Type} {enc : TypeId × Value → H} {W : World} {fuel : Nat} {c0 c1 c2 c3 c4 c5 : Value} {x : DataW H × List MemPlace} {l : List ByteArray} {B : Nat}
    (hf : DataW.trod enc Tryz.prog W 0 (fun _ => true) true fuel 31 [c0, c1, c2, c3, c4, c5] = some x) (hT : Ts W c5 l) (hB : ∀ n ∈ x.1.weights Tryz.prog 31, n ≤ B) : l.length * 16 ≤ B := by
  obtain ⟨y0, y1, y2, y3, y4, y5, n, hx, _, g0, g1, g2, g3, g4, g5⟩ := trod_struct6 Tryz.underlying31 hf
  simp only [cellsT24, List.drop_zero, List.drop_succ_cons, List.take_succ_cons, List.take_zero] at g5
  refine texts_weight g5 hT (fun n hn => hB n ?_)
  rw [hx, DataW.weights]
  rw [Tryz.underlying31]
  simp only [DataW.weightsEach, List.map_cons, List.map_nil, List.mem_append]
  simp [hn]

/-- an argument's cells -/
theorem open_arg {H : Type} {enc : TypeId × Value → H} {W : World} {fuel b o : Nat} {cs : List Value} {x : DataW H × List MemPlace} (hc : ∀ i, i < 7 → W.cell? ⟨b, o + i, none⟩ = cs[i]?)
    (hf : DataW.trod enc Tryz.prog W 0 (fun _ => true) true fuel 33 cs = some x) :
    ∃ p : AD, p.val.Ok ∧ p.nm.size ≤ 9223372036854775807 ∧ (∃ u, ArgC W b o p u ∧ Ts W u p.val.texts) ∧ ∀ B, (∀ n ∈ x.1.weights Tryz.prog 33, n ≤ B) → p.val.texts.length * 16 ≤ B := by
  obtain ⟨y0, y1, n, rfl, hl, g0, g1⟩ := trod_struct2 Tryz.underlying33 hf
  rw [cells34] at hl
  match cs, hl with
  | [c0, c1, c2, c3, c4, c5, c6], _ =>
    simp only [cellsT9, cells32, List.drop_zero, List.drop_succ_cons, List.take_succ_cons, List.take_zero] at g0 g1
    obtain ⟨a0, e0, x0, w0⟩ := DataW.trod_string Tryz.underlying9 g0
    obtain rfl : c0 = .string a0 := by simpa using e0
    obtain ⟨p, hok, rfl, rfl, rfl, rfl, rfl, ht⟩ := open_cells6 g1
    simp only [maxLen] at w0
    refine ⟨⟨a0, p⟩, hok, by show a0.size ≤ _; omega, ⟨c6, ⟨by simpa using hc 0 (by omega), by simpa using hc 1 (by omega), by simpa using hc 2 (by omega), by simpa using hc 3 (by omega), by simpa using hc 4 (by omega), by simpa using hc 5 (by omega), by simpa using hc 6 (by omega)⟩, ht⟩, fun B hB => ?_⟩
    refine cells6_weight g1 ht (fun n hn => hB n ?_)
    rw [DataW.weights]
    rw [Tryz.underlying33]
    simp only [DataW.weightsEach, List.map_cons, List.map_nil, List.mem_append]
    simp [hn]

/-- a slice of arguments -/
theorem open_args {H : Type} {enc : TypeId × Value → H} {W : World} {fuel : Nat} {v : Value} {y : DataW H × List MemPlace}
    (hf : DataW.trod enc Tryz.prog W 0 (fun _ => true) true fuel 22 [v] = some y) :
    ∃ l : List AD, As W v l ∧ (∀ x ∈ l, x.nm.size ≤ 9223372036854775807) ∧ ∀ B, (∀ n ∈ y.1.weights Tryz.prog 22, n ≤ B) → l.length * 88 ≤ B ∧ ∀ x ∈ l, x.val.texts.length * 16 ≤ B := by
  rcases Go.Deep.open_slice Tryz.underlying22 hf with ⟨hcs, hx⟩ | ⟨a, len, cap, m, n, D, Pl, hcs, _, hl, hm, hmm, hx, hel⟩
  · simp at hcs
    subst hcs
    exact ⟨[], ⟨by simp, none, 0, rfl, by simp, by omega, fun h => absurd rfl h⟩, by simp, fun B _ => ⟨by simp, by simp⟩⟩
  · simp at hcs
    subst hcs
    simp only [if_true] at hmm
    subst hmm
    obtain ⟨b, off, spot⟩ := a
    rw [cells34] at hel
    have hw : y.1.weights Tryz.prog 22 = (((List.range len).map D).length + ((List.range (m - len)).map fun j => D (len + j)).length) * Tryz.prog.bytesOf 33 :: (DataW.weightsAll Tryz.prog 33 ((List.range len).map D) ++ DataW.weightsAll Tryz.prog 33 ((List.range (m - len)).map fun j => D (len + j))) := by
      rw [hx, DataW.weights]
      rw [Tryz.underlying22]
    rcases Nat.eq_zero_or_pos len with h0 | h0
    · subst h0
      exact ⟨[], ⟨by simp, some ⟨b, off, spot⟩, m, rfl, by simp, by simp only [maxLen] at hm; omega, fun h => absurd rfl h⟩, by simp, fun B _ => ⟨by simp, by simp⟩⟩
    · have hspot : spot = none := by
        obtain ⟨cs', h1, h2⟩ := hel 0 (by omega)
        obtain ⟨_, h3, h4⟩ := World.cells?_some h1
        have h5 := h4 0 (by omega)
        rw [List.getElem?_eq_getElem (by omega)] at h5
        have := World.cell?_spot h5
        simpa [Addr.add] using this
      subst hspot
      obtain ⟨l, hlen, hl2⟩ := list_of (Q := fun i (p : AD) => (p.val.Ok ∧ p.nm.size ≤ 9223372036854775807) ∧ (∃ u, ArgC W b (off + i * 7) p u ∧ Ts W u p.val.texts) ∧ ∀ B, (∀ n ∈ (D i).weights Tryz.prog 33, n ≤ B) → p.val.texts.length * 16 ≤ B) len (fun i hi => by
        obtain ⟨cs', h1, h2⟩ := hel i (by omega)
        rw [add_plain] at h1
        obtain ⟨_, h3, h4⟩ := World.cells?_some h1
        obtain ⟨p, q1, q0, q2, q3⟩ := open_arg (b := b) (o := off + i * 7) (fun k hk => by have := h4 k hk; rwa [add_plain] at this) h2
        exact ⟨p, ⟨q1, q0⟩, q2, q3⟩)
      refine ⟨l, ⟨fun x hx => ?_, some ⟨b, off, none⟩, m, by rw [hlen], by omega, by simp only [maxLen] at hm; omega, fun _ => ⟨b, off, rfl, fun i hi => (hl2 i hi).2.1⟩⟩, fun x hx => ?_, fun B hB => ⟨?_, fun x hx => ?_⟩⟩
      · obtain ⟨i, hi, rfl⟩ := List.getElem_of_mem hx
        exact (hl2 i hi).1.1
      · obtain ⟨i, hi, rfl⟩ := List.getElem_of_mem hx
        exact (hl2 i hi).1.2
      · have h2 := hB _ (by rw [hw]; exact List.mem_cons_self ..)
        rw [bytes34] at h2
        simp only [List.length_map, List.length_range] at h2
        omega
      · obtain ⟨i, hi, rfl⟩ := List.getElem_of_mem hx
        refine (hl2 i hi).2.2 B (fun n hn => hB n ?_)
        rw [hw]
        refine List.mem_cons_of_mem _ (List.mem_append_left _ (weights_all (d := D i) ?_ n hn))
        exact List.mem_map.2 ⟨i, List.mem_range.2 (by omega), rfl⟩

end Go.Proofs.YtncbanpimfhhbaaGreatDoor
