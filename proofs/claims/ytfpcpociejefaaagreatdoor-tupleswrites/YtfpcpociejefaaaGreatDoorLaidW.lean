/- A value that is handed in, read as data. -/
import Derived.Test.YtfpcpociejefaaaGreatDoorValW
import Derived.ProofKit
import Derived.OpenShut
import Derived.ChangeOld
import Derived.SizedLaws
import Derived.Lib.SmallJoins
import Derived.Deep.Slices
import Derived.Test.YtfpcpociejefaaaGreatDoorArgY
import Derived.Test.YtfpcpociejefaaaGreatDoorLentW
import Derived.Test.YtfpcpociejefaaaGreatDoorTxQ
import Derived.Test.YtfpcpociejefaaaGreatDoorRows
import Derived.LaidMore
import Derived.Stop.Joined
import Derived.Lib.LaidU8
import Derived.Shelf.Vars
import Derived.Lay
import Derived.Test.YtfpcpociejefaaaGreatDoorSaB

namespace Go.Proofs.YtfpcpociejefaaaGreatDoor
open Go.ChangeShapes Go.WideShapes Go.ChangeAt Go.RowKit Go.Joins Go.PlainAid
theorem laidOut : laidOutB Tryz.prog = true := by kernel_rfl
theorem cellsT2 : Tryz.prog.cellsOf 2 = 1 := by kernel_rfl
theorem cellsT3 : Tryz.prog.cellsOf 3 = 1 := by kernel_rfl
theorem cellsT4 : Tryz.prog.cellsOf 4 = 1 := by kernel_rfl
theorem cellsT9 : Tryz.prog.cellsOf 9 = 1 := by kernel_rfl
theorem cellsT24 : Tryz.prog.cellsOf 59 = 1 := by kernel_rfl
theorem cellsT26 : Tryz.prog.cellsOf 58 = 1 := by kernel_rfl
theorem list_of {α : Type} {Q : Nat → α → Prop} : ∀ (n : Nat), (∀ i, i < n → ∃ x, Q i x) → ∃ l : List α, l.length = n ∧ ∀ i (h : i < l.length), Q i l[i]
 | 0, _ => ⟨[], rfl, fun i h => by simp at h⟩
 | n + 1, h => by
  obtain ⟨l, h1, h2⟩ := list_of n (fun i hi => h i (by omega))
  obtain ⟨x, hx⟩ := h n (by omega)
  refine ⟨l ++ [x], by simp [h1], fun i hi => ?_⟩
  by_cases e : i < l.length
  ·rw [List.getElem_append_left e]
   exact h2 i e
  ·have : i = n := by simp at hi; omega
   subst this
   rw [List.getElem_append_right (by omega)]
   simpa [h1] using hx
/-- a slice of texts -/
theorem open_texts {H : Type} {enc : TypeId × Value → H} {W : World} {fuel : Nat} {v : Value} {y : DataW H × List MemPlace}
  (hf : DataW.trod enc Tryz.prog W 0 (fun _ => true) true fuel 59 [v] = some y) : ∃ l : List ByteArray, Ts W v l := by
 rcases Go.Deep.open_slice Tryz.underlying59 hf with ⟨hcs, hx⟩ | ⟨a, len, cap, m, n, D, Pl, hcs, _, hl, hm, hmm, hx, hel⟩
 ·simp at hcs
  subst hcs
  exact ⟨[], Ts.nil W⟩
 ·simp at hcs
  subst hcs
  simp only [if_true] at hmm
  subst hmm
  obtain ⟨b, off, spot⟩ := a
  rw [cellsT9] at hel
  rcases Nat.eq_zero_or_pos len with h0 | h0
  ·subst h0
   exact ⟨[], some ⟨b, off, spot⟩, m, rfl, by simp, by simp only [maxLen] at hm; omega, (by intro s hs; cases hs), fun h => absurd rfl h⟩
  ·have hspot : spot = none := by
    obtain ⟨cs', h1, h2⟩ := hel 0 (by omega)
    obtain ⟨_, h3, h4⟩ := World.cells?_some h1
    have h5 := h4 0 (by omega)
    rw [List.getElem?_eq_getElem (by omega)] at h5
    have := World.cell?_spot h5
    simpa [Addr.add] using this
   subst hspot
   obtain ⟨l, hlen, hl2⟩ := list_of (Q := fun i (s : ByteArray) => s.size ≤ 9223372036854775807 ∧ W.cell? ⟨b, off + i, none⟩ = some (.string s)) len (fun i hi => by
    obtain ⟨cs', h1, h2⟩ := hel i (by omega)
    rw [add_plain, Nat.mul_one] at h1
    obtain ⟨_, h3, h4⟩ := World.cells?_some h1
    obtain ⟨s, e, _, ws⟩ := DataW.trod_string Tryz.underlying9 h2
    have h5 := h4 0 (by omega)
    rw [e, add_plain, Nat.add_zero] at h5
    simp only [maxLen] at ws
    exact ⟨s, by omega, by simpa using h5⟩)
   refine ⟨l, some ⟨b, off, none⟩, m, by rw [hlen], by omega, by simp only [maxLen] at hm; omega, fun s hs => ?_, fun _ => ⟨b, off, rfl, fun i hi => (hl2 i hi).2⟩⟩
   obtain ⟨i, hi, rfl⟩ := List.getElem_of_mem hs
   exact (hl2 i hi).1
theorem trod_struct6 {H : Type} {enc : TypeId × Value → H} {P : Program} {w : World} {base : Nat} {spare : Nat → Bool} {held : Bool} {t : TypeId} {f0 f1 f2 f3 f4 f5 : Field} {fuel : Nat} {cs : List Value} {x : DataW H × List MemPlace} (ht : P.underlying t = some (.struct #[f0, f1, f2, f3, f4, f5])) (h : DataW.trod enc P w base spare held fuel t cs = some x) :
  ∃ y0 y1 y2 y3 y4 y5 n, x.1 = .agg [y0.1, y1.1, y2.1, y3.1, y4.1, y5.1] ∧ cs.length = P.cellsOf t ∧ DataW.trod enc P w base spare held n f0.type ((cs.drop f0.offset).take (P.cellsOf f0.type)) = some y0 ∧
   DataW.trod enc P w base spare held n f1.type ((cs.drop f1.offset).take (P.cellsOf f1.type)) = some y1 ∧ DataW.trod enc P w base spare held n f2.type ((cs.drop f2.offset).take (P.cellsOf f2.type)) = some y2 ∧
   DataW.trod enc P w base spare held n f3.type ((cs.drop f3.offset).take (P.cellsOf f3.type)) = some y3 ∧ DataW.trod enc P w base spare held n f4.type ((cs.drop f4.offset).take (P.cellsOf f4.type)) = some y4 ∧
   DataW.trod enc P w base spare held n f5.type ((cs.drop f5.offset).take (P.cellsOf f5.type)) = some y5 := by
 obtain ⟨xs, n, _, rfl, hl, hlen, hf⟩ := DataW.trod_struct ht h
 match xs, hlen with
 | [y0, y1, y2, y3, y4, y5], _ => exact ⟨y0, y1, y2, y3, y4, y5, n, by simp, hl, by simpa using hf 0 f0 rfl, by simpa using hf 1 f1 rfl, by simpa using hf 2 f2 rfl, by simpa using hf 3 f3 rfl, by simpa using hf 4 f4 rfl, by simpa using hf 5 f5 rfl⟩
theorem trod_f32 {H : Type} {enc : TypeId × Value → H} {P : Program} {w : World} {base : Nat} {spare : Nat → Bool} {held : Bool} {t : TypeId} {fuel : Nat} {cs : List Value} {x : DataW H × List MemPlace} (ht : P.underlying t = some (.float .f32)) (h : DataW.trod enc P w base spare held fuel t cs = some x) :
  ∃ n, cs = [.float .f32 n] ∧ x.1 = .lit (.float .f32 n) ∧ (Lit.float .f32 n).wf = true := by
 cases fuel with
 | zero => simp [DataW.trod] at h
 | succ n =>
  unfold DataW.trod at h
  rw [ht] at h
  split at h <;> simp_all
  obtain ⟨h1, h2⟩ := h
  rw [← h2]
theorem trod_boolean {H : Type} {enc : TypeId × Value → H} {P : Program} {w : World} {base : Nat} {spare : Nat → Bool} {held : Bool} {t : TypeId} {fuel : Nat} {cs : List Value} {x : DataW H × List MemPlace} (ht : P.underlying t = some .bool) (h : DataW.trod enc P w base spare held fuel t cs = some x) :
  ∃ b, cs = [.bool b] := by
 cases fuel with
 | zero => simp [DataW.trod] at h
 | succ n =>
  unfold DataW.trod at h
  rw [ht] at h
  split at h <;> simp_all
/-- six cells that read as a value -/
theorem open_cells6 {H : Type} {enc : TypeId × Value → H} {W : World} {fuel : Nat} {c0 c1 c2 c3 c4 c5 : Value} {x : DataW H × List MemPlace}
  (hf : DataW.trod enc Tryz.prog W 0 (fun _ => true) true fuel 61 [c0, c1, c2, c3, c4, c5] = some x) :
  ∃ p : VD, p.Ok ∧ c0 = .int .i64 p.kind ∧ c1 = .bool p.bool ∧ c2 = .int .i64 p.int ∧ c3 = .float .f32 p.real ∧ c4 = .string p.text ∧ Ts W c5 p.texts := by
 obtain ⟨y0, y1, y2, y3, y4, y5, n, hx, _, g0, g1, g2, g3, g4, g5⟩ := trod_struct6 Tryz.underlying61 hf
 simp only [cellsT2, cellsT3, cellsT4, cellsT9, cellsT24, cellsT26, List.drop_zero, List.drop_succ_cons, List.take_succ_cons, List.take_zero] at g0 g1 g2 g3 g4 g5
 obtain ⟨a0, e0, x0, w0⟩ := DataW.trod_int Tryz.underlying3 g0
 obtain ⟨a1, e1⟩ := trod_boolean Tryz.underlying4 g1
 obtain ⟨a2, e2, x2, w2⟩ := DataW.trod_int Tryz.underlying2 g2
 obtain ⟨a3, e3, x3, w3⟩ := trod_f32 Tryz.underlying58 g3
 obtain ⟨a4, e4, x4, w4⟩ := DataW.trod_string Tryz.underlying9 g4
 obtain ⟨l, hl⟩ := open_texts g5
 obtain rfl : c0 = .int .i64 a0 := by simpa using e0
 obtain rfl : c1 = .bool a1 := by simpa using e1
 obtain rfl : c2 = .int .i64 a2 := by simpa using e2
 obtain rfl : c3 = .float .f32 a3 := by simpa using e3
 obtain rfl : c4 = .string a4 := by simpa using e4
 have r0 : -9223372036854775808 ≤ a0 ∧ a0 ≤ 9223372036854775807 := by simpa [Lit.wf, IntKind.min, IntKind.max, IntKind.signed, IntKind.bits] using w0
 have r2 : -9223372036854775808 ≤ a2 ∧ a2 ≤ 9223372036854775807 := by simpa [Lit.wf, IntKind.min, IntKind.max, IntKind.signed, IntKind.bits] using w2
 have r3 : a3 < 4294967296 := by simpa [Lit.wf] using w3
 simp only [maxLen] at w4
 exact ⟨⟨a0, a1, a2, a3, a4, l⟩, ⟨r0.1, r0.2, r2.1, r2.2, r3, by simp only; omega⟩, rfl, rfl, rfl, rfl, rfl, hl⟩
end Go.Proofs.YtfpcpociejefaaaGreatDoor

/- How much a value weighs: the length of its list of texts. -/
namespace Go.Proofs.YtfpcpociejefaaaGreatDoor
open Go.RowKit Go.PlainAid
theorem bytes9 : Tryz.prog.bytesOf 9 = 16 := by kernel_rfl
theorem Ts.len_eq {W : World} {ao : Option Addr} {n c : Nat} {l : List ByteArray} (h : Ts W (.slice ao n c) l) : n = l.length := by
 obtain ⟨a, cap, e, _⟩ := h.ex
 simp at e
 exact e.2.1
theorem texts_weight {H : Type} {enc : TypeId × Value → H} {W : World} {fuel : Nat} {v : Value} {y : DataW H × List MemPlace} {l : List ByteArray} {B : Nat}
  (hf : DataW.trod enc Tryz.prog W 0 (fun _ => true) true fuel 59 [v] = some y) (hT : Ts W v l) (hB : ∀ n ∈ y.1.weights Tryz.prog 59, n ≤ B) : l.length * 16 ≤ B := by
 rcases Go.Deep.open_slice Tryz.underlying59 hf with ⟨hcs, hx⟩ | ⟨a, len, cap, m, n, D, Pl, hcs, _, hl, hm, hmm, hx, hel⟩
 ·simp at hcs
  subst hcs
  have := hT.len_eq
  omega
 ·simp at hcs
  subst hcs
  have e := hT.len_eq
  subst hx
  have hw : (DataW.slice ((List.range len).map D) ((List.range (m - len)).map fun j => D (len + j))).weights Tryz.prog 59 = (((List.range len).map D).length + ((List.range (m - len)).map fun j => D (len + j)).length) * Tryz.prog.bytesOf 9 :: (DataW.weightsAll Tryz.prog 9 ((List.range len).map D) ++ DataW.weightsAll Tryz.prog 9 ((List.range (m - len)).map fun j => D (len + j))) := by
   rw [DataW.weights]
   rw [Tryz.underlying59]
  simp only [] at hB
  rw [hw] at hB
  have h2 := hB _ (List.mem_cons_self ..)
  rw [bytes9] at h2
  simp only [List.length_map, List.length_range] at h2
  omega
end Go.Proofs.YtfpcpociejefaaaGreatDoor

/- Arguments, tuples and filters that are handed in, read as data; how much they weigh. -/
namespace Go.Proofs.YtfpcpociejefaaaGreatDoor
open Go.ChangeShapes Go.WideShapes Go.ChangeAt Go.RowKit Go.Joins Go.PlainAid
theorem cells49 : Tryz.prog.cellsOf 63 = 7 := by kernel_rfl
theorem cells47 : Tryz.prog.cellsOf 61 = 6 := by kernel_rfl
theorem cells26 : Tryz.prog.cellsOf 26 = 1 := by kernel_rfl
theorem cells23 : Tryz.prog.cellsOf 23 = 2 := by kernel_rfl
theorem cells25 : Tryz.prog.cellsOf 25 = 3 := by kernel_rfl
theorem cells28 : Tryz.prog.cellsOf 28 = 8 := by kernel_rfl
theorem bytes49 : Tryz.prog.bytesOf 63 = 88 := by kernel_rfl
theorem weights_all {H : Type} {P : Program} {e : TypeId} {d : DataW H} : ∀ {l : List (DataW H)}, d ∈ l → ∀ n ∈ d.weights P e, n ∈ DataW.weightsAll P e l
 | [], h => by cases h
 | x :: l, h => fun n hn => by
  rw [DataW.weightsAll, List.mem_append]
  rcases List.mem_cons.1 h with rfl | h
  ·exact .inl hn
  ·exact .inr (weights_all h n hn)
/-- six cells that read as a value: what it weighs -/
theorem cells6_weight {H : Type} {enc : TypeId × Value → H} {W : World} {fuel : Nat} {c0 c1 c2 c3 c4 c5 : Value} {x : DataW H × List MemPlace} {l : List ByteArray} {B : Nat}
  (hf : DataW.trod enc Tryz.prog W 0 (fun _ => true) true fuel 61 [c0, c1, c2, c3, c4, c5] = some x) (hT : Ts W c5 l) (hB : ∀ n ∈ x.1.weights Tryz.prog 61, n ≤ B) : l.length * 16 ≤ B := by
 obtain ⟨y0, y1, y2, y3, y4, y5, n, hx, _, g0, g1, g2, g3, g4, g5⟩ := trod_struct6 Tryz.underlying61 hf
 simp only [cellsT24, List.drop_zero, List.drop_succ_cons, List.take_succ_cons, List.take_zero] at g5
 refine texts_weight g5 hT (fun n hn => hB n ?_)
 rw [hx, DataW.weights]
 rw [Tryz.underlying61]
 simp only [DataW.weightsEach, List.map_cons, List.map_nil, List.mem_append]
 simp [hn]
set_option maxRecDepth 1000000 in
theorem open_arg {H : Type} {enc : TypeId × Value → H} {W : World} {fuel b o : Nat} {cs : List Value} {x : DataW H × List MemPlace} (hc : ∀ i, i < 7 → W.cell? ⟨b, o + i, none⟩ = cs[i]?)
  (hf : DataW.trod enc Tryz.prog W 0 (fun _ => true) true fuel 63 cs = some x) :
  ∃ p : AD, p.val.Ok ∧ p.nm.size ≤ 9223372036854775807 ∧ (∃ u, ArgC W b o p u ∧ Ts W u p.val.texts) ∧ ∀ B, (∀ n ∈ x.1.weights Tryz.prog 63, n ≤ B) → p.val.texts.length * 16 ≤ B := by
 obtain ⟨y0, y1, n, rfl, hl, g0, g1⟩ := trod_struct2 Tryz.underlying63 hf
 rw [cells49] at hl
 match cs, hl with
 | [c0, c1, c2, c3, c4, c5, c6], _ =>
  simp only [cellsT9, cells47, List.drop_zero, List.drop_succ_cons, List.take_succ_cons, List.take_zero] at g0 g1
  obtain ⟨a0, e0, x0, w0⟩ := DataW.trod_string Tryz.underlying9 g0
  obtain rfl : c0 = .string a0 := by simpa using e0
  obtain ⟨p, hok, rfl, rfl, rfl, rfl, rfl, ht⟩ := open_cells6 g1
  simp only [maxLen] at w0
  refine ⟨⟨a0, p⟩, hok, by show a0.size ≤ _; omega, ⟨c6, ⟨hc 0 (by omega), hc 1 (by omega), hc 2 (by omega), hc 3 (by omega), hc 4 (by omega), hc 5 (by omega), hc 6 (by omega)⟩, ht⟩, fun B hB => ?_⟩
  refine cells6_weight g1 ht (fun n hn => hB n ?_)
  rw [DataW.weights]
  rw [Tryz.underlying63]
  simp only [DataW.weightsEach, List.map_cons, List.map_nil, List.mem_append]
  simp [hn]
/-- a slice of arguments -/
theorem open_args {H : Type} {enc : TypeId × Value → H} {W : World} {fuel : Nat} {v : Value} {y : DataW H × List MemPlace}
  (hf : DataW.trod enc Tryz.prog W 0 (fun _ => true) true fuel 26 [v] = some y) :
  ∃ l : List AD, As W v l ∧ ∀ B, (∀ n ∈ y.1.weights Tryz.prog 26, n ≤ B) → l.length * 88 ≤ B ∧ ∀ x ∈ l, x.val.texts.length * 16 ≤ B := by
 rcases Go.Deep.open_slice Tryz.underlying26 hf with ⟨hcs, hx⟩ | ⟨a, len, cap, m, n, D, Pl, hcs, _, hl, hm, hmm, hx, hel⟩
 ·simp at hcs
  subst hcs
  exact ⟨[], ⟨by simp, none, 0, rfl, by simp, by omega, fun h => absurd rfl h⟩, fun B _ => ⟨by simp, by simp⟩⟩
 ·simp at hcs
  subst hcs
  simp only [if_true] at hmm
  subst hmm
  obtain ⟨b, off, spot⟩ := a
  rw [cells49] at hel
  have hw : y.1.weights Tryz.prog 26 = (((List.range len).map D).length + ((List.range (m - len)).map fun j => D (len + j)).length) * Tryz.prog.bytesOf 63 :: (DataW.weightsAll Tryz.prog 63 ((List.range len).map D) ++ DataW.weightsAll Tryz.prog 63 ((List.range (m - len)).map fun j => D (len + j))) := by
   rw [hx, DataW.weights]
   rw [Tryz.underlying26]
  rcases Nat.eq_zero_or_pos len with h0 | h0
  ·subst h0
   exact ⟨[], ⟨by simp, some ⟨b, off, spot⟩, m, rfl, by simp, by simp only [maxLen] at hm; omega, fun h => absurd rfl h⟩, fun B _ => ⟨by simp, by simp⟩⟩
  ·have hspot : spot = none := by
    obtain ⟨cs', h1, h2⟩ := hel 0 (by omega)
    obtain ⟨_, h3, h4⟩ := World.cells?_some h1
    have h5 := h4 0 (by omega)
    rw [List.getElem?_eq_getElem (by omega)] at h5
    have := World.cell?_spot h5
    simpa [Addr.add] using this
   subst hspot
   obtain ⟨l, hlen, hl2⟩ := list_of (Q := fun i (p : AD) => p.val.Ok ∧ (∃ u, ArgC W b (off + i * 7) p u ∧ Ts W u p.val.texts) ∧ ∀ B, (∀ n ∈ (D i).weights Tryz.prog 63, n ≤ B) → p.val.texts.length * 16 ≤ B) len (fun i hi => by
    obtain ⟨cs', h1, h2⟩ := hel i (by omega)
    rw [add_plain] at h1
    obtain ⟨_, h3, h4⟩ := World.cells?_some h1
    obtain ⟨p, q1, _, q2, q3⟩ := open_arg (b := b) (o := off + i * 7) (fun k hk => by have := h4 k hk; rwa [add_plain] at this) h2
    exact ⟨p, q1, q2, q3⟩)
   refine ⟨l, ⟨fun x hx => ?_, some ⟨b, off, none⟩, m, by rw [hlen], by omega, by simp only [maxLen] at hm; omega, fun _ => ⟨b, off, rfl, fun i hi => (hl2 i hi).2.1⟩⟩, fun B hB => ⟨?_, fun x hx => ?_⟩⟩
   ·obtain ⟨i, hi, rfl⟩ := List.getElem_of_mem hx
    exact (hl2 i hi).1
   ·have h2 := hB _ (by rw [hw]; exact List.mem_cons_self ..)
    rw [bytes49] at h2
    simp only [List.length_map, List.length_range] at h2
    omega
   ·obtain ⟨i, hi, rfl⟩ := List.getElem_of_mem hx
    refine (hl2 i hi).2.2 B (fun n hn => hB n ?_)
    rw [hw]
    refine List.mem_cons_of_mem _ (List.mem_append_left _ (weights_all (d := D i) ?_ n hn))
    exact List.mem_map.2 ⟨i, List.mem_range.2 (by omega), rfl⟩
theorem trod_struct5 {H : Type} {enc : TypeId × Value → H} {P : Program} {w : World} {base : Nat} {spare : Nat → Bool} {held : Bool} {t : TypeId} {f0 f1 f2 f3 f4 : Field} {fuel : Nat} {cs : List Value} {x : DataW H × List MemPlace} (ht : P.underlying t = some (.struct #[f0, f1, f2, f3, f4])) (h : DataW.trod enc P w base spare held fuel t cs = some x) :
  ∃ y0 y1 y2 y3 y4 n, x.1 = .agg [y0.1, y1.1, y2.1, y3.1, y4.1] ∧ cs.length = P.cellsOf t ∧ DataW.trod enc P w base spare held n f0.type ((cs.drop f0.offset).take (P.cellsOf f0.type)) = some y0 ∧
   DataW.trod enc P w base spare held n f1.type ((cs.drop f1.offset).take (P.cellsOf f1.type)) = some y1 ∧ DataW.trod enc P w base spare held n f2.type ((cs.drop f2.offset).take (P.cellsOf f2.type)) = some y2 ∧
   DataW.trod enc P w base spare held n f3.type ((cs.drop f3.offset).take (P.cellsOf f3.type)) = some y3 ∧ DataW.trod enc P w base spare held n f4.type ((cs.drop f4.offset).take (P.cellsOf f4.type)) = some y4 := by
 obtain ⟨xs, n, _, rfl, hl, hlen, hf⟩ := DataW.trod_struct ht h
 match xs, hlen with
 | [y0, y1, y2, y3, y4], _ => exact ⟨y0, y1, y2, y3, y4, n, by simp, hl, by simpa using hf 0 f0 rfl, by simpa using hf 1 f1 rfl, by simpa using hf 2 f2 rfl, by simpa using hf 3 f3 rfl, by simpa using hf 4 f4 rfl⟩
theorem trod_struct3 {H : Type} {enc : TypeId × Value → H} {P : Program} {w : World} {base : Nat} {spare : Nat → Bool} {held : Bool} {t : TypeId} {f0 f1 f2 : Field} {fuel : Nat} {cs : List Value} {x : DataW H × List MemPlace} (ht : P.underlying t = some (.struct #[f0, f1, f2])) (h : DataW.trod enc P w base spare held fuel t cs = some x) :
  ∃ y0 y1 y2 n, x.1 = .agg [y0.1, y1.1, y2.1] ∧ cs.length = P.cellsOf t ∧ DataW.trod enc P w base spare held n f0.type ((cs.drop f0.offset).take (P.cellsOf f0.type)) = some y0 ∧
   DataW.trod enc P w base spare held n f1.type ((cs.drop f1.offset).take (P.cellsOf f1.type)) = some y1 ∧ DataW.trod enc P w base spare held n f2.type ((cs.drop f2.offset).take (P.cellsOf f2.type)) = some y2 := by
 obtain ⟨xs, n, _, rfl, hl, hlen, hf⟩ := DataW.trod_struct ht h
 match xs, hlen with
 | [y0, y1, y2], _ => exact ⟨y0, y1, y2, n, by simp, hl, by simpa using hf 0 f0 rfl, by simpa using hf 1 f1 rfl, by simpa using hf 2 f2 rfl⟩
/-- a text's cell -/
theorem open_str {H : Type} {enc : TypeId × Value → H} {W : World} {fuel : Nat} {c : Value} {x : DataW H × List MemPlace} (hf : DataW.trod enc Tryz.prog W 0 (fun _ => true) true fuel 9 [c] = some x) :
  ∃ s : ByteArray, c = .string s ∧ s.size ≤ 9223372036854775807 ∧ ∀ B, (∀ n ∈ x.1.weights Tryz.prog 9, n ≤ B) → s.size ≤ B := by
 obtain ⟨a0, e0, x0, w0⟩ := DataW.trod_string Tryz.underlying9 hf
 simp only [maxLen] at w0
 refine ⟨a0, by simpa using e0, by omega, fun B hB => ?_⟩
 have := hB a0.data.toList.length (by rw [x0, DataW.weights]; simp)
 rw [Array.length_toList] at this
 exact this
/-- the texts of a tuple or filter: none is longer than B -/
structure K7.Le (x : K7) (B : Nat) : Prop where
 a : x.a.size ≤ B
 b : x.b.size ≤ B
 c : x.c.size ≤ B
 d : x.d.size ≤ B
 e : x.e.size ≤ B
 f : x.f.size ≤ B
 g : x.g.size ≤ B
set_option maxRecDepth 100000 in
/-- an argument that is a tuple -/
theorem open_tuple {H : Type} {enc : TypeId × Value → H} {W : World} {base : Nat} {v : Value} {d : DataW H} {p : List MemPlace}
  (hv : Value.okWide Tryz.prog W .any base 28 v) (h : DataW.Trod enc Tryz.prog W 0 (fun _ => true) true 28 v d p) :
  ∃ (x : K7) (u : Value) (l : List AD), v = x.tup u ∧ x.Le 9223372036854775807 ∧ As W u l ∧ ∀ B, (∀ n ∈ d.weights Tryz.prog 28, n ≤ B) → x.Le B ∧ l.length * 88 ≤ B ∧ ∀ x ∈ l, x.val.texts.length * 16 ≤ B := by
 obtain ⟨cs, rfl, hsz⟩ := okWide_struct Tryz.underlying28 hv
 obtain ⟨fuel, hf⟩ := h
 have hsz' : cs.size = 8 := hsz.trans cells28
 obtain ⟨l⟩ := cs
 match l, hsz' with
 | [c0, c1, c2, c3, c4, c5, c6, c7], _ =>
  have hf' : DataW.trod enc Tryz.prog W 0 (fun _ => true) true fuel 28 [c0, c1, c2, c3, c4, c5, c6, c7] = some (d, p) := by simpa [Value.cells] using hf
  obtain ⟨y0, y1, y2, y3, y4, n, hx, _, g0, g1, g2, g3, g4⟩ := trod_struct5 Tryz.underlying28 hf'
  simp only [cellsT9, cells23, cells25, cells26, List.drop_zero, List.drop_succ_cons, List.take_succ_cons, List.take_zero] at g0 g1 g2 g3 g4
  obtain ⟨z0, z1, n0, hx0, _, g00, g01⟩ := trod_struct2 Tryz.underlying23 g0
  simp only [cellsT9, List.drop_zero, List.drop_succ_cons, List.take_succ_cons, List.take_zero] at g00 g01
  obtain ⟨z2, z3, z4, n2, hx2, _, g20, g21, g22⟩ := trod_struct3 Tryz.underlying25 g2
  simp only [cellsT9, List.drop_zero, List.drop_succ_cons, List.take_succ_cons, List.take_zero] at g20 g21 g22
  obtain ⟨s0, rfl, q0, r0⟩ := open_str g00
  obtain ⟨s1, rfl, q1, r1⟩ := open_str g01
  obtain ⟨s2, rfl, q2, r2⟩ := open_str g1
  obtain ⟨s3, rfl, q3, r3⟩ := open_str g20
  obtain ⟨s4, rfl, q4, r4⟩ := open_str g21
  obtain ⟨s5, rfl, q5, r5⟩ := open_str g22
  obtain ⟨s6, rfl, q6, r6⟩ := open_str g3
  obtain ⟨l, hl, hw⟩ := open_args g4
  refine ⟨⟨s0, s1, s2, s3, s4, s5, s6⟩, c7, l, rfl, ⟨q0, q1, q2, q3, q4, q5, q6⟩, hl, fun B hB => ?_⟩
  simp only [] at hx
  subst hx
  rw [DataW.weights] at hB
  rw [Tryz.underlying28] at hB
  simp only [DataW.weightsEach, List.map_cons, List.map_nil, List.mem_append] at hB
  have hB0 : ∀ n ∈ y0.1.weights Tryz.prog 23, n ≤ B := fun n hn => hB n (by simp [hn])
  have hB2 : ∀ n ∈ y2.1.weights Tryz.prog 25, n ≤ B := fun n hn => hB n (by simp [hn])
  rw [hx0, DataW.weights] at hB0
  rw [Tryz.underlying23] at hB0
  simp only [DataW.weightsEach, List.map_cons, List.map_nil, List.mem_append] at hB0
  rw [hx2, DataW.weights] at hB2
  rw [Tryz.underlying25] at hB2
  simp only [DataW.weightsEach, List.map_cons, List.map_nil, List.mem_append] at hB2
  refine ⟨⟨r0 B (fun n hn => hB0 n (by simp [hn])), r1 B (fun n hn => hB0 n (by simp [hn])), r2 B (fun n hn => hB n (by simp [hn])), r3 B (fun n hn => hB2 n (by simp [hn])), r4 B (fun n hn => hB2 n (by simp [hn])), r5 B (fun n hn => hB2 n (by simp [hn])), r6 B (fun n hn => hB n (by simp [hn]))⟩, hw B (fun n hn => hB n (by simp [hn]))⟩
end Go.Proofs.YtfpcpociejefaaaGreatDoor

/- Where the listed tables read as they are listed, the library's tables lie in memory, as far as they are read here. -/
namespace Go.Proofs.YtfpcpociejefaaaGreatDoor
open Go.ChangeShapes Go.WideShapes Go.ChangeAt Go.RowKit
abbrev laidL : List (String × DataW Unit) := Rows.tuplesWritesRow.laid
theorem cells66 : Tryz.prog.cellsOf 57 = 1 := by kernel_rfl
theorem cells207 : Tryz.prog.cellsOf 229 = 2 := by kernel_rfl
theorem laid_at {W : World} (h : laidMetH Tryz.prog laidL W) (k : Nat) (hk : k < laidL.length) : Lib.VarReads Tryz.prog W (laidL[k]).1 (laidL[k]).2 := by
 rw [MakeChecks.laidMetH_plain _ _ _ (by kernel_rfl)] at h
 exact Lib.laidMet.reads h (List.getElem_mem hk)
theorem rows_len : Go.Pinned.pow10Rows.length = 696 := by kernel_rfl
theorem rows_at (j : Nat) (hj : j < 77) : Go.Pinned.pow10Rows[317 + j]? = some (hiR j, loR j) := by
 have h : 317 + j < Go.Pinned.pow10Rows.length := by rw [rows_len]; omega
 unfold hiR loR
 rw [List.getD_eq_getElem?_getD, List.getElem?_eq_getElem h]
 rfl
set_option maxRecDepth 1000000 in
theorem pow_of {W : World} (h : laidMetH Tryz.prog laidL W) : TabR W := fun q hq => by
 obtain ⟨g, t, cs, f, p, hg, ht, hv, hd⟩ := laid_at h 9 (by decide)
 obtain rfl : g = 11 := Option.some.inj (hg.symm.trans (show _ = some 11 by kernel_rfl))
 obtain rfl : t = 230 := Option.some.inj (ht.symm.trans (show _ = some 230 by kernel_rfl))
 obtain ⟨xs, m1, rfl, hx1, hlen, hn3, hel⟩ := DataW.trod_array Tryz.underlying230 hd
 have hk' := hel (317 + q) (by omega)
 rw [cells207] at hk'
 have hx : 317 + q < xs.length := by rw [hn3]; omega
 rw [List.getElem?_eq_getElem hx] at hk'
 obtain ⟨y0, y1, n, e0, _, h0, h1⟩ := trod_struct2 Tryz.underlying229 hk'
 have c66 := cells66
 simp only [c66] at h0 h1
 obtain ⟨z0, a0, b0, _⟩ := DataW.trod_int Tryz.underlying57 h0
 obtain ⟨z1, a1, b1, _⟩ := DataW.trod_int Tryz.underlying57 h1
 have hc0 : cs.toList[(317 + q) * 2]? = some (.int .u64 z0) := by
  have := congrArg (·[0]?) a0
  simpa [List.getElem?_take, List.getElem?_drop] using this
 have hc1 : cs.toList[(317 + q) * 2 + 1]? = some (.int .u64 z1) := by
  have := congrArg (·[0]?) a1
  simpa [List.getElem?_take, List.getElem?_drop] using this
 have hd2 : (xs.map (·.1))[317 + q]? = some (.agg [.lit (.int .u64 z0), .lit (.int .u64 z1)]) := by
  rw [List.getElem?_map, List.getElem?_eq_getElem hx, e0, b0, b1]; rfl
 have hl : Go.Pinned.pow10Tab = DataW.agg (xs.map (·.1)) := congrArg Prod.fst hx1
 unfold Go.Pinned.pow10Tab at hl
 injection hl with hl2
 rw [← hl2, List.getElem?_map] at hd2
 rw [rows_at q hq] at hd2
 simp only [Option.map_some, Option.some.injEq, DataW.agg.injEq, List.cons.injEq, DataW.lit.injEq, Lit.int.injEq, true_and, and_true] at hd2
 obtain ⟨q0, q1⟩ := hd2
 have v0 := World.var?_cell hg hv ((317 + q) * 2)
 have v1 := World.var?_cell hg hv ((317 + q) * 2 + 1)
 rw [← q0] at hc0
 rw [← q1] at hc1
 exact ⟨by rw [v0]; simpa using hc0, by rw [v1]; simpa using hc1⟩
/-- the table of whole powers, as the library's functions ask for it -/
theorem tab_of {W : World} (h : laidMetH Tryz.prog laidL W) : Lib.TabIs Tryz.prog W (laidL[4]'(by decide)).1 .u64 Lib.pow10Tab := by
 obtain ⟨g, t, cs, f, p, hg, ht, hv, hd⟩ := laid_at h 4 (by decide)
 obtain rfl : g = 2 := Option.some.inj (hg.symm.trans (show _ = some 2 by kernel_rfl))
 obtain rfl : t = 145 := Option.some.inj (ht.symm.trans (show _ = some 145 by kernel_rfl))
 have hdat : (laidL[4]'(by decide)).2 = Lib.tabData .u64 Lib.pow10Tab := by rfl
 rw [hdat] at hd
 have e := Lib.cells_of_tab Tryz.underlying145 Tryz.underlying57 cells66 (by kernel_rfl) hd
 unfold Lib.TabIs
 rw [hv, ← e]
theorem most_of {W : World} (h : W.ShapedOpen Tryz.prog) : ∃ m, W.cell? ⟨5, 0, none⟩ = some (.int .i64 m) :=
 cell_of_shapedOpen_int (g := 5) (t := 3) (zero := #[.int .i64 0]) h (by decide +kernel) (by kernel_rfl) rfl (by kernel_rfl) (by kernel_rfl) Tryz.underlying3
theorem tabu_of {W : World} (h : laidMetH Tryz.prog laidL W) : TabU W := fun k hk => by
 have h2 := tab_of h
 unfold Lib.TabIs at h2
 have hg : Tryz.prog.globalNamed (laidL[4]'(by decide)).1 = some 2 := by kernel_rfl
 rw [World.var?_cell hg h2 k]
 rw [List.getElem?_toArray, List.getElem?_map]
 unfold Lib.pow10Tab
 rw [List.getElem?_map, List.getElem?_range (by omega)]
 rfl
theorem tabv_of {W : World} (h : laidMetH Tryz.prog laidL W) (hs : W.ShapedOpen Tryz.prog) : TabV W := ⟨⟨pow_of h, tabu_of h, most_of hs⟩, tab_of h⟩
/-- the wrap that hands on the shape, what is laid and how great the arguments are -/
theorem wrap_laid_shaped_sized {H : Type} {enc : TypeId × Value → H} {a : Assume} {C : Checked} {os : Os} {f : FuncId} {fn : Func} {s : ChangeSpec} {conds : List PathCond} {apart fresh handsOn again : Bool} {X : World → Array Value → Prop}
  (hX : ∀ (w w' : World) (args : Array Value), w.heap = w'.heap → X w args → X w' args)
  (own : ownKnob C.prog.godebug = none) (started : os.Started) (noInit : C.prog.inits.idxOf? f = none) (hfn : C.prog.funcs[f]? = some fn)
  (witness : ∃ (w : World) (tape : Tape) (i : Input), w.os = os ∧ (w.forCall tape i).Shaped C.prog ∧ i.vars = [] ∧ Input.okWide C.prog (w.forCall tape i) .any w.heap.size f i ∧
   ((s.pre enc C.prog fn conds apart (w.forCall tape i).memory i.args ∧ X (w.forCall tape i).memory i.args) ∧ sizedMet enc C.prog fn (OpenSpec.ofChange s) apart (w.forCall tape i).memory i.args) ∧ a.holds C.prog (lone (Frame.enter C.prog f i.args .normal) [] (w.forCall tape i)))
  (contract : ∀ (W : World) (base : Nat) (args : Array Value) (ds gs : List (DataW H)) (before : List MemPlace),
   (∀ (j : Nat) t v, fn.params[j]? = some t → args[j]? = some v → Value.okWide C.prog W .any base t v) →
   DataW.Whole enc C.prog fn.params.toList s.vars apart W args.toList ds gs before →
   X W args → W.ShapedOpen C.prog → (DataW.weightsEach C.prog (fn.params.toList ++ s.plain.varTypes C.prog) (ds ++ gs)).all (· ≤ reachBytes) = true →
   Calls C.prog f args W fun e W' => ∃ v, e = .returned v ∧ s.post enc C.prog fn apart fresh handsOn again W args v W') :
  ReturnsInHanded a C os f .any (fun w args => (s.pre enc C.prog fn conds apart w args ∧ X w args) ∧ sizedMet enc C.prog fn (OpenSpec.ofChange s) apart w args) (s.post enc C.prog fn apart fresh handsOn again) := by
 refine returnsInHanded_of_calls own started noInit witness ?_
 intro w tape i _ hsh _ hok hpre hholds
 obtain ⟨_, _, _, fn', hfn', _, _, _, _, hval⟩ := hok
 have e : fn' = fn := Option.some.inj (hfn'.symm.trans hfn)
 subst e
 obtain ⟨⟨⟨ds, gs, before, hw, hc⟩, hx⟩, hz⟩ := hpre
 have hw' := DataW.Whole.of_heap (w' := w.forCall tape i) (by rfl) hw
 refine (contract (w.forCall tape i) w.heap.size i.args ds gs before hval hw' (hX _ _ _ (by rfl) hx) hsh (hz.weights hw)).mono fun e W' ⟨v, he, hp⟩ => ?_
 subst he
 exact ChangeSpec.post_blind hp
end Go.Proofs.YtfpcpociejefaaaGreatDoor

/- Where the listed table of words reads as it is listed, it lies in memory word by word. -/
namespace Go.Proofs.YtfpcpociejefaaaGreatDoor
open Go.ChangeShapes Go.WideShapes Go.ChangeAt Go.RowKit
theorem cells9w : Tryz.prog.cellsOf 9 = 1 := by kernel_rfl
theorem words_of {W : World} (h : laidMetH Tryz.prog laidL W) : Words W := by
 obtain ⟨g0, t0, cs0, f0, p0, hg0, ht0, hv0, hd0⟩ := laid_at h 0 (by decide)
 obtain rfl : g0 = 0 := Option.some.inj (hg0.symm.trans (show _ = some 0 by kernel_rfl))
 obtain rfl : t0 = 100 := Option.some.inj (ht0.symm.trans (show _ = some 100 by kernel_rfl))
 obtain ⟨xs, m1, rfl, hx1, hlen, hn3, hel⟩ := DataW.trod_array Tryz.underlying100 hd0
 intro k hk
 have hk' := hel k hk
 rw [cells9w, Nat.mul_one] at hk'
 have hx : k < xs.length := by rw [hn3]; exact hk
 rw [List.getElem?_eq_getElem hx] at hk'
 obtain ⟨s, e1, e2, _⟩ := DataW.trod_string Tryz.underlying9 hk'
 have hc : cs0.toList[k]? = some (.string s) := by
  have := congrArg (·[0]?) e1
  simpa [List.getElem?_take, List.getElem?_drop] using this
 have hcell := World.var?_cell hg0 hv0 k
 have hw : s.data.toList = wordAt k := by
  have hd : (xs.map (·.1))[k]? = some (DataW.lit (.string s.data.toList)) := by
   rw [List.getElem?_map, List.getElem?_eq_getElem hx, e2]; rfl
  have hl := congrArg Prod.fst hx1
  have hl2 : wordsL.map (fun l => (DataW.lit (.string l) : DataW Unit)) = xs.map (·.1) := by
   have h2 : (DataW.agg (wordsL.map (fun l => (DataW.lit (.string l) : DataW Unit))) : DataW Unit) = DataW.agg (xs.map (·.1)) := hl
   injection h2
  rw [← hl2, List.getElem?_map] at hd
  have hkw : k < wordsL.length := hk
  rw [List.getElem?_eq_getElem hkw] at hd
  simp only [Option.map_some, Option.some.injEq, DataW.lit.injEq, Lit.string.injEq] at hd
  rw [← hd]
  unfold wordAt
  rw [List.getD_eq_getElem?_getD, List.getElem?_eq_getElem hkw]; rfl
 rw [hcell]
 have : cs0[k]? = some (.string s) := by simpa using hc
 rw [this]
 have e : s = ba (wordAt k) := (toList_ba s).symm.trans (congrArg ba (by rw [ByteArray.toList_eq]; exact hw))
 rw [e]
end Go.Proofs.YtfpcpociejefaaaGreatDoor
