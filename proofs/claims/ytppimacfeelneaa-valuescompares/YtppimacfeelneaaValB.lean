/- How much a value weighs: the length of its list of texts. -/
import Derived.Test.YtppimacfeelneaaValA
namespace Go.Proofs.Ytppimacfeelneaa
open Go.RowKit Go.PlainAid

theorem bytes9 : Try.prog.bytesOf 9 = 16 := by kernel_rfl
theorem Ts.len_eq {W : World} {ao : Option Addr} {n c : Nat} {l : List ByteArray} (h : Ts W (.slice ao n c) l) : n = l.length := by
  obtain ⟨a, cap, e, _⟩ := h.ex
  simp at e
  exact e.2.1
theorem texts_weight {H : Type} {enc : TypeId × Value → H} {W : World} {fuel : Nat} {v : Value} {y : DataW H × List MemPlace} {l : List ByteArray} {B : Nat}
    (hf : DataW.trod enc Try.prog W 0 (fun _ => true) true fuel 24 [v] = some y) (hT : Ts W v l) (hB : ∀ n ∈ y.1.weights Try.prog 24, n ≤ B) : l.length * 16 ≤ B := by
  rcases Go.Deep.open_slice Try.underlying24 hf with ⟨hcs, hx⟩ | ⟨a, len, cap, m, n, D, Pl, hcs, _, hl, hm, hmm, hx, hel⟩
  · simp at hcs
    subst hcs
    have := hT.len_eq
    omega
  · simp at hcs
    subst hcs
    have e := hT.len_eq
    subst hx
    have hw : (DataW.slice ((List.range len).map D) ((List.range (m - len)).map fun j => D (len + j))).weights Try.prog 24 = (((List.range len).map D).length + ((List.range (m - len)).map fun j => D (len + j)).length) * Try.prog.bytesOf 9 :: (DataW.weightsAll Try.prog 9 ((List.range len).map D) ++ DataW.weightsAll Try.prog 9 ((List.range (m - len)).map fun j => D (len + j))) := by
      rw [DataW.weights]
      rw [Try.underlying24]
    simp only [] at hB
    rw [hw] at hB
    have h2 := hB _ (List.mem_cons_self ..)
    rw [bytes9] at h2
    simp only [List.length_map, List.length_range] at h2
    omega

set_option maxRecDepth 100000 in
theorem value_weight {H : Type} {enc : TypeId × Value → H} {W : World} {x : VD} {u : Value} {d : DataW H} {p : List MemPlace} {B : Nat}
    (h : DataW.Trod enc Try.prog W 0 (fun _ => true) true 28 (x.val u) d p) (hT : Ts W u x.texts) (hB : ∀ n ∈ d.weights Try.prog 28, n ≤ B) : x.texts.length * 16 ≤ B := by
  obtain ⟨fuel, hf⟩ := h
  have hf' : DataW.trod enc Try.prog W 0 (fun _ => true) true fuel 28 [.int .i64 x.kind, .bool x.bool, .int .i64 x.int, .float .f32 x.real, .string x.text, u] = some (d, p) := by simpa [Value.cells] using hf
  obtain ⟨y0, y1, y2, y3, y4, y5, n, hx, _, g0, g1, g2, g3, g4, g5⟩ := trod_struct6 Try.underlying28 hf'
  simp only [cellsT24, List.drop_zero, List.drop_succ_cons, List.take_succ_cons, List.take_zero] at g5
  simp only [] at hx
  subst hx
  refine texts_weight g5 hT (fun n hn => hB n ?_)
  rw [DataW.weights]
  rw [Try.underlying28]
  simp only [DataW.weightsEach, List.map_cons, List.map_nil, List.mem_append]
  simp [hn]
end Go.Proofs.Ytppimacfeelneaa
