/- Texts that are handed in. -/
import Derived.Test.YtkelhglflpdpeaaAg
import Derived.Test.YtkelhglflpdpeaaSiP
import Derived.ProofKit
import Derived.OpenShut
import Derived.ChangeOld
import Derived.SizedLaws
import Derived.Lib.SmallJoins
import Derived.Deep.Slices
namespace Go.Proofs.Ytkelhglflpdpeaa
open Go.ChangeShapes Go.WideShapes Go.ChangeAt Go.RowKit Go.Joins Go.PlainAid

theorem cellsT9 : Try.prog.cellsOf 9 = 1 := by kernel_rfl
theorem bytesT9 : Try.prog.bytesOf 9 = 16 := by kernel_rfl

set_option maxRecDepth 100000 in
theorem open_strs {H : Type} {enc : TypeId × Value → H} {W : World} {fuel : Nat} {v : Value} {y : DataW H × List MemPlace}
    (hf : DataW.trod enc Try.prog W 0 (fun _ => true) true fuel 66 [v] = some y) (hsz : ∀ n ∈ y.1.weights Try.prog 66, n ≤ 140737488351232) : ∃ l : List St, Rd encS 1 W v l ∧ l.length * 16 ≤ 140737488351232 ∧ ∀ x, v.ownBlock = some x → l ≠ [] → x < W.heap.size := by
  rcases Go.Deep.open_slice Try.underlying66 hf with ⟨hcs, hx⟩ | ⟨a, len, cap, m, n, D, Pl, hcs, _, hl, hm, hmm, hx, hel⟩
  · simp at hcs
    subst hcs
    exact ⟨[], Rd.nil encS 1 W, by simp, fun x hx => by simp [Value.ownBlock] at hx⟩
  · simp at hcs
    subst hcs
    simp only [if_true] at hmm
    subst hmm
    obtain ⟨b, off, spot⟩ := a
    rw [cellsT9] at hel
    have hmx : m ≤ maxLen := hm
    have hw : len * 16 ≤ 140737488351232 := by
      subst hx
      have hw : (DataW.slice ((List.range len).map D) ((List.range (m - len)).map fun j => D (len + j))).weights Try.prog 66 = (((List.range len).map D).length + ((List.range (m - len)).map fun j => D (len + j)).length) * Try.prog.bytesOf 9 :: (DataW.weightsAll Try.prog 9 ((List.range len).map D) ++ DataW.weightsAll Try.prog 9 ((List.range (m - len)).map fun j => D (len + j))) := by
        rw [DataW.weights]
        rw [Try.underlying66]
      simp only [] at hsz
      rw [hw] at hsz
      have h2 := hsz _ (List.mem_cons_self ..)
      rw [bytesT9] at h2
      simp only [List.length_map, List.length_range] at h2
      omega
    rcases Nat.eq_zero_or_pos len with h0 | h0
    · subst h0
      exact ⟨[], ⟨some ⟨b, off, spot⟩, m, rfl, by simp, hmx, (by intro h; cases h), fun h => absurd rfl h⟩, by simp, fun x _ h => absurd rfl h⟩
    · have hspot : spot = none := by
        obtain ⟨cs', h1, h2⟩ := hel 0 (by omega)
        obtain ⟨_, h3, h4⟩ := World.cells?_some h1
        have h5 := h4 0 (by omega)
        rw [List.getElem?_eq_getElem (by omega)] at h5
        have := World.cell?_spot h5
        simpa [Addr.add] using this
      subst hspot
      obtain ⟨l, hlen, hl2⟩ := list_of (Q := fun i (x : St) => W.cell? ⟨b, off + i, none⟩ = some (.string x)) len (fun i hi => by
        obtain ⟨cs', h1, h2⟩ := hel i (by omega)
        rw [add_plain, Nat.mul_one] at h1
        obtain ⟨_, h3, h4⟩ := World.cells?_some h1
        obtain ⟨s, e, _, ws⟩ := DataW.trod_string Try.underlying9 h2
        have h5 := h4 0 (by omega)
        rw [e, add_plain, Nat.add_zero] at h5
        exact ⟨s, by simpa using h5⟩)
      have hb : b < W.heap.size := by
        exact World.block_lt_of_cell? W _ (hl2 0 (by omega))
      refine ⟨l, ⟨some ⟨b, off, none⟩, m, by rw [hlen], by omega, hmx, (by intro h; cases h), fun _ => ⟨b, off, rfl, hb, fun i hi j hj => ?_⟩⟩, by rw [hlen]; exact hw, fun x hx _ => by simp [Value.ownBlock] at hx; subst hx; exact hb⟩
      obtain rfl : j = 0 := by omega
      have := hl2 i hi
      simpa [encS] using this
end Go.Proofs.Ytkelhglflpdpeaa
