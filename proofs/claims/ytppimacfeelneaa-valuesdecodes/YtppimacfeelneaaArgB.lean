/- An argument that is a slice of bytes, read as bytes. -/
import Derived.Test.YtppimacfeelneaaOwn
import Derived.ProofKit
import Derived.OpenShut
import Derived.ChangeOld
import Derived.SizedLaws
import Derived.Lib.SmallJoins
namespace Go.Proofs.Ytppimacfeelneaa
open Go.ChangeShapes Go.WideShapes Go.ChangeAt Go.RowKit Go.Joins

theorem laidOut : laidOutB Try.prog = true := by kernel_rfl
theorem cellsB : Try.prog.cellsOf TB = 1 := by kernel_rfl
theorem bytesB : Try.prog.bytesOf TB = 1 := by kernel_rfl
theorem underB : Try.prog.underlying TB = some (.int .u8) := Try.underlying5

theorem open_bytes {H : Type} {enc : TypeId × Value → H} {W : World} {fuel : Nat} {a0 : Option Addr} {len cap : Nat} {d : DataW H} {p : List MemPlace}
    (hf : DataW.trod enc Try.prog W 0 (fun _ => true) true fuel TS [.slice a0 len cap] = some (d, p)) :
    ∃ l : List UInt8, Bs W (.slice a0 len cap) l ∧ l.length = len ∧ ((d = .nil ∧ cap = 0) ∨ ∃ es sp, d = .slice es sp ∧ es.length + sp.length = cap ∧ len ≤ cap) := by
  rcases open_ints underS underB cellsB hf with ⟨hcs, hx⟩ | ⟨a, len', cap', zs, hcs, _, hl, hm, hz, hx, hcell, hwz⟩
  · simp at hcs
    obtain ⟨rfl, rfl, rfl⟩ := hcs
    simp only [Prod.mk.injEq] at hx
    exact ⟨[], Bs.nil W, rfl, .inl ⟨hx.1, rfl⟩⟩
  · simp at hcs
    obtain ⟨rfl, rfl, rfl⟩ := hcs
    simp only [Prod.mk.injEq] at hx
    simp only [if_true] at hz
    have hwf : ∀ i, i < zs.length → 0 ≤ zs.getD i 0 ∧ zs.getD i 0 < 256 := by
      intro i hi
      have h1 : zs.getD i 0 ∈ zs := by rw [List.getD_eq_getElem?_getD, List.getElem?_eq_getElem hi]; exact List.getElem_mem hi
      have h2 := hwz _ h1
      generalize zs.getD i 0 = zz at h2 ⊢
      simp [Lit.wf, IntKind.min, IntKind.max, IntKind.signed, IntKind.bits] at h2
      omega
    refine ⟨(zs.take len).map fun z => z.toNat.toUInt8, ⟨some a, cap, by simp; omega, by simp; omega, hm, (by intro h; cases h), fun hne => ?_⟩, by simp; omega, .inr ⟨_, _, hx.1, by simp [lits]; omega, hl⟩⟩
    have hlen : 0 < len := by
      rcases Nat.eq_zero_or_pos len with h | h
      · subst h; simp at hne
      · exact h
    obtain ⟨b, off, spot⟩ := a
    have hspot : spot = none := by simpa [Addr.add] using World.cell?_spot (hcell 0 (by omega))
    subst hspot
    refine ⟨b, off, rfl, fun j hj => ?_⟩
    have hj2 : j < len := by simp at hj; omega
    rw [← add_plain, hcell j (by omega)]
    have hr := hwf j (by omega)
    have e1 : ((zs.take len).map fun z => z.toNat.toUInt8).getD j 0 = (zs.getD j 0).toNat.toUInt8 := by
      simp [List.getD_eq_getElem?_getD, hj2, List.getElem?_eq_getElem (show j < zs.length by omega)]
    rw [e1]
    congr 2
    generalize zs.getD j 0 = zz at hr ⊢
    have e2 : (zz.toNat.toUInt8).toNat = zz.toNat := by simp; omega
    rw [e2]
    omega

end Go.Proofs.Ytppimacfeelneaa
