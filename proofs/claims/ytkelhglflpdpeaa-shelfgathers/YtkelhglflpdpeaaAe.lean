/- One element that is handed in. -/
import Derived.Test.YtkelhglflpdpeaaAg
namespace Go.Proofs.Ytkelhglflpdpeaa
open Go.ChangeShapes Go.WideShapes Go.ChangeAt Go.RowKit Go.Joins Go.PlainAid

set_option maxRecDepth 100000 in
theorem open_elem {H : Type} {enc : TypeId × Value → H} {W : World} {base : Nat} {v : Value} {d : DataW H} {p : List MemPlace}
    (hv : Value.okWide Try.prog W .any base 29 v) (h : DataW.Trod enc Try.prog W 0 (fun _ => true) true 29 v d p) : ∃ x : Pr, v = vP x ∧ (-9223372036854775808 ≤ x.k ∧ x.k ≤ 9223372036854775807) ∧ (-9223372036854775808 ≤ x.m ∧ x.m ≤ 9223372036854775807) := by
  obtain ⟨cs, rfl, hsz⟩ := Go.WideShapes.okWide_struct Try.underlying29 hv
  obtain ⟨fuel, hf⟩ := h
  have hsz' : cs.size = 2 := hsz.trans cellsT29
  obtain ⟨l⟩ := cs
  match l, hsz' with
  | [c0, c1], _ =>
    have hf' : DataW.trod enc Try.prog W 0 (fun _ => true) true fuel 29 [c0, c1] = some (d, p) := by simpa [Value.cells] using hf
    obtain ⟨x, he, h1, h2⟩ := open_pair hf'
    simp [encP] at he
    obtain ⟨rfl, rfl⟩ := he
    exact ⟨x, rfl, h1, h2⟩
end Go.Proofs.Ytkelhglflpdpeaa
