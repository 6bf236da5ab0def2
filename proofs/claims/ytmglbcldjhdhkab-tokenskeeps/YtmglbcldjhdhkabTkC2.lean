/- alike: two lists that have the same kinds and texts. -/
import Derived.Test.YtmglbcldjhdhkabTkC1
namespace Go.Proofs.Ytmglbcldjhdhkab
open Go.RowKit Go.PlainAid

def sameKT (a b : List TokD) : Prop := a.map (fun t => (t.kind, t.text)) = b.map (fun t => (t.kind, t.text))
theorem sameKT.len {a b : List TokD} (h : sameKT a b) : a.length = b.length := by
  have := congrArg List.length h
  simpa using this
theorem sameKT.at {a b : List TokD} (h : sameKT a b) (i : Nat) (h1 : i < a.length) (h2 : i < b.length) : b[i].kind = a[i].kind ∧ b[i].text = a[i].text := by
  have e : (a.map (fun t => (t.kind, t.text)))[i]? = (b.map (fun t => (t.kind, t.text)))[i]? := by rw [h]
  rw [List.getElem?_map, List.getElem?_map, List.getElem?_eq_getElem h1, List.getElem?_eq_getElem h2] at e
  simp only [Option.map_some, Option.some.injEq, Prod.mk.injEq] at e
  exact ⟨e.1.symm, e.2.symm⟩

end Go.Proofs.Ytmglbcldjhdhkab

