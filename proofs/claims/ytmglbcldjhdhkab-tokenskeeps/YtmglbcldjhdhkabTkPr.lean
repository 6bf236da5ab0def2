/- Print, for every list of tokens. -/
import Derived.Test.YtmglbcldjhdhkabTkZ
import Derived.Test.YtmglbcldjhdhkabShelf
import Derived.Deep.RegionLaw
namespace Go.Proofs.Ytmglbcldjhdhkab
open Go.RowKit Go.PlainAid

theorem Bd.string {B : Nat} {w : World} {b : Nat} {l : List UInt8} {p v : Value} (h : Bd B w b l p v) (hb : b < B) :
    Calls Try.prog 26 #[.pointer (some ⟨b, 0, none⟩)] w fun e w' => e = .returned (.string (ba l)) ∧ Below b w w' := by
  have hown : w.ownsRow b 5 1 v (Lib.byteCells l).length (Lib.byteCells l) := by
    have e : Lib.byteCells l = bv l := rfl
    rw [e, bv_length]
    refine ⟨h.row.1, ?_⟩
    rcases h.row.2 with hz | ⟨g, cap, cur, rfl, _, r⟩
    · exact .inl hz
    · exact .inr ⟨g, cap, cur, rfl, by have := h.far g rfl; omega, r⟩
  have hB : Lib.IsBuilder 57 5 b b (Lib.byteCells l) w := by
    have key : ∀ p', p = p' → Lib.BuilderAt 57 5 b b p' (Lib.byteCells l) w := fun p' e => ⟨Nat.le_refl _, v, by rw [← e]; exact h.box, hown, fun e => by have := h.far b e; omega⟩
    rcases h.ptr with e | e
    · exact .inl (key _ e)
    · exact .inr (key _ e)
  refine (Try.Builder_String_any_k b b l w (Lib.IsBuilderF.of hB) (Nat.le_of_lt h.lt)).mono ?_
  rintro e w' ⟨rfl, _, b1, _⟩
  exact ⟨rfl, b1⟩
end Go.Proofs.Ytmglbcldjhdhkab

