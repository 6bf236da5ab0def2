/- Print, for every list of tokens. -/
import Derived.Test.YtmglbcldjhdhkabTkPa
import Derived.Test.YtmglbcldjhdhkabTkPb
import Derived.Test.YtmglbcldjhdhkabTkPc
import Derived.Test.YtmglbcldjhdhkabTkPd
namespace Go.Proofs.Ytmglbcldjhdhkab
open Go.RowKit Go.PlainAid

theorem print_any (v : Value) (l : List TokD) (w : World) (h : Ts4 w v l) :
    Calls Try.prog 11 #[v] w fun e w' => e = .returned (.tuple #[.string (ba (printL l).1), .int .i64 (printL l).2]) ∧ Keep [] w w' := by
  obtain ⟨ao, cap, rfl, _⟩ := h.ex
  rcases List.eq_nil_or_concat l with rfl | ⟨Q, t, hl⟩
  · exact print_nil ao cap w
  · rw [List.concat_eq_append] at hl
    by_cases h7 : t.kind = 7
    · by_cases ht : t.text = []
      · exact print_end l Q t ao cap w hl (by simp [endB, h7, ht]) h
      · exact print_full7 l Q t ao cap w hl h7 ht h
    · exact print_fullk l Q t ao cap w hl h7 h
end Go.Proofs.Ytmglbcldjhdhkab

