/- TuplesFilters' walk, of any filter and tuple. -/
import Derived.Test.YtbflhpafejmelaaFil0
import Derived.Test.YtbflhpafejmelaaFil1
import Derived.Test.YtbflhpafejmelaaFil2
import Derived.Test.YtbflhpafejmelaaFil3
namespace Go.Proofs.Ytbflhpafejmelaa
open Go.RowKit Go.PlainAid

theorem filters_law (x y : K7) (u : Value) (z : Int) (w : World) (hs : y.b.size ≤ 9223372036854775806) :
    Calls Try.prog 5 #[x.fil, y.tup u, .int .i64 z] w fun e w' => e = .returned (.bool true) ∧ Keep [] w w' := by
  obtain ⟨a, b, c, d, e, f, g⟩ := x
  obtain ⟨a', b', c', d', e', f', g'⟩ := y
  cases ha : okB a a'
  · exact filters_0 _ _ _ _ _ _ _ _ _ _ _ _ _ _ u w hs z ha
  cases hb : okB b b'
  · exact filters_1 _ _ _ _ _ _ _ _ _ _ _ _ _ _ u w hs z ha hb
  cases hc : okB c c'
  · exact filters_2 _ _ _ _ _ _ _ _ _ _ _ _ _ _ u w hs z ha hb hc
  cases hg : okB g g'
  · exact filters_3 _ _ _ _ _ _ _ _ _ _ _ _ _ _ u w hs z ha hb hc hg
  cases hd : okB d d'
  · exact filters_4 _ _ _ _ _ _ _ _ _ _ _ _ _ _ u w hs z ha hb hc hg hd
  cases he : okB e e'
  · exact filters_5 _ _ _ _ _ _ _ _ _ _ _ _ _ _ u w hs z ha hb hc hg hd he
  cases hf : okB f f'
  · exact filters_6 _ _ _ _ _ _ _ _ _ _ _ _ _ _ u w hs z ha hb hc hg hd he hf
  exact filters_7 _ _ _ _ _ _ _ _ _ _ _ _ _ _ u w hs z ha hb hc hg hd he hf
end Go.Proofs.Ytbflhpafejmelaa
