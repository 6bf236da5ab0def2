/- Comparing is an order where it can be asked: ValuesOrder answers true. -/
import Derived.Test.YtppimacfeelneaaOrderF
import Derived.Test.YtppimacfeelneaaOrderM
import Derived.Test.YtppimacfeelneaaOrderZ
import Derived.Test.YtppimacfeelneaaOrderQ
namespace Go.Proofs.Ytppimacfeelneaa
open Go.RowKit Go.PlainAid Go.Lib

theorem order_law (a b c : VD) (ha : a.Ok) (hb : b.Ok) (hc : c.Ok) (u v t : Value) (w : World) (hu : Ts w u a.texts) (hv : Ts w v b.texts) (ht : Ts w t c.texts) :
    Calls Try.prog 6 #[a.val u, b.val v, c.val t] w fun e w' => e = .returned (.bool true) ∧ Below w.heap.size w w' := by
  cases h : canB a b
  · exact order_f a b c h ha hb hc u v t w hu hv ht
  · rcases cmp_range a b with h2 | h2 | h2
    · exact order_m a b c h h2 ha hb hc u v t w hu hv ht
    · exact order_z a b c h h2 ha hb hc u v t w hu hv ht
    · exact order_q a b c h h2 ha hb hc u v t w hu hv ht

end Go.Proofs.Ytppimacfeelneaa
