/- What a value's bytes are; held, write, Encode. -/
import Derived.Test.YtppimacfeelneaaWMeth
import Derived.Test.YtppimacfeelneaaFirst4
import Derived.Test.YtppimacfeelneaaCmpA
import Derived.Test.YtppimacfeelneaaRvA
namespace Go.Proofs.Ytppimacfeelneaa
open Go.RowKit Go.PlainAid Go.Lib

def textB (s : ByteArray) : List UInt8 := uvarint s.size ++ s.data.toList
def textsB (l : List ByteArray) : List UInt8 := l.flatMap textB
/-- what stands behind the kind -/
def bodyL (x : VD) : List UInt8 :=
  if x.kind = 1 then [if x.bool then 1 else 0] else if x.kind = 2 then uvarint (zigzag x.int) else if x.kind = 3 then four (keyN x.real) else if x.kind = 4 then textB x.text else uvarint x.texts.length ++ textsB x.texts
/-- a value's bytes -/
def encL (x : VD) : List UInt8 := x.kind.toNat.toUInt8 :: bodyL x

set_option maxHeartbeats 1600000 in
theorem equal_any (u v : Value) (a b : List UInt8) (w : World) (hu : Bs w u a) (hv : Bs w v b) :
    Calls Try.prog 30 #[u, v] w fun e w' => e = .returned (.bool (a == b)) ∧ w' = w := by
  have ha := run_str hu
  have hb := run_str hv
  obtain ⟨ao, ca, rfl, _⟩ := hu.ex
  obtain ⟨bo, cb, rfl, _⟩ := hv.ex
  have e1 : (⟨a.toArray⟩ : ByteArray).toList = a := by rw [ByteArray.toList_eq]
  have e2 : (⟨b.toArray⟩ : ByteArray).toList = b := by rw [ByteArray.toList_eq]
  have hq : ((⟨a.toArray⟩ : ByteArray).toList == (⟨b.toArray⟩ : ByteArray).toList) = (a == b) := by rw [e1, e2]
  clear hu hv e1 e2
  generalize (⟨a.toArray⟩ : ByteArray) = s at *
  generalize (⟨b.toArray⟩ : ByteArray) = t at *
  generalize (a == b) = z at *
  go_enter Try.func30, Try.ntmps30
  go_wp2
  go_ret
  exact ⟨rfl, rfl⟩

theorem held_1 (x : VD) (h : x.kind = 1) (u : Value) (hu : ∃ a n c, u = .slice a n c) (w : World) : Calls Try.prog 63 #[x.val u] w fun e w' => e = .returned (.iface 4 (.bool x.bool)) ∧ Keep [] w w' := by
  obtain ⟨a, n, c, rfl⟩ := hu
  have k1 : (x.kind == 1) = true := by simpa using h
  clear h
  go_enter Try.func63, Try.ntmps63
  go_wp2
  go_ret
  exact ⟨rfl, Keep.alloc1 _ _⟩
end Go.Proofs.Ytppimacfeelneaa
