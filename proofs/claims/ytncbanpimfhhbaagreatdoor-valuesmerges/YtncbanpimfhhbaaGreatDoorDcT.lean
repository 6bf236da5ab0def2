/- What a value's bytes are; held, write, Encode. -/
import Derived.Test.YtncbanpimfhhbaaGreatDoorWMeth
import Derived.Test.YtncbanpimfhhbaaGreatDoorFirst4
import Derived.Test.YtncbanpimfhhbaaGreatDoorSameV
import Derived.Test.YtncbanpimfhhbaaGreatDoorRvC

namespace Go.Proofs.YtncbanpimfhhbaaGreatDoor
open Go.RowKit Go.PlainAid Go.Lib

def textB (s : ByteArray) : List UInt8 := uvarint s.size ++ s.data.toList
def textsB (l : List ByteArray) : List UInt8 := l.flatMap textB
/-- what stands behind the kind -/
def bodyL (x : VD) : List UInt8 :=
  if x.kind = 1 then [if x.bool then 1 else 0] else if x.kind = 2 then uvarint (zigzag x.int) else if x.kind = 3 then four (keyN x.real) else if x.kind = 4 then textB x.text else uvarint x.texts.length ++ textsB x.texts
/-- a value's bytes -/
def encL (x : VD) : List UInt8 := x.kind.toNat.toUInt8 :: bodyL x

set_option maxHeartbeats 1600000 in
theorem equal_any (u v : Value) (a b : List UInt8) (w : World) (hu : Bs w u a) (hv : Bs w v b) :
    Calls Tryz.prog 33 #[u, v] w fun e w' => e = .returned (.bool (a == b)) ∧ w' = w := by
  have ha := run_str hu
  have hb := run_str hv
  obtain ⟨ao, ca, rfl, _⟩ := hu.ex
  obtain ⟨bo, cb, rfl, _⟩ := hv.ex
  have e1 : (⟨a.toArray⟩ : ByteArray).toList = a := by rw [ByteArray.toList_eq]
  have e2 : (⟨b.toArray⟩ : ByteArray).toList = b := by rw [ByteArray.toList_eq]
  have hq : ((⟨a.toArray⟩ : ByteArray).toList == (⟨b.toArray⟩ : ByteArray).toList) = (a == b) := by rw [e1, e2]
  clear hu hv e1 e2
  generalize (⟨a.toArray⟩ : ByteArray) = s at *
  generalize (⟨b.toArray⟩ : ByteArray) = t at *
  generalize (a == b) = z at *
  go_enter Tryz.func33, Tryz.ntmps33
  go_wp2
  go_ret
  exact ⟨rfl, rfl⟩

theorem held_1 (x : VD) (h : x.kind = 1) (u : Value) (hu : ∃ a n c, u = .slice a n c) (w : World) : Calls Tryz.prog 58 #[x.val u] w fun e w' => e = .returned (.iface 4 (.bool x.bool)) ∧ Keep [] w w' := by
  obtain ⟨a, n, c, rfl⟩ := hu
  have k1 : (x.kind == 1) = true := by simpa using h
  clear h
  go_enter Tryz.func58, Tryz.ntmps58
  go_wp2
  go_ret
  exact ⟨rfl, Keep.alloc1 _ _⟩
end Go.Proofs.YtncbanpimfhhbaaGreatDoor


/- What an interface holds is told: the type switch's steps. -/
namespace Go.Proofs.YtncbanpimfhhbaaGreatDoor
open Go.RowKit Go.PlainAid Go.Lib

theorem ta_4_4 (v : Value) (w : World) : (Instr.typeAssert (.iface 4 v) 20 4 true).run Tryz.prog w = .ok (.tuple #[v, .bool true]) w := by
  simp [Instr.typeAssert, run_underlying Tryz.underlying4, go_sem, Result.andThen]
theorem ta_2_4 (v : Value) (w : World) : (Instr.typeAssert (.iface 2 v) 20 4 true).run Tryz.prog w = .ok (.tuple #[.bool false, .bool false]) w := by
  have hz : (zeroValue 4).run Tryz.prog w = .ok (.bool false) w := by kernel_rfl
  simp [Instr.typeAssert, run_underlying Tryz.underlying4, go_sem, Result.andThen, hz]
theorem ta_2_2 (v : Value) (w : World) : (Instr.typeAssert (.iface 2 v) 20 2 true).run Tryz.prog w = .ok (.tuple #[v, .bool true]) w := by
  simp [Instr.typeAssert, run_underlying Tryz.underlying2, go_sem, Result.andThen]
theorem ta_26_4 (v : Value) (w : World) : (Instr.typeAssert (.iface 28 v) 20 4 true).run Tryz.prog w = .ok (.tuple #[.bool false, .bool false]) w := by
  have hz : (zeroValue 4).run Tryz.prog w = .ok (.bool false) w := by kernel_rfl
  simp [Instr.typeAssert, run_underlying Tryz.underlying4, go_sem, Result.andThen, hz]
theorem ta_26_2 (v : Value) (w : World) : (Instr.typeAssert (.iface 28 v) 20 2 true).run Tryz.prog w = .ok (.tuple #[.int .i64 0, .bool false]) w := by
  have hz : (zeroValue 2).run Tryz.prog w = .ok (.int .i64 0) w := by kernel_rfl
  simp [Instr.typeAssert, run_underlying Tryz.underlying2, go_sem, Result.andThen, hz]
theorem ta_26_26 (v : Value) (w : World) : (Instr.typeAssert (.iface 28 v) 20 28 true).run Tryz.prog w = .ok (.tuple #[v, .bool true]) w := by
  simp [Instr.typeAssert, run_underlying Tryz.underlying28, go_sem, Result.andThen]
theorem ta_9_4 (v : Value) (w : World) : (Instr.typeAssert (.iface 9 v) 20 4 true).run Tryz.prog w = .ok (.tuple #[.bool false, .bool false]) w := by
  have hz : (zeroValue 4).run Tryz.prog w = .ok (.bool false) w := by kernel_rfl
  simp [Instr.typeAssert, run_underlying Tryz.underlying4, go_sem, Result.andThen, hz]
theorem ta_9_2 (v : Value) (w : World) : (Instr.typeAssert (.iface 9 v) 20 2 true).run Tryz.prog w = .ok (.tuple #[.int .i64 0, .bool false]) w := by
  have hz : (zeroValue 2).run Tryz.prog w = .ok (.int .i64 0) w := by kernel_rfl
  simp [Instr.typeAssert, run_underlying Tryz.underlying2, go_sem, Result.andThen, hz]
theorem ta_9_26 (v : Value) (w : World) : (Instr.typeAssert (.iface 9 v) 20 28 true).run Tryz.prog w = .ok (.tuple #[.float .f32 0, .bool false]) w := by
  have hz : (zeroValue 28).run Tryz.prog w = .ok (.float .f32 0) w := by kernel_rfl
  simp [Instr.typeAssert, run_underlying Tryz.underlying28, go_sem, Result.andThen, hz]
theorem ta_9_9 (v : Value) (w : World) : (Instr.typeAssert (.iface 9 v) 20 9 true).run Tryz.prog w = .ok (.tuple #[v, .bool true]) w := by
  simp [Instr.typeAssert, run_underlying Tryz.underlying9, go_sem, Result.andThen]
theorem ta_24_4 (v : Value) (w : World) : (Instr.typeAssert (.iface 29 v) 20 4 true).run Tryz.prog w = .ok (.tuple #[.bool false, .bool false]) w := by
  have hz : (zeroValue 4).run Tryz.prog w = .ok (.bool false) w := by kernel_rfl
  simp [Instr.typeAssert, run_underlying Tryz.underlying4, go_sem, Result.andThen, hz]
theorem ta_24_2 (v : Value) (w : World) : (Instr.typeAssert (.iface 29 v) 20 2 true).run Tryz.prog w = .ok (.tuple #[.int .i64 0, .bool false]) w := by
  have hz : (zeroValue 2).run Tryz.prog w = .ok (.int .i64 0) w := by kernel_rfl
  simp [Instr.typeAssert, run_underlying Tryz.underlying2, go_sem, Result.andThen, hz]
theorem ta_24_26 (v : Value) (w : World) : (Instr.typeAssert (.iface 29 v) 20 28 true).run Tryz.prog w = .ok (.tuple #[.float .f32 0, .bool false]) w := by
  have hz : (zeroValue 28).run Tryz.prog w = .ok (.float .f32 0) w := by kernel_rfl
  simp [Instr.typeAssert, run_underlying Tryz.underlying28, go_sem, Result.andThen, hz]
theorem ta_24_9 (v : Value) (w : World) : (Instr.typeAssert (.iface 29 v) 20 9 true).run Tryz.prog w = .ok (.tuple #[.string ⟨#[]⟩, .bool false]) w := by
  have hz : (zeroValue 9).run Tryz.prog w = .ok (.string ⟨#[]⟩) w := by kernel_rfl
  simp [Instr.typeAssert, run_underlying Tryz.underlying9, go_sem, Result.andThen, hz]
theorem ta_24_24 (v : Value) (w : World) : (Instr.typeAssert (.iface 29 v) 20 29 true).run Tryz.prog w = .ok (.tuple #[v, .bool true]) w := by
  simp [Instr.typeAssert, run_underlying Tryz.underlying29, go_sem, Result.andThen]
end Go.Proofs.YtncbanpimfhhbaaGreatDoor

