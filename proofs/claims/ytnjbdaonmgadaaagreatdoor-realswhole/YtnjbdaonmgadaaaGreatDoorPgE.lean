/- The library's exact way for short numbers: its walk at one power. -/
import Derived.Test.YtnjbdaonmgadaaaGreatDoorPgC
namespace Go.Proofs.YtnjbdaonmgadaaaGreatDoor
open Go.RowKit Go.PlainAid

/-- the library's table of exact powers of ten as reals -/
def TabF (w : World) : Prop := ∃ g o cap, w.cell? ⟨12, 0, none⟩ = some (.slice (some ⟨g, o, none⟩) 11 cap) ∧ ∀ k, k ≤ 10 → w.cell? ⟨g, o + k, none⟩ = some (.float .f32 (fromI ((10 ^ k : Nat) : Int)))

set_option maxRecDepth 1000000 in
set_option maxHeartbeats 400000 in
theorem exact_mid (d p f g z b o cap : Nat) (w : World) (hd : d < 8388608) (hp0 : 0 < p) (hp : p ≤ 10) (hc : ∀ w, (convert 66 23 (.int .u64 (d : Int))).run Tryz.prog w = .ok (.float .f32 f) w)
    (hv : w.cell? ⟨12, 0, none⟩ = some (.slice (some ⟨b, o, none⟩) 11 cap)) (hg : w.cell? ⟨b, o + p, none⟩ = some (.float .f32 g)) (hm : ∀ w, (binOp .mul 23 (.float .f32 f) (.float .f32 g)).run Tryz.prog w = .ok (.float .f32 z) w)
    (t1 : (FloatKind.f32.format.order f 1259902592 == some Ordering.gt) = false) (t2 : (FloatKind.f32.format.order f 3407386240 == some Ordering.lt) = false) :
    Calls Tryz.prog 120 #[.int .u64 (d : Int), .int .i64 (p : Int), .bool false] w fun e w' => e = .returned (.tuple #[.float .f32 z, .bool true]) ∧ w' = w := by
  have hs : (d : Int) / 8388608 = 0 := by omega
  go_enter Tryz.func120, Tryz.ntmps120
  go_wp2
  go_ret2
  exact ⟨rfl, rfl⟩
set_option maxRecDepth 1000000 in
set_option maxHeartbeats 400000 in
theorem exact_far (d p q f g f1 g1 z b o cap : Nat) (w : World) (hd : d < 8388608) (hp0 : 10 < p) (hp : p ≤ 17) (hq : (p : Int) - 10 = (q : Int)) (hc : ∀ w, (convert 66 23 (.int .u64 (d : Int))).run Tryz.prog w = .ok (.float .f32 f) w)
    (hv : w.cell? ⟨12, 0, none⟩ = some (.slice (some ⟨b, o, none⟩) 11 cap)) (hg : w.cell? ⟨b, o + q, none⟩ = some (.float .f32 g)) (hg1 : w.cell? ⟨b, o + 10, none⟩ = some (.float .f32 g1)) (hm : ∀ w, (binOp .mul 23 (.float .f32 f) (.float .f32 g)).run Tryz.prog w = .ok (.float .f32 f1) w)
    (hm1 : ∀ w, (binOp .mul 23 (.float .f32 f1) (.float .f32 g1)).run Tryz.prog w = .ok (.float .f32 z) w)
    (t1 : (FloatKind.f32.format.order f1 1259902592 == some Ordering.gt) = false) (t2 : (FloatKind.f32.format.order f1 3407386240 == some Ordering.lt) = false) :
    Calls Tryz.prog 120 #[.int .u64 (d : Int), .int .i64 (p : Int), .bool false] w fun e w' => e = .returned (.tuple #[.float .f32 z, .bool true]) ∧ w' = w := by
  have hs : (d : Int) / 8388608 = 0 := by omega
  go_enter Tryz.func120, Tryz.ntmps120
  go_wp2
  go_ret2
  exact ⟨rfl, rfl⟩
set_option maxRecDepth 1000000 in
set_option maxHeartbeats 400000 in
theorem exact_not (d p q f g f1 b o cap : Nat) (w : World) (hd : d < 8388608) (hp0 : 10 < p) (hp : p ≤ 17) (hq : (p : Int) - 10 = (q : Int)) (hc : ∀ w, (convert 66 23 (.int .u64 (d : Int))).run Tryz.prog w = .ok (.float .f32 f) w)
    (hv : w.cell? ⟨12, 0, none⟩ = some (.slice (some ⟨b, o, none⟩) 11 cap)) (hg : w.cell? ⟨b, o + q, none⟩ = some (.float .f32 g)) (hm : ∀ w, (binOp .mul 23 (.float .f32 f) (.float .f32 g)).run Tryz.prog w = .ok (.float .f32 f1) w)
    (t1 : (FloatKind.f32.format.order f1 1259902592 == some Ordering.gt) = true) :
    Calls Tryz.prog 120 #[.int .u64 (d : Int), .int .i64 (p : Int), .bool false] w fun e w' => e = .returned (.tuple #[.float .f32 f1, .bool false]) ∧ w' = w := by
  have hs : (d : Int) / 8388608 = 0 := by omega
  go_enter Tryz.func120, Tryz.ntmps120
  go_wp2
  go_ret2
  exact ⟨rfl, rfl⟩
set_option maxRecDepth 1000000 in
theorem exact_zero (d f : Nat) (w : World) (hd : d < 8388608) (hc : ∀ w, (convert 66 23 (.int .u64 (d : Int))).run Tryz.prog w = .ok (.float .f32 f) w) :
    Calls Tryz.prog 120 #[.int .u64 (d : Int), .int .i64 0, .bool false] w fun e w' => e = .returned (.tuple #[.float .f32 f, .bool true]) ∧ w' = w := by
  have hs : (d : Int) / 8388608 = 0 := by omega
  go_enter Tryz.func120, Tryz.ntmps120
  go_wp2
  go_ret2
  exact ⟨rfl, rfl⟩
set_option maxRecDepth 1000000 in
theorem exact_18 (d p f : Nat) (w : World) (hd : d < 8388608) (hp : p = 18) (hc : ∀ w, (convert 66 23 (.int .u64 (d : Int))).run Tryz.prog w = .ok (.float .f32 f) w) :
    Calls Tryz.prog 120 #[.int .u64 (d : Int), .int .i64 (p : Int), .bool false] w fun e w' => e = .returned (.tuple #[.float .f32 f, .bool false]) ∧ w' = w := by
  have hs : (d : Int) / 8388608 = 0 := by omega
  subst hp
  go_enter Tryz.func120, Tryz.ntmps120
  go_wp2
  go_ret2
  exact ⟨rfl, rfl⟩
set_option maxRecDepth 1000000 in
theorem exact_long (d p : Nat) (w : World) (hd : 8388608 ≤ d) (hd2 : d < 18446744073709551616) :
    Calls Tryz.prog 120 #[.int .u64 (d : Int), .int .i64 (p : Int), .bool false] w fun e w' => e = .returned (.tuple #[.float .f32 0, .bool false]) ∧ w' = w := by
  have hs : ((d : Int) / 8388608 != 0) = true := by simp; omega
  go_enter Tryz.func120, Tryz.ntmps120
  go_wp2
  go_ret2
  exact ⟨rfl, rfl⟩
end Go.Proofs.YtnjbdaonmgadaaaGreatDoor
