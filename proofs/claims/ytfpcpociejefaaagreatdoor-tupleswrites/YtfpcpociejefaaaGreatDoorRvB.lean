/- The document's May: just mayB. -/
import Derived.Test.YtfpcpociejefaaaGreatDoorRvA
namespace Go.Proofs.YtfpcpociejefaaaGreatDoor
open Go.RowKit Go.PlainAid
def zeroV (p : VD) : Bool := !((p.kind != 1) && p.bool || (p.kind != 2) && (p.int != 0) || (p.kind != 3) && !zeroB p.real) && ((p.kind == 4) || p.text.size == 0) && ((p.kind == 5) || p.texts.length == 0)
theorem zero_empty (p : VD) (h1 : 1 ≤ p.kind) (h5 : p.kind ≤ 5) : p.clear.emptyB = zeroV p := by
 obtain ⟨kd, b, n, x, t, ts⟩ := p
 simp only [] at h1 h5
 have hc : kd = 1 ∨ kd = 2 ∨ kd = 3 ∨ kd = 4 ∨ kd = 5 := by omega
 have hz : zeroB 0 = true := by decide
 have hl : ts.isEmpty = (ts.length == 0) := by cases ts <;> rfl
 rcases hc with rfl | rfl | rfl | rfl | rfl
 all_goals
  simp only [VD.clear, VD.emptyB, zeroV]
  simp [hz, hl, bne, show (⟨#[]⟩ : ByteArray).size = 0 from rfl]
  try (cases b <;> cases zeroB x <;> simp)
set_option maxRecDepth 1000000 in
set_option maxHeartbeats 1600000 in
theorem rzero_1 (b : Bool) (n : Int) (x : Nat) (t : ByteArray) (ts : List ByteArray) (hx : x < 4294967296) (u : Value) (w : World) (hu : Ts w u ts) :
  Calls Tryz.prog 95 #[(⟨1, b, n, x, t, ts⟩ : VD).val u] w fun e w' => e = .returned (.bool (zeroV ⟨1, b, n, x, t, ts⟩)) ∧ Keep [] w w' := by
 obtain ⟨ao, ca, rfl, _, _, _, _⟩ := hu.ex
 clear hu
 have hz := order_zero x hx
 have K0 : Hid (Keep [] w (w.alloc (.cells #[.int .i64 1, .bool b, .int .i64 n, .float .f32 x, .string t, .slice ao ts.length ca] 61))) := Keep.alloc1 w _
 by_cases hn : n = 0
 rotate_left
 ·have hn2 : (n != 0) = true := by simpa using hn
  have HV : Hid (zeroV ⟨1, b, n, x, t, ts⟩ = false) := show zeroV ⟨1, b, n, x, t, ts⟩ = false by simp [zeroV, hn]
  go_enter Tryz.func95, Tryz.ntmps95
  go_wp2
  go_ret
  exact ⟨by rw [HV.out]; rfl, K0.out⟩
 subst hn
 cases hzb : zeroB x
 ·rw [hzb] at hz
  have hz2 : (FloatKind.f32.format.order x 0 != some Ordering.eq) = true := by rw [bne, hz]; rfl
  have HV : Hid (zeroV ⟨1, b, 0, x, t, ts⟩ = false) := show zeroV ⟨1, b, 0, x, t, ts⟩ = false by simp [zeroV, hzb]
  go_enter Tryz.func95, Tryz.ntmps95
  go_wp2
  go_ret
  exact ⟨by rw [HV.out]; rfl, K0.out⟩
 rw [hzb] at hz
 have hz2 : (FloatKind.f32.format.order x 0 != some Ordering.eq) = false := by rw [bne, hz]; rfl
 by_cases ht : t.size = 0
 rotate_left
 ·have ht4 := text_ne ht
  have ht2 : t.toList.isEmpty = false := by rw [← ht4]; cases t.toList <;> rfl
  have ht3 : ¬ t.toList = [] := by simpa using ht4
  have HV : Hid (zeroV ⟨1, b, 0, x, t, ts⟩ = false) := show zeroV ⟨1, b, 0, x, t, ts⟩ = false by simp [zeroV, hzb, ht]
  go_enter Tryz.func95, Tryz.ntmps95
  go_wp2
  go_ret
  exact ⟨by rw [HV.out]; rfl, K0.out⟩
 obtain rfl := text_nil ht
 by_cases hl : ts.length = 0
 rotate_left
 ·have hl2 : ((ts.length : Int) == 0) = false := beq_eq_false_iff_ne.2 (by omega)
  have HV : Hid (zeroV ⟨1, b, 0, x, ⟨#[]⟩, ts⟩ = false) := show zeroV ⟨1, b, 0, x, ⟨#[]⟩, ts⟩ = false by simp [zeroV, show (⟨#[]⟩ : ByteArray).size = 0 from rfl, hzb, hl]
  go_enter Tryz.func95, Tryz.ntmps95
  go_wp2
  go_ret
  exact ⟨by rw [HV.out]; rfl, K0.out⟩
 have hl2 : ((ts.length : Int) == 0) = true := beq_iff_eq.2 (by omega)
 have HV : Hid (zeroV ⟨1, b, 0, x, ⟨#[]⟩, ts⟩ = true) := show zeroV ⟨1, b, 0, x, ⟨#[]⟩, ts⟩ = true by simp [zeroV, show (⟨#[]⟩ : ByteArray).size = 0 from rfl, hzb, hl]
 clear hl
 go_enter Tryz.func95, Tryz.ntmps95
 go_wp2
 go_ret
 exact ⟨by rw [HV.out]; rfl, K0.out⟩
set_option maxRecDepth 1000000 in
set_option maxHeartbeats 1600000 in
theorem rzero_2 (b : Bool) (n : Int) (x : Nat) (t : ByteArray) (ts : List ByteArray) (hx : x < 4294967296) (u : Value) (w : World) (hu : Ts w u ts) :
  Calls Tryz.prog 95 #[(⟨2, b, n, x, t, ts⟩ : VD).val u] w fun e w' => e = .returned (.bool (zeroV ⟨2, b, n, x, t, ts⟩)) ∧ Keep [] w w' := by
 obtain ⟨ao, ca, rfl, _, _, _, _⟩ := hu.ex
 clear hu
 have hz := order_zero x hx
 have K0 : Hid (Keep [] w (w.alloc (.cells #[.int .i64 2, .bool b, .int .i64 n, .float .f32 x, .string t, .slice ao ts.length ca] 61))) := Keep.alloc1 w _
 cases hb : b
 rotate_left
 ·subst hb
  have HV : Hid (zeroV ⟨2, true, n, x, t, ts⟩ = false) := show zeroV ⟨2, true, n, x, t, ts⟩ = false by simp [zeroV]
  go_enter Tryz.func95, Tryz.ntmps95
  go_wp2
  go_ret
  exact ⟨by rw [HV.out]; rfl, K0.out⟩
 subst hb
 cases hzb : zeroB x
 ·rw [hzb] at hz
  have hz2 : (FloatKind.f32.format.order x 0 != some Ordering.eq) = true := by rw [bne, hz]; rfl
  have HV : Hid (zeroV ⟨2, false, n, x, t, ts⟩ = false) := show zeroV ⟨2, false, n, x, t, ts⟩ = false by simp [zeroV, hzb]
  go_enter Tryz.func95, Tryz.ntmps95
  go_wp2
  go_ret
  exact ⟨by rw [HV.out]; rfl, K0.out⟩
 rw [hzb] at hz
 have hz2 : (FloatKind.f32.format.order x 0 != some Ordering.eq) = false := by rw [bne, hz]; rfl
 by_cases ht : t.size = 0
 rotate_left
 ·have ht4 := text_ne ht
  have ht2 : t.toList.isEmpty = false := by rw [← ht4]; cases t.toList <;> rfl
  have ht3 : ¬ t.toList = [] := by simpa using ht4
  have HV : Hid (zeroV ⟨2, false, n, x, t, ts⟩ = false) := show zeroV ⟨2, false, n, x, t, ts⟩ = false by simp [zeroV, hzb, ht]
  go_enter Tryz.func95, Tryz.ntmps95
  go_wp2
  go_ret
  exact ⟨by rw [HV.out]; rfl, K0.out⟩
 obtain rfl := text_nil ht
 by_cases hl : ts.length = 0
 rotate_left
 ·have hl2 : ((ts.length : Int) == 0) = false := beq_eq_false_iff_ne.2 (by omega)
  have HV : Hid (zeroV ⟨2, false, n, x, ⟨#[]⟩, ts⟩ = false) := show zeroV ⟨2, false, n, x, ⟨#[]⟩, ts⟩ = false by simp [zeroV, show (⟨#[]⟩ : ByteArray).size = 0 from rfl, hzb, hl]
  go_enter Tryz.func95, Tryz.ntmps95
  go_wp2
  go_ret
  exact ⟨by rw [HV.out]; rfl, K0.out⟩
 have hl2 : ((ts.length : Int) == 0) = true := beq_iff_eq.2 (by omega)
 have HV : Hid (zeroV ⟨2, false, n, x, ⟨#[]⟩, ts⟩ = true) := show zeroV ⟨2, false, n, x, ⟨#[]⟩, ts⟩ = true by simp [zeroV, show (⟨#[]⟩ : ByteArray).size = 0 from rfl, hzb, hl]
 clear hl
 go_enter Tryz.func95, Tryz.ntmps95
 go_wp2
 go_ret
 exact ⟨by rw [HV.out]; rfl, K0.out⟩
set_option maxRecDepth 1000000 in
set_option maxHeartbeats 1600000 in
theorem rzero_3 (b : Bool) (n : Int) (x : Nat) (t : ByteArray) (ts : List ByteArray) (hx : x < 4294967296) (u : Value) (w : World) (hu : Ts w u ts) :
  Calls Tryz.prog 95 #[(⟨3, b, n, x, t, ts⟩ : VD).val u] w fun e w' => e = .returned (.bool (zeroV ⟨3, b, n, x, t, ts⟩)) ∧ Keep [] w w' := by
 obtain ⟨ao, ca, rfl, _, _, _, _⟩ := hu.ex
 clear hu
 have hz := order_zero x hx
 have K0 : Hid (Keep [] w (w.alloc (.cells #[.int .i64 3, .bool b, .int .i64 n, .float .f32 x, .string t, .slice ao ts.length ca] 61))) := Keep.alloc1 w _
 cases hb : b
 rotate_left
 ·subst hb
  have HV : Hid (zeroV ⟨3, true, n, x, t, ts⟩ = false) := show zeroV ⟨3, true, n, x, t, ts⟩ = false by simp [zeroV]
  go_enter Tryz.func95, Tryz.ntmps95
  go_wp2
  go_ret
  exact ⟨by rw [HV.out]; rfl, K0.out⟩
 subst hb
 by_cases hn : n = 0
 rotate_left
 ·have hn2 : (n != 0) = true := by simpa using hn
  have HV : Hid (zeroV ⟨3, false, n, x, t, ts⟩ = false) := show zeroV ⟨3, false, n, x, t, ts⟩ = false by simp [zeroV, hn]
  go_enter Tryz.func95, Tryz.ntmps95
  go_wp2
  go_ret
  exact ⟨by rw [HV.out]; rfl, K0.out⟩
 subst hn
 by_cases ht : t.size = 0
 rotate_left
 ·have ht4 := text_ne ht
  have ht2 : t.toList.isEmpty = false := by rw [← ht4]; cases t.toList <;> rfl
  have ht3 : ¬ t.toList = [] := by simpa using ht4
  have HV : Hid (zeroV ⟨3, false, 0, x, t, ts⟩ = false) := show zeroV ⟨3, false, 0, x, t, ts⟩ = false by simp [zeroV, ht]
  go_enter Tryz.func95, Tryz.ntmps95
  go_wp2
  go_ret
  exact ⟨by rw [HV.out]; rfl, K0.out⟩
 obtain rfl := text_nil ht
 by_cases hl : ts.length = 0
 rotate_left
 ·have hl2 : ((ts.length : Int) == 0) = false := beq_eq_false_iff_ne.2 (by omega)
  have HV : Hid (zeroV ⟨3, false, 0, x, ⟨#[]⟩, ts⟩ = false) := show zeroV ⟨3, false, 0, x, ⟨#[]⟩, ts⟩ = false by simp [zeroV, show (⟨#[]⟩ : ByteArray).size = 0 from rfl, hl]
  go_enter Tryz.func95, Tryz.ntmps95
  go_wp2
  go_ret
  exact ⟨by rw [HV.out]; rfl, K0.out⟩
 have hl2 : ((ts.length : Int) == 0) = true := beq_iff_eq.2 (by omega)
 have HV : Hid (zeroV ⟨3, false, 0, x, ⟨#[]⟩, ts⟩ = true) := show zeroV ⟨3, false, 0, x, ⟨#[]⟩, ts⟩ = true by simp [zeroV, show (⟨#[]⟩ : ByteArray).size = 0 from rfl, hl]
 clear hl
 go_enter Tryz.func95, Tryz.ntmps95
 go_wp2
 go_ret
 exact ⟨by rw [HV.out]; rfl, K0.out⟩
set_option maxRecDepth 1000000 in
set_option maxHeartbeats 1600000 in
theorem rzero_4 (b : Bool) (n : Int) (x : Nat) (t : ByteArray) (ts : List ByteArray) (hx : x < 4294967296) (u : Value) (w : World) (hu : Ts w u ts) :
  Calls Tryz.prog 95 #[(⟨4, b, n, x, t, ts⟩ : VD).val u] w fun e w' => e = .returned (.bool (zeroV ⟨4, b, n, x, t, ts⟩)) ∧ Keep [] w w' := by
 obtain ⟨ao, ca, rfl, _, _, _, _⟩ := hu.ex
 clear hu
 have hz := order_zero x hx
 have K0 : Hid (Keep [] w (w.alloc (.cells #[.int .i64 4, .bool b, .int .i64 n, .float .f32 x, .string t, .slice ao ts.length ca] 61))) := Keep.alloc1 w _
 cases hb : b
 rotate_left
 ·subst hb
  have HV : Hid (zeroV ⟨4, true, n, x, t, ts⟩ = false) := show zeroV ⟨4, true, n, x, t, ts⟩ = false by simp [zeroV]
  go_enter Tryz.func95, Tryz.ntmps95
  go_wp2
  go_ret
  exact ⟨by rw [HV.out]; rfl, K0.out⟩
 subst hb
 by_cases hn : n = 0
 rotate_left
 ·have hn2 : (n != 0) = true := by simpa using hn
  have HV : Hid (zeroV ⟨4, false, n, x, t, ts⟩ = false) := show zeroV ⟨4, false, n, x, t, ts⟩ = false by simp [zeroV, hn]
  go_enter Tryz.func95, Tryz.ntmps95
  go_wp2
  go_ret
  exact ⟨by rw [HV.out]; rfl, K0.out⟩
 subst hn
 cases hzb : zeroB x
 ·rw [hzb] at hz
  have hz2 : (FloatKind.f32.format.order x 0 != some Ordering.eq) = true := by rw [bne, hz]; rfl
  have HV : Hid (zeroV ⟨4, false, 0, x, t, ts⟩ = false) := show zeroV ⟨4, false, 0, x, t, ts⟩ = false by simp [zeroV, hzb]
  go_enter Tryz.func95, Tryz.ntmps95
  go_wp2
  go_ret
  exact ⟨by rw [HV.out]; rfl, K0.out⟩
 rw [hzb] at hz
 have hz2 : (FloatKind.f32.format.order x 0 != some Ordering.eq) = false := by rw [bne, hz]; rfl
 by_cases hl : ts.length = 0
 rotate_left
 ·have hl2 : ((ts.length : Int) == 0) = false := beq_eq_false_iff_ne.2 (by omega)
  have HV : Hid (zeroV ⟨4, false, 0, x, t, ts⟩ = false) := show zeroV ⟨4, false, 0, x, t, ts⟩ = false by simp [zeroV, hzb, hl]
  go_enter Tryz.func95, Tryz.ntmps95
  go_wp2
  go_ret
  exact ⟨by rw [HV.out]; rfl, K0.out⟩
 have hl2 : ((ts.length : Int) == 0) = true := beq_iff_eq.2 (by omega)
 have HV : Hid (zeroV ⟨4, false, 0, x, t, ts⟩ = true) := show zeroV ⟨4, false, 0, x, t, ts⟩ = true by simp [zeroV, hzb, hl]
 clear hl
 go_enter Tryz.func95, Tryz.ntmps95
 go_wp2
 go_ret
 exact ⟨by rw [HV.out]; rfl, K0.out⟩
set_option maxRecDepth 1000000 in
set_option maxHeartbeats 1600000 in
theorem rzero_5 (b : Bool) (n : Int) (x : Nat) (t : ByteArray) (ts : List ByteArray) (hx : x < 4294967296) (u : Value) (w : World) (hu : Ts w u ts) :
  Calls Tryz.prog 95 #[(⟨5, b, n, x, t, ts⟩ : VD).val u] w fun e w' => e = .returned (.bool (zeroV ⟨5, b, n, x, t, ts⟩)) ∧ Keep [] w w' := by
 obtain ⟨ao, ca, rfl, _, _, _, _⟩ := hu.ex
 clear hu
 have hz := order_zero x hx
 have K0 : Hid (Keep [] w (w.alloc (.cells #[.int .i64 5, .bool b, .int .i64 n, .float .f32 x, .string t, .slice ao ts.length ca] 61))) := Keep.alloc1 w _
 cases hb : b
 rotate_left
 ·subst hb
  have HV : Hid (zeroV ⟨5, true, n, x, t, ts⟩ = false) := show zeroV ⟨5, true, n, x, t, ts⟩ = false by simp [zeroV]
  go_enter Tryz.func95, Tryz.ntmps95
  go_wp2
  go_ret
  exact ⟨by rw [HV.out]; rfl, K0.out⟩
 subst hb
 by_cases hn : n = 0
 rotate_left
 ·have hn2 : (n != 0) = true := by simpa using hn
  have HV : Hid (zeroV ⟨5, false, n, x, t, ts⟩ = false) := show zeroV ⟨5, false, n, x, t, ts⟩ = false by simp [zeroV, hn]
  go_enter Tryz.func95, Tryz.ntmps95
  go_wp2
  go_ret
  exact ⟨by rw [HV.out]; rfl, K0.out⟩
 subst hn
 cases hzb : zeroB x
 ·rw [hzb] at hz
  have hz2 : (FloatKind.f32.format.order x 0 != some Ordering.eq) = true := by rw [bne, hz]; rfl
  have HV : Hid (zeroV ⟨5, false, 0, x, t, ts⟩ = false) := show zeroV ⟨5, false, 0, x, t, ts⟩ = false by simp [zeroV, hzb]
  go_enter Tryz.func95, Tryz.ntmps95
  go_wp2
  go_ret
  exact ⟨by rw [HV.out]; rfl, K0.out⟩
 rw [hzb] at hz
 have hz2 : (FloatKind.f32.format.order x 0 != some Ordering.eq) = false := by rw [bne, hz]; rfl
 by_cases ht : t.size = 0
 rotate_left
 ·have ht4 := text_ne ht
  have ht2 : t.toList.isEmpty = false := by rw [← ht4]; cases t.toList <;> rfl
  have ht3 : ¬ t.toList = [] := by simpa using ht4
  have HV : Hid (zeroV ⟨5, false, 0, x, t, ts⟩ = false) := show zeroV ⟨5, false, 0, x, t, ts⟩ = false by simp [zeroV, hzb, ht]
  go_enter Tryz.func95, Tryz.ntmps95
  go_wp2
  go_ret
  exact ⟨by rw [HV.out]; rfl, K0.out⟩
 obtain rfl := text_nil ht
 have HV : Hid (zeroV ⟨5, false, 0, x, ⟨#[]⟩, ts⟩ = true) := show zeroV ⟨5, false, 0, x, ⟨#[]⟩, ts⟩ = true by simp [zeroV, show (⟨#[]⟩ : ByteArray).size = 0 from rfl, hzb]
 go_enter Tryz.func95, Tryz.ntmps95
 go_wp2
 go_ret
 exact ⟨by rw [HV.out]; rfl, K0.out⟩
theorem rzero_any (p : VD) (hp : p.Ok) (h1 : 1 ≤ p.kind) (h5 : p.kind ≤ 5) (u : Value) (w : World) (hu : Ts w u p.texts) :
  Calls Tryz.prog 95 #[p.val u] w fun e w' => e = .returned (.bool p.clear.emptyB) ∧ Keep [] w w' := by
 rw [zero_empty p h1 h5]
 obtain ⟨kd, b, n, x, t, ts⟩ := p
 have hx := hp.real1
 simp only [] at h1 h5 hx
 have hc : kd = 1 ∨ kd = 2 ∨ kd = 3 ∨ kd = 4 ∨ kd = 5 := by omega
 rcases hc with rfl | rfl | rfl | rfl | rfl
 ·exact rzero_1 b n x t ts hx u w hu
 ·exact rzero_2 b n x t ts hx u w hu
 ·exact rzero_3 b n x t ts hx u w hu
 ·exact rzero_4 b n x t ts hx u w hu
 ·exact rzero_5 b n x t ts hx u w hu
end Go.Proofs.YtfpcpociejefaaaGreatDoor
