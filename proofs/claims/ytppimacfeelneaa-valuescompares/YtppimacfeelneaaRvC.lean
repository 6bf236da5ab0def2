/- The document's May: just mayB. -/
import Derived.Test.YtppimacfeelneaaRvA

namespace Go.Proofs.Ytppimacfeelneaa
open Go.RowKit Go.PlainAid

def zeroV (p : VD) : Bool := !((p.kind != 1) && p.bool || (p.kind != 2) && (p.int != 0) || (p.kind != 3) && !zeroB p.real) && ((p.kind == 4) || p.text.size == 0) && ((p.kind == 5) || p.texts.length == 0)
theorem zero_empty (p : VD) (h1 : 1 ≤ p.kind) (h5 : p.kind ≤ 5) : p.clear.emptyB = zeroV p := by
  obtain ⟨kd, b, n, x, t, ts⟩ := p
  simp only [] at h1 h5
  have hc : kd = 1 ∨ kd = 2 ∨ kd = 3 ∨ kd = 4 ∨ kd = 5 := by omega
  have hz : zeroB 0 = true := by decide
  have hl : ts.isEmpty = (ts.length == 0) := by cases ts <;> rfl
  rcases hc with rfl | rfl | rfl | rfl | rfl
  all_goals
    simp only [VD.clear, VD.emptyB, zeroV]
    simp [hz, hl, bne, show (⟨#[]⟩ : ByteArray).size = 0 from rfl]
    try (cases b <;> cases zeroB x <;> simp)

set_option maxRecDepth 1000000 in
set_option maxHeartbeats 1600000 in
theorem rzero_1 (b : Bool) (n : Int) (x : Nat) (t : ByteArray) (ts : List ByteArray) (hx : x < 4294967296) (u : Value) (w : World) (hu : Ts w u ts) :
    Calls Try.prog 76 #[(⟨1, b, n, x, t, ts⟩ : VD).val u] w fun e w' => e = .returned (.bool (zeroV ⟨1, b, n, x, t, ts⟩)) ∧ Keep [] w w' := by
  obtain ⟨ao, ca, rfl, _, _, _, _⟩ := hu.ex
  clear hu
  have hz := order_zero x hx
  have K0 : Hid (Keep [] w (w.alloc (.cells #[.int .i64 1, .bool b, .int .i64 n, .float .f32 x, .string t, .slice ao ts.length ca] 28))) := Keep.alloc1 w _
  by_cases hn : n = 0
  rotate_left
  · have hn2 : (n != 0) = true := by simpa using hn
    have HV : Hid (zeroV ⟨1, b, n, x, t, ts⟩ = false) := show zeroV ⟨1, b, n, x, t, ts⟩ = false by simp [zeroV, hn]
    go_enter Try.func76, Try.ntmps76
    go_wp2
    go_ret
    exact ⟨by rw [HV.out]; rfl, K0.out⟩
  subst hn
  cases hzb : zeroB x
  · rw [hzb] at hz
    have hz2 : (FloatKind.f32.format.order x 0 != some Ordering.eq) = true := by rw [bne, hz]; rfl
    have HV : Hid (zeroV ⟨1, b, 0, x, t, ts⟩ = false) := show zeroV ⟨1, b, 0, x, t, ts⟩ = false by simp [zeroV, hzb]
    go_enter Try.func76, Try.ntmps76
    go_wp2
    go_ret
    exact ⟨by rw [HV.out]; rfl, K0.out⟩
  rw [hzb] at hz
  have hz2 : (FloatKind.f32.format.order x 0 != some Ordering.eq) = false := by rw [bne, hz]; rfl
  by_cases ht : t.size = 0
  rotate_left
  · have ht4 := text_ne ht
    have ht2 : t.toList.isEmpty = false := by rw [← ht4]; cases t.toList <;> rfl
    have ht3 : ¬ t.toList = [] := by simpa using ht4
    have HV : Hid (zeroV ⟨1, b, 0, x, t, ts⟩ = false) := show zeroV ⟨1, b, 0, x, t, ts⟩ = false by simp [zeroV, hzb, ht]
    go_enter Try.func76, Try.ntmps76
    go_wp2
    go_ret
    exact ⟨by rw [HV.out]; rfl, K0.out⟩
  obtain rfl := text_nil ht
  by_cases hl : ts.length = 0
  rotate_left
  · have hl2 : ((ts.length : Int) == 0) = false := beq_eq_false_iff_ne.2 (by omega)
    have HV : Hid (zeroV ⟨1, b, 0, x, ⟨#[]⟩, ts⟩ = false) := show zeroV ⟨1, b, 0, x, ⟨#[]⟩, ts⟩ = false by simp [zeroV, show (⟨#[]⟩ : ByteArray).size = 0 from rfl, hzb, hl]
    go_enter Try.func76, Try.ntmps76
    go_wp2
    go_ret
    exact ⟨by rw [HV.out]; rfl, K0.out⟩
  have hl2 : ((ts.length : Int) == 0) = true := beq_iff_eq.2 (by omega)
  have HV : Hid (zeroV ⟨1, b, 0, x, ⟨#[]⟩, ts⟩ = true) := show zeroV ⟨1, b, 0, x, ⟨#[]⟩, ts⟩ = true by simp [zeroV, show (⟨#[]⟩ : ByteArray).size = 0 from rfl, hzb, hl]
  clear hl
  go_enter Try.func76, Try.ntmps76
  go_wp2
  go_ret
  exact ⟨by rw [HV.out]; rfl, K0.out⟩

set_option maxRecDepth 1000000 in
set_option maxHeartbeats 1600000 in
theorem rzero_2 (b : Bool) (n : Int) (x : Nat) (t : ByteArray) (ts : List ByteArray) (hx : x < 4294967296) (u : Value) (w : World) (hu : Ts w u ts) :
    Calls Try.prog 76 #[(⟨2, b, n, x, t, ts⟩ : VD).val u] w fun e w' => e = .returned (.bool (zeroV ⟨2, b, n, x, t, ts⟩)) ∧ Keep [] w w' := by
  obtain ⟨ao, ca, rfl, _, _, _, _⟩ := hu.ex
  clear hu
  have hz := order_zero x hx
  have K0 : Hid (Keep [] w (w.alloc (.cells #[.int .i64 2, .bool b, .int .i64 n, .float .f32 x, .string t, .slice ao ts.length ca] 28))) := Keep.alloc1 w _
  cases hb : b
  rotate_left
  · subst hb
    have HV : Hid (zeroV ⟨2, true, n, x, t, ts⟩ = false) := show zeroV ⟨2, true, n, x, t, ts⟩ = false by simp [zeroV]
    go_enter Try.func76, Try.ntmps76
    go_wp2
    go_ret
    exact ⟨by rw [HV.out]; rfl, K0.out⟩
  subst hb
  cases hzb : zeroB x
  · rw [hzb] at hz
    have hz2 : (FloatKind.f32.format.order x 0 != some Ordering.eq) = true := by rw [bne, hz]; rfl
    have HV : Hid (zeroV ⟨2, false, n, x, t, ts⟩ = false) := show zeroV ⟨2, false, n, x, t, ts⟩ = false by simp [zeroV, hzb]
    go_enter Try.func76, Try.ntmps76
    go_wp2
    go_ret
    exact ⟨by rw [HV.out]; rfl, K0.out⟩
  rw [hzb] at hz
  have hz2 : (FloatKind.f32.format.order x 0 != some Ordering.eq) = false := by rw [bne, hz]; rfl
  by_cases ht : t.size = 0
  rotate_left
  · have ht4 := text_ne ht
    have ht2 : t.toList.isEmpty = false := by rw [← ht4]; cases t.toList <;> rfl
    have ht3 : ¬ t.toList = [] := by simpa using ht4
    have HV : Hid (zeroV ⟨2, false, n, x, t, ts⟩ = false) := show zeroV ⟨2, false, n, x, t, ts⟩ = false by simp [zeroV, hzb, ht]
    go_enter Try.func76, Try.ntmps76
    go_wp2
    go_ret
    exact ⟨by rw [HV.out]; rfl, K0.out⟩
  obtain rfl := text_nil ht
  by_cases hl : ts.length = 0
  rotate_left
  · have hl2 : ((ts.length : Int) == 0) = false := beq_eq_false_iff_ne.2 (by omega)
    have HV : Hid (zeroV ⟨2, false, n, x, ⟨#[]⟩, ts⟩ = false) := show zeroV ⟨2, false, n, x, ⟨#[]⟩, ts⟩ = false by simp [zeroV, show (⟨#[]⟩ : ByteArray).size = 0 from rfl, hzb, hl]
    go_enter Try.func76, Try.ntmps76
    go_wp2
    go_ret
    exact ⟨by rw [HV.out]; rfl, K0.out⟩
  have hl2 : ((ts.length : Int) == 0) = true := beq_iff_eq.2 (by omega)
  have HV : Hid (zeroV ⟨2, false, n, x, ⟨#[]⟩, ts⟩ = true) := show zeroV ⟨2, false, n, x, ⟨#[]⟩, ts⟩ = true by simp [zeroV, show (⟨#[]⟩ : ByteArray).size = 0 from rfl, hzb, hl]
  clear hl
  go_enter Try.func76, Try.ntmps76
  go_wp2
  go_ret
  exact ⟨by rw [HV.out]; rfl, K0.out⟩

set_option maxRecDepth 1000000 in
set_option maxHeartbeats 1600000 in
theorem rzero_3 (b : Bool) (n : Int) (x : Nat) (t : ByteArray) (ts : List ByteArray) (hx : x < 4294967296) (u : Value) (w : World) (hu : Ts w u ts) :
    Calls Try.prog 76 #[(⟨3, b, n, x, t, ts⟩ : VD).val u] w fun e w' => e = .returned (.bool (zeroV ⟨3, b, n, x, t, ts⟩)) ∧ Keep [] w w' := by
  obtain ⟨ao, ca, rfl, _, _, _, _⟩ := hu.ex
  clear hu
  have hz := order_zero x hx
  have K0 : Hid (Keep [] w (w.alloc (.cells #[.int .i64 3, .bool b, .int .i64 n, .float .f32 x, .string t, .slice ao ts.length ca] 28))) := Keep.alloc1 w _
  cases hb : b
  rotate_left
  · subst hb
    have HV : Hid (zeroV ⟨3, true, n, x, t, ts⟩ = false) := show zeroV ⟨3, true, n, x, t, ts⟩ = false by simp [zeroV]
    go_enter Try.func76, Try.ntmps76
    go_wp2
    go_ret
    exact ⟨by rw [HV.out]; rfl, K0.out⟩
  subst hb
  by_cases hn : n = 0
  rotate_left
  · have hn2 : (n != 0) = true := by simpa using hn
    have HV : Hid (zeroV ⟨3, false, n, x, t, ts⟩ = false) := show zeroV ⟨3, false, n, x, t, ts⟩ = false by simp [zeroV, hn]
    go_enter Try.func76, Try.ntmps76
    go_wp2
    go_ret
    exact ⟨by rw [HV.out]; rfl, K0.out⟩
  subst hn
  by_cases ht : t.size = 0
  rotate_left
  · have ht4 := text_ne ht
    have ht2 : t.toList.isEmpty = false := by rw [← ht4]; cases t.toList <;> rfl
    have ht3 : ¬ t.toList = [] := by simpa using ht4
    have HV : Hid (zeroV ⟨3, false, 0, x, t, ts⟩ = false) := show zeroV ⟨3, false, 0, x, t, ts⟩ = false by simp [zeroV, ht]
    go_enter Try.func76, Try.ntmps76
    go_wp2
    go_ret
    exact ⟨by rw [HV.out]; rfl, K0.out⟩
  obtain rfl := text_nil ht
  by_cases hl : ts.length = 0
  rotate_left
  · have hl2 : ((ts.length : Int) == 0) = false := beq_eq_false_iff_ne.2 (by omega)
    have HV : Hid (zeroV ⟨3, false, 0, x, ⟨#[]⟩, ts⟩ = false) := show zeroV ⟨3, false, 0, x, ⟨#[]⟩, ts⟩ = false by simp [zeroV, show (⟨#[]⟩ : ByteArray).size = 0 from rfl, hl]
    go_enter Try.func76, Try.ntmps76
    go_wp2
    go_ret
    exact ⟨by rw [HV.out]; rfl, K0.out⟩
  have hl2 : ((ts.length : Int) == 0) = true := beq_iff_eq.2 (by omega)
  have HV : Hid (zeroV ⟨3, false, 0, x, ⟨#[]⟩, ts⟩ = true) := show zeroV ⟨3, false, 0, x, ⟨#[]⟩, ts⟩ = true by simp [zeroV, show (⟨#[]⟩ : ByteArray).size = 0 from rfl, hl]
  clear hl
  go_enter Try.func76, Try.ntmps76
  go_wp2
  go_ret
  exact ⟨by rw [HV.out]; rfl, K0.out⟩

set_option maxRecDepth 1000000 in
set_option maxHeartbeats 1600000 in
theorem rzero_4 (b : Bool) (n : Int) (x : Nat) (t : ByteArray) (ts : List ByteArray) (hx : x < 4294967296) (u : Value) (w : World) (hu : Ts w u ts) :
    Calls Try.prog 76 #[(⟨4, b, n, x, t, ts⟩ : VD).val u] w fun e w' => e = .returned (.bool (zeroV ⟨4, b, n, x, t, ts⟩)) ∧ Keep [] w w' := by
  obtain ⟨ao, ca, rfl, _, _, _, _⟩ := hu.ex
  clear hu
  have hz := order_zero x hx
  have K0 : Hid (Keep [] w (w.alloc (.cells #[.int .i64 4, .bool b, .int .i64 n, .float .f32 x, .string t, .slice ao ts.length ca] 28))) := Keep.alloc1 w _
  cases hb : b
  rotate_left
  · subst hb
    have HV : Hid (zeroV ⟨4, true, n, x, t, ts⟩ = false) := show zeroV ⟨4, true, n, x, t, ts⟩ = false by simp [zeroV]
    go_enter Try.func76, Try.ntmps76
    go_wp2
    go_ret
    exact ⟨by rw [HV.out]; rfl, K0.out⟩
  subst hb
  by_cases hn : n = 0
  rotate_left
  · have hn2 : (n != 0) = true := by simpa using hn
    have HV : Hid (zeroV ⟨4, false, n, x, t, ts⟩ = false) := show zeroV ⟨4, false, n, x, t, ts⟩ = false by simp [zeroV, hn]
    go_enter Try.func76, Try.ntmps76
    go_wp2
    go_ret
    exact ⟨by rw [HV.out]; rfl, K0.out⟩
  subst hn
  cases hzb : zeroB x
  · rw [hzb] at hz
    have hz2 : (FloatKind.f32.format.order x 0 != some Ordering.eq) = true := by rw [bne, hz]; rfl
    have HV : Hid (zeroV ⟨4, false, 0, x, t, ts⟩ = false) := show zeroV ⟨4, false, 0, x, t, ts⟩ = false by simp [zeroV, hzb]
    go_enter Try.func76, Try.ntmps76
    go_wp2
    go_ret
    exact ⟨by rw [HV.out]; rfl, K0.out⟩
  rw [hzb] at hz
  have hz2 : (FloatKind.f32.format.order x 0 != some Ordering.eq) = false := by rw [bne, hz]; rfl
  by_cases hl : ts.length = 0
  rotate_left
  · have hl2 : ((ts.length : Int) == 0) = false := beq_eq_false_iff_ne.2 (by omega)
    have HV : Hid (zeroV ⟨4, false, 0, x, t, ts⟩ = false) := show zeroV ⟨4, false, 0, x, t, ts⟩ = false by simp [zeroV, hzb, hl]
    go_enter Try.func76, Try.ntmps76
    go_wp2
    go_ret
    exact ⟨by rw [HV.out]; rfl, K0.out⟩
  have hl2 : ((ts.length : Int) == 0) = true := beq_iff_eq.2 (by omega)
  have HV : Hid (zeroV ⟨4, false, 0, x, t, ts⟩ = true) := show zeroV ⟨4, false, 0, x, t, ts⟩ = true by simp [zeroV, hzb, hl]
  clear hl
  go_enter Try.func76, Try.ntmps76
  go_wp2
  go_ret
  exact ⟨by rw [HV.out]; rfl, K0.out⟩

set_option maxRecDepth 1000000 in
set_option maxHeartbeats 1600000 in
theorem rzero_5 (b : Bool) (n : Int) (x : Nat) (t : ByteArray) (ts : List ByteArray) (hx : x < 4294967296) (u : Value) (w : World) (hu : Ts w u ts) :
    Calls Try.prog 76 #[(⟨5, b, n, x, t, ts⟩ : VD).val u] w fun e w' => e = .returned (.bool (zeroV ⟨5, b, n, x, t, ts⟩)) ∧ Keep [] w w' := by
  obtain ⟨ao, ca, rfl, _, _, _, _⟩ := hu.ex
  clear hu
  have hz := order_zero x hx
  have K0 : Hid (Keep [] w (w.alloc (.cells #[.int .i64 5, .bool b, .int .i64 n, .float .f32 x, .string t, .slice ao ts.length ca] 28))) := Keep.alloc1 w _
  cases hb : b
  rotate_left
  · subst hb
    have HV : Hid (zeroV ⟨5, true, n, x, t, ts⟩ = false) := show zeroV ⟨5, true, n, x, t, ts⟩ = false by simp [zeroV]
    go_enter Try.func76, Try.ntmps76
    go_wp2
    go_ret
    exact ⟨by rw [HV.out]; rfl, K0.out⟩
  subst hb
  by_cases hn : n = 0
  rotate_left
  · have hn2 : (n != 0) = true := by simpa using hn
    have HV : Hid (zeroV ⟨5, false, n, x, t, ts⟩ = false) := show zeroV ⟨5, false, n, x, t, ts⟩ = false by simp [zeroV, hn]
    go_enter Try.func76, Try.ntmps76
    go_wp2
    go_ret
    exact ⟨by rw [HV.out]; rfl, K0.out⟩
  subst hn
  cases hzb : zeroB x
  · rw [hzb] at hz
    have hz2 : (FloatKind.f32.format.order x 0 != some Ordering.eq) = true := by rw [bne, hz]; rfl
    have HV : Hid (zeroV ⟨5, false, 0, x, t, ts⟩ = false) := show zeroV ⟨5, false, 0, x, t, ts⟩ = false by simp [zeroV, hzb]
    go_enter Try.func76, Try.ntmps76
    go_wp2
    go_ret
    exact ⟨by rw [HV.out]; rfl, K0.out⟩
  rw [hzb] at hz
  have hz2 : (FloatKind.f32.format.order x 0 != some Ordering.eq) = false := by rw [bne, hz]; rfl
  by_cases ht : t.size = 0
  rotate_left
  · have ht4 := text_ne ht
    have ht2 : t.toList.isEmpty = false := by rw [← ht4]; cases t.toList <;> rfl
    have ht3 : ¬ t.toList = [] := by simpa using ht4
    have HV : Hid (zeroV ⟨5, false, 0, x, t, ts⟩ = false) := show zeroV ⟨5, false, 0, x, t, ts⟩ = false by simp [zeroV, hzb, ht]
    go_enter Try.func76, Try.ntmps76
    go_wp2
    go_ret
    exact ⟨by rw [HV.out]; rfl, K0.out⟩
  obtain rfl := text_nil ht
  have HV : Hid (zeroV ⟨5, false, 0, x, ⟨#[]⟩, ts⟩ = true) := show zeroV ⟨5, false, 0, x, ⟨#[]⟩, ts⟩ = true by simp [zeroV, show (⟨#[]⟩ : ByteArray).size = 0 from rfl, hzb]
  go_enter Try.func76, Try.ntmps76
  go_wp2
  go_ret
  exact ⟨by rw [HV.out]; rfl, K0.out⟩

theorem rzero_any (p : VD) (hp : p.Ok) (h1 : 1 ≤ p.kind) (h5 : p.kind ≤ 5) (u : Value) (w : World) (hu : Ts w u p.texts) :
    Calls Try.prog 76 #[p.val u] w fun e w' => e = .returned (.bool p.clear.emptyB) ∧ Keep [] w w' := by
  rw [zero_empty p h1 h5]
  obtain ⟨kd, b, n, x, t, ts⟩ := p
  have hx := hp.real1
  simp only [] at h1 h5 hx
  have hc : kd = 1 ∨ kd = 2 ∨ kd = 3 ∨ kd = 4 ∨ kd = 5 := by omega
  rcases hc with rfl | rfl | rfl | rfl | rfl
  · exact rzero_1 b n x t ts hx u w hu
  · exact rzero_2 b n x t ts hx u w hu
  · exact rzero_3 b n x t ts hx u w hu
  · exact rzero_4 b n x t ts hx u w hu
  · exact rzero_5 b n x t ts hx u w hu
end Go.Proofs.Ytppimacfeelneaa

/- The document's May. -/
namespace Go.Proofs.Ytppimacfeelneaa
open Go.RowKit Go.PlainAid

theorem one_cells {w w1 : World} {v0 v1 v2 v3 v4 v5 : Value} {t : TypeId} (k : Keep [] (w.alloc (.cells #[v0, v1, v2, v3, v4, v5] t)) w1) :
    w1.cell? ⟨w.heap.size, 0, none⟩ = some v0 ∧ w1.cell? ⟨w.heap.size, 1, none⟩ = some v1 ∧ w1.cell? ⟨w.heap.size, 2, none⟩ = some v2 ∧ w1.cell? ⟨w.heap.size, 3, none⟩ = some v3 ∧ w1.cell? ⟨w.heap.size, 4, none⟩ = some v4 ∧ w1.cell? ⟨w.heap.size, 5, none⟩ = some v5 := by
  refine ⟨k.cell' ?_ (by simp), k.cell' ?_ (by simp), k.cell' ?_ (by simp), k.cell' ?_ (by simp), k.cell' ?_ (by simp), k.cell' ?_ (by simp)⟩ <;> simp [go_sem]

set_option maxRecDepth 1000000 in
set_option maxHeartbeats 1600000 in
theorem rMay_any (p : VD) (hp : p.Ok) (u : Value) (w : World) (hu : Ts w u p.texts) :
    Calls Try.prog 38 #[p.val u] w fun e w' => e = .returned (.bool p.mayB) ∧ Keep [] w w' := by
  have HU : Hid (Ts w u p.texts) := hu
  have ht1 : p.text.size ≤ 9223372036854775807 := hp.text1
  obtain ⟨ao, ca, rfl, hl1, hl2, _, _⟩ := hu.ex
  clear hu
  by_cases h1 : p.kind < 1
  · have HV : Hid (p.mayB = false) := show p.mayB = false by unfold VD.mayB; rw [decide_eq_false (by omega)]; rfl
    obtain ⟨kd, b, n, x, t, ts⟩ := p
    simp only [] at *
    go_enter Try.func38, Try.ntmps38
    go_wp2
    go_ret
    exact ⟨by rw [HV.out]; rfl, Keep.alloc1 _ _⟩
  by_cases h5 : 5 < p.kind
  · have HV : Hid (p.mayB = false) := show p.mayB = false by unfold VD.mayB; rw [decide_eq_false (by omega)]; rfl
    obtain ⟨kd, b, n, x, t, ts⟩ := p
    simp only [] at *
    go_enter Try.func38, Try.ntmps38
    go_wp2
    go_ret
    exact ⟨by rw [HV.out]; rfl, Keep.alloc1 _ _⟩
  have hZ := fun w1 (k : Keep [] w w1) => rzero_any p hp (by omega) (by omega) (.slice ao p.texts.length ca) w1 (HU.out.keep k (Off.nil _))
  have hm : p.mayB = (p.clear.emptyB && p.shortB) := by unfold VD.mayB; rw [decide_eq_true (by omega), Bool.true_and]
  cases he : p.clear.emptyB
  · rw [he] at hZ hm
    have HV : Hid (p.mayB = false) := show p.mayB = false by rw [hm]; rfl
    clear hm he HU hp
    obtain ⟨kd, b, n, x, t, ts⟩ := p
    simp only [] at *
    go_enter Try.func38, Try.ntmps38
    go_wp2_with (go_at_call 76; refine (hZ _ (Keep.alloc1 _ _)).mono ?_; rintro e9 w1 ⟨rfl, k1⟩)
    have HK : Hid (Keep [] w w1) := (Keep.alloc1 _ _).trans' k1
    clear k1
    go_ret
    exact ⟨by rw [HV.out]; rfl, HK.out⟩
  rw [he, Bool.true_and] at hm
  rw [he] at hZ
  unfold VD.shortB at hm
  by_cases ht : 256 < p.text.size
  · have HV : Hid (p.mayB = false) := show p.mayB = false by rw [hm, decide_eq_false (by omega)]; rfl
    have hti : (256 : Int) < (p.text.size : Int) := by omega
    clear hm he HU hp
    obtain ⟨kd, b, n, x, t, ts⟩ := p
    simp only [] at *
    go_enter Try.func38, Try.ntmps38
    go_wp2_with (go_at_call 76; refine (hZ _ (Keep.alloc1 _ _)).mono ?_; rintro e9 w1 ⟨rfl, k1⟩; obtain ⟨c0, c1, c2, c3, c4, c5⟩ := one_cells k1; have HK : Hid (Keep [] w w1) := (Keep.alloc1 _ _).trans' k1; clear k1)
    go_ret
    exact ⟨by rw [HV.out]; rfl, HK.out⟩
  have hti : ¬ (256 : Int) < (p.text.size : Int) := by omega
  rw [decide_eq_true (show p.text.size ≤ 256 by omega), Bool.true_and] at hm
  by_cases hl : 32 < p.texts.length
  · have HV : Hid (p.mayB = false) := show p.mayB = false by rw [hm, decide_eq_false (by omega)]; rfl
    have hli : (32 : Int) < (p.texts.length : Int) := by omega
    clear hm he HU hp
    obtain ⟨kd, b, n, x, t, ts⟩ := p
    simp only [] at *
    go_enter Try.func38, Try.ntmps38
    go_wp2_with (go_at_call 76; refine (hZ _ (Keep.alloc1 _ _)).mono ?_; rintro e9 w1 ⟨rfl, k1⟩; obtain ⟨c0, c1, c2, c3, c4, c5⟩ := one_cells k1; have HK : Hid (Keep [] w w1) := (Keep.alloc1 _ _).trans' k1; clear k1)
    go_ret
    exact ⟨by rw [HV.out]; rfl, HK.out⟩
  have hli : ¬ (32 : Int) < (p.texts.length : Int) := by omega
  rw [decide_eq_true (show p.texts.length ≤ 32 by omega), Bool.true_and] at hm
  have HM : Hid (p.mayB = !longB p.texts) := hm
  clear hm he hp
  obtain ⟨kd, b, n, x, t, ts⟩ := p
  simp only [] at *
  go_enter Try.func38, Try.ntmps38
  go_wp2_with (go_at_call 76; refine (hZ _ (Keep.alloc1 _ _)).mono ?_; rintro e9 w1 ⟨rfl, k1⟩; obtain ⟨c0, c1, c2, c3, c4, c5⟩ := one_cells k1; have HK : Hid (Keep [] w w1) := (Keep.alloc1 _ _).trans' k1; clear k1)
  clear hZ c0 c1 c2 c3 c4
  have HS : Hid (∀ s ∈ ts, s.size ≤ 9223372036854775807) := by obtain ⟨_, _, _, _, _, h3, _⟩ := HU.out.ex; exact h3
  have HE : Hid (ts ≠ [] → ∃ g o, ao = some ⟨g, o, none⟩ ∧ ∀ j (h : j < ts.length), w1.cell? ⟨g, o + j, none⟩ = some (.string ts[j])) := by
    obtain ⟨ao', ca', e, _, _, _, h4⟩ := (HU.out.keep HK.out (Off.nil _)).ex
    simp at e
    obtain ⟨rfl, rfl⟩ := e
    exact h4
  clear HU
  go_loop [3] (fun iv => ∃ k : Nat, iv = .int .i64 (k : Int) ∧ k ≤ ts.length ∧ Hid (∀ j (h : j < ts.length), j < k → ¬ 256 < ts[j].size)) (fun iv => ts.length - (intOf iv).toNat)
  case atStart => exact ⟨0, rfl, Nat.zero_le _, fun j _ h => absurd h (Nat.not_lt_zero j)⟩
  case round =>
    obtain ⟨k, rfl, hk, hall⟩ := hrel
    by_cases hlt : k < ts.length
    · have hki : (k : Int) < (ts.length : Int) := by omega
      obtain ⟨g, o, rfl, hc⟩ := HE.out (by intro hz; rw [hz] at hlt; simp at hlt)
      have hca := hc k hlt
      have hsz := HS.out _ (List.getElem_mem hlt)
      by_cases hs : 256 < ts[k].size
      · have HV : Hid ((⟨kd, b, n, x, t, ts⟩ : VD).mayB = false) := by
          show _ = _
          rw [HM.out, (longI_some ts k hlt (fun j hj hjk => hall.out j hj hjk) hs).2]; rfl
        have hsi : (256 : Int) < (ts[k].size : Int) := by omega
        clear hall hc HE HM HS
        generalize ts[k] = s at hca hsi hsz
        go_wp2
        go_ret
        exact ⟨by rw [HV.out]; rfl, HK.out⟩
      · have hsi : ¬ (256 : Int) < (ts[k].size : Int) := by omega
        have HA : Hid (∀ j (h : j < ts.length), j < k + 1 → ¬ 256 < ts[j].size) := fun j h hj => by
          by_cases e : j = k
          · subst e; exact hs
          · exact hall.out j h (by omega)
        clear hall hc HE hs
        generalize ts[k] = s at hca hsi hsz
        go_wp2
        go_round
        case rel => exact ⟨k + 1, by go_num, by omega, HA⟩
        case measure => simp [intOf]; omega
    · have hki : ¬ (k : Int) < (ts.length : Int) := by omega
      have HV : Hid ((⟨kd, b, n, x, t, ts⟩ : VD).mayB = true) := by
        show _ = _
        rw [HM.out, (longI_none ts (fun j hj => hall.out j hj (by omega))).2]; rfl
      clear hall HE HM
      go_wp2
      go_ret
      exact ⟨by rw [HV.out]; rfl, HK.out⟩
end Go.Proofs.Ytppimacfeelneaa
