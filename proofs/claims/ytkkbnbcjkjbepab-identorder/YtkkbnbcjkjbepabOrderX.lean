/- The walk of IdentOrder. -/
import Derived.Test.YtkkbnbcjkjbepabCompP
namespace Go.Proofs.Ytkkbnbcjkjbepab
open Go.RowKit Go.PlainAid

theorem cmpSub_at (t i r t' i' r' : ByteArray) (x : Int) (h : cmpS t.toList i.toList r.toList t'.toList i'.toList r'.toList = x) (w : World) :
    Calls Try.prog 11 #[.agg #[.string t, .string i, .string r], .agg #[.string t', .string i', .string r']] w fun e w' => e = .returned (.int .i64 x) ∧ Below w.heap.size w w' := by
  subst h; exact cmpSub_any _ _ _ _ _ _ _
theorem cmpObj_at (t i t' i' : ByteArray) (x : Int) (h : cmpO t.toList i.toList t'.toList i'.toList = x) (w : World) :
    Calls Try.prog 9 #[.agg #[.string t, .string i], .agg #[.string t', .string i']] w fun e w' => e = .returned (.int .i64 x) ∧ Below w.heap.size w w' := by
  subst h; exact cmpObj_any _ _ _ _ _

theorem nine (a0 a1 a2 b0 b1 b2 c0 c1 c2 : ByteArray) (w wi : World) (hB : Below (((w.alloc (.cells #[.string a0, .string a1, .string a2] 25)).alloc (.cells #[.string b0, .string b1, .string b2] 25)).alloc (.cells #[.string c0, .string c1, .string c2] 25)).heap.size (((w.alloc (.cells #[.string a0, .string a1, .string a2] 25)).alloc (.cells #[.string b0, .string b1, .string b2] 25)).alloc (.cells #[.string c0, .string c1, .string c2] 25)) wi) :
    wi.cell? ⟨w.heap.size, 0, none⟩ = some (.string a0) ∧ wi.cell? ⟨w.heap.size, 1, none⟩ = some (.string a1) ∧ wi.cell? ⟨w.heap.size, 2, none⟩ = some (.string a2) ∧
    wi.cell? ⟨w.heap.size + 1, 0, none⟩ = some (.string b0) ∧ wi.cell? ⟨w.heap.size + 1, 1, none⟩ = some (.string b1) ∧ wi.cell? ⟨w.heap.size + 1, 2, none⟩ = some (.string b2) ∧
    wi.cell? ⟨w.heap.size + 1 + 1, 0, none⟩ = some (.string c0) ∧ wi.cell? ⟨w.heap.size + 1 + 1, 1, none⟩ = some (.string c1) ∧ wi.cell? ⟨w.heap.size + 1 + 1, 2, none⟩ = some (.string c2) := by
  have h : ∀ b o, b < w.heap.size + 3 → wi.cell? ⟨b, o, none⟩ = (((w.alloc (.cells #[.string a0, .string a1, .string a2] 25)).alloc (.cells #[.string b0, .string b1, .string b2] 25)).alloc (.cells #[.string c0, .string c1, .string c2] 25)).cell? ⟨b, o, none⟩ := fun b o hlt => hB.cell (p := ⟨b, o, none⟩) (by simp; omega)
  refine ⟨?_, ?_, ?_, ?_, ?_, ?_, ?_, ?_, ?_⟩
  all_goals
    rw [h _ _ (by omega)]
    simp [go_sem]
theorem three_below {w W : World} {A B C : Obj} (h : Below (((w.alloc A).alloc B).alloc C).heap.size (((w.alloc A).alloc B).alloc C) W) : Below w.heap.size w W :=
  (below_two.alloc (by simp; omega) _).trans (h.mono (by simp; omega))

theorem below_next2 {w W W' : World} (h : Below w.heap.size w W) (hb : Below W.heap.size W W') : Below w.heap.size w W' := h.trans (hb.mono h.size)

theorem lit_order : cmpS (⟨#[97]⟩ : ByteArray).toList (⟨#[98]⟩ : ByteArray).toList (⟨#[]⟩ : ByteArray).toList (⟨#[97]⟩ : ByteArray).toList (⟨#[98, 97]⟩ : ByteArray).toList (⟨#[]⟩ : ByteArray).toList = -1 := by
  rw [show (⟨#[97]⟩ : ByteArray).toList = [97] from ByteArray.toList_mk _, show (⟨#[98]⟩ : ByteArray).toList = [98] from ByteArray.toList_mk _, show (⟨#[]⟩ : ByteArray).toList = [] from ByteArray.toList_mk _, show (⟨#[98, 97]⟩ : ByteArray).toList = [98, 97] from ByteArray.toList_mk _]
  decide +kernel
theorem lts {w W4 : World} {A B C : Obj} (h : Below (((w.alloc A).alloc B).alloc C).heap.size (((w.alloc A).alloc B).alloc C) W4) : w.heap.size < W4.heap.size ∧ w.heap.size + 1 < W4.heap.size ∧ w.heap.size < W4.heap.size + 1 ∧ w.heap.size + 1 < W4.heap.size + 1 := by
  have := h.size; simp at this; omega
theorem below_two_next {W W4 w5 : World} {X Y : Obj} (h : Below W.heap.size W W4) (hb : Below ((W4.alloc X).alloc Y).heap.size ((W4.alloc X).alloc Y) w5) : Below W.heap.size W w5 :=
  ((h.alloc h.size X).alloc (by have := h.size; simp; omega) Y).trans (hb.mono (by have := h.size; simp; omega))

set_option maxHeartbeats 1000000 in
theorem order_1i (a0 a1 a2 b0 b1 b2 c0 c1 c2 : ByteArray) (y z : Int) (w : World)
    (hx : Hid (cmpS a0.toList a1.toList a2.toList b0.toList b1.toList b2.toList = 1)) (hy : Hid (cmpS b0.toList b1.toList b2.toList c0.toList c1.toList c2.toList = y))
    (hz : Hid (cmpS a0.toList a1.toList a2.toList c0.toList c1.toList c2.toList = z)) (hv : Hid (cmpS b0.toList b1.toList b2.toList a0.toList a1.toList a2.toList = (-1)))
    (hq : Hid (cmpO a0.toList a1.toList b0.toList b1.toList = 1)) (hk : Hid (cmpS a0.toList a1.toList (⟨#[]⟩ : ByteArray).toList b0.toList b1.toList (⟨#[]⟩ : ByteArray).toList = 1))
    (e0 : ¬ a0.toList = b0.toList) :
    Calls Try.prog 8 #[.agg #[.string a0, .string a1, .string a2], .agg #[.string b0, .string b1, .string b2], .agg #[.string c0, .string c1, .string c2]] w fun e w' => e = .returned (.bool true) ∧ Below w.heap.size w w' := by
  go_enter Try.func8, Try.ntmps8
  go_wp2_with fail
  refine (cmpSub_at a0 a1 a2 b0 b1 b2 1 hx.out _).mono ?_
  rintro e w1 ⟨rfl, hb1⟩
  have k1 : Hid (Below (((w.alloc (.cells #[.string a0, .string a1, .string a2] 25)).alloc (.cells #[.string b0, .string b1, .string b2] 25)).alloc (.cells #[.string c0, .string c1, .string c2] 25)).heap.size (((w.alloc (.cells #[.string a0, .string a1, .string a2] 25)).alloc (.cells #[.string b0, .string b1, .string b2] 25)).alloc (.cells #[.string c0, .string c1, .string c2] 25)) w1) := hb1
  clear hb1
  obtain ⟨m0, m1, m2, m3, m4, m5, m6, m7, m8⟩ := nine a0 a1 a2 b0 b1 b2 c0 c1 c2 w w1 k1.out
  go_wp2_with fail
  refine (cmpSub_at b0 b1 b2 c0 c1 c2 y hy.out _).mono ?_
  rintro e w2 ⟨rfl, hb2⟩
  have k2 : Hid (Below (((w.alloc (.cells #[.string a0, .string a1, .string a2] 25)).alloc (.cells #[.string b0, .string b1, .string b2] 25)).alloc (.cells #[.string c0, .string c1, .string c2] 25)).heap.size (((w.alloc (.cells #[.string a0, .string a1, .string a2] 25)).alloc (.cells #[.string b0, .string b1, .string b2] 25)).alloc (.cells #[.string c0, .string c1, .string c2] 25)) w2) := below_next2 k1.out hb2
  clear hb2 k1 m0 m1 m2 m3 m4 m5 m6 m7 m8
  obtain ⟨m0, m1, m2, m3, m4, m5, m6, m7, m8⟩ := nine a0 a1 a2 b0 b1 b2 c0 c1 c2 w w2 k2.out
  go_wp2_with fail
  refine (cmpSub_at a0 a1 a2 c0 c1 c2 z hz.out _).mono ?_
  rintro e w3 ⟨rfl, hb3⟩
  have k3 : Hid (Below (((w.alloc (.cells #[.string a0, .string a1, .string a2] 25)).alloc (.cells #[.string b0, .string b1, .string b2] 25)).alloc (.cells #[.string c0, .string c1, .string c2] 25)).heap.size (((w.alloc (.cells #[.string a0, .string a1, .string a2] 25)).alloc (.cells #[.string b0, .string b1, .string b2] 25)).alloc (.cells #[.string c0, .string c1, .string c2] 25)) w3) := below_next2 k2.out hb3
  clear hb3 k2 m0 m1 m2 m3 m4 m5 m6 m7 m8
  obtain ⟨m0, m1, m2, m3, m4, m5, m6, m7, m8⟩ := nine a0 a1 a2 b0 b1 b2 c0 c1 c2 w w3 k3.out
  go_wp2_with fail
  refine (cmpSub_at b0 b1 b2 a0 a1 a2 (-1) hv.out _).mono ?_
  rintro e w4 ⟨rfl, hb4⟩
  have k4 : Hid (Below (((w.alloc (.cells #[.string a0, .string a1, .string a2] 25)).alloc (.cells #[.string b0, .string b1, .string b2] 25)).alloc (.cells #[.string c0, .string c1, .string c2] 25)).heap.size (((w.alloc (.cells #[.string a0, .string a1, .string a2] 25)).alloc (.cells #[.string b0, .string b1, .string b2] 25)).alloc (.cells #[.string c0, .string c1, .string c2] 25)) w4) := below_next2 k3.out hb4
  clear hb4 k3 m0 m1 m2 m3 m4 m5 m6 m7 m8
  obtain ⟨m0, m1, m2, m3, m4, m5, m6, m7, m8⟩ := nine a0 a1 a2 b0 b1 b2 c0 c1 c2 w w4 k4.out
  obtain ⟨l0, l1, l2, l3⟩ := lts k4.out
  go_wp2_with fail
  refine (cmpObj_at a0 a1 b0 b1 1 hq.out _).mono ?_
  rintro e w5 ⟨rfl, hb5⟩
  have k5 : Hid (Below (((w.alloc (.cells #[.string a0, .string a1, .string a2] 25)).alloc (.cells #[.string b0, .string b1, .string b2] 25)).alloc (.cells #[.string c0, .string c1, .string c2] 25)).heap.size (((w.alloc (.cells #[.string a0, .string a1, .string a2] 25)).alloc (.cells #[.string b0, .string b1, .string b2] 25)).alloc (.cells #[.string c0, .string c1, .string c2] 25)) w5) := below_two_next k4.out hb5
  clear hb5 k4 l0 l1 l2 l3 m0 m1 m2 m3 m4 m5 m6 m7 m8
  obtain ⟨m0, m1, m2, m3, m4, m5, m6, m7, m8⟩ := nine a0 a1 a2 b0 b1 b2 c0 c1 c2 w w5 k5.out
  go_wp2_with fail
  refine (cmpSub_at a0 a1 ⟨#[]⟩ b0 b1 ⟨#[]⟩ 1 hk.out _).mono ?_
  rintro e w6 ⟨rfl, hb6⟩
  have k6 : Hid (Below (((w.alloc (.cells #[.string a0, .string a1, .string a2] 25)).alloc (.cells #[.string b0, .string b1, .string b2] 25)).alloc (.cells #[.string c0, .string c1, .string c2] 25)).heap.size (((w.alloc (.cells #[.string a0, .string a1, .string a2] 25)).alloc (.cells #[.string b0, .string b1, .string b2] 25)).alloc (.cells #[.string c0, .string c1, .string c2] 25)) w6) := below_next2 k5.out hb6
  clear hb6 k5 m0 m1 m2 m3 m4 m5 m6 m7 m8
  obtain ⟨m0, m1, m2, m3, m4, m5, m6, m7, m8⟩ := nine a0 a1 a2 b0 b1 b2 c0 c1 c2 w w6 k6.out
  clear m0 m1 m2 m3 m4 m5 m6 m7 m8
  go_wp2_with fail
  refine (cmpSub_at ⟨#[97]⟩ ⟨#[98]⟩ ⟨#[]⟩ ⟨#[97]⟩ ⟨#[98, 97]⟩ ⟨#[]⟩ (-1) lit_order _).mono ?_
  rintro e w7 ⟨rfl, hb7⟩
  go_wp2
  go_ret
  exact ⟨rfl, three_below (below_next2 k6.out hb7)⟩

set_option maxHeartbeats 1000000 in
theorem order_2i (a0 a1 a2 b0 b1 b2 c0 c1 c2 : ByteArray) (y z : Int) (w : World)
    (hx : Hid (cmpS a0.toList a1.toList a2.toList b0.toList b1.toList b2.toList = (-1))) (hy : Hid (cmpS b0.toList b1.toList b2.toList c0.toList c1.toList c2.toList = y))
    (hz : Hid (cmpS a0.toList a1.toList a2.toList c0.toList c1.toList c2.toList = z)) (hv : Hid (cmpS b0.toList b1.toList b2.toList a0.toList a1.toList a2.toList = 1))
    (hq : Hid (cmpO a0.toList a1.toList b0.toList b1.toList = (-1))) (hk : Hid (cmpS a0.toList a1.toList (⟨#[]⟩ : ByteArray).toList b0.toList b1.toList (⟨#[]⟩ : ByteArray).toList = (-1)))
    (e0 : ¬ a0.toList = b0.toList) (y1 : ¬ y ≤ 0) :
    Calls Try.prog 8 #[.agg #[.string a0, .string a1, .string a2], .agg #[.string b0, .string b1, .string b2], .agg #[.string c0, .string c1, .string c2]] w fun e w' => e = .returned (.bool true) ∧ Below w.heap.size w w' := by
  go_enter Try.func8, Try.ntmps8
  go_wp2_with fail
  refine (cmpSub_at a0 a1 a2 b0 b1 b2 (-1) hx.out _).mono ?_
  rintro e w1 ⟨rfl, hb1⟩
  have k1 : Hid (Below (((w.alloc (.cells #[.string a0, .string a1, .string a2] 25)).alloc (.cells #[.string b0, .string b1, .string b2] 25)).alloc (.cells #[.string c0, .string c1, .string c2] 25)).heap.size (((w.alloc (.cells #[.string a0, .string a1, .string a2] 25)).alloc (.cells #[.string b0, .string b1, .string b2] 25)).alloc (.cells #[.string c0, .string c1, .string c2] 25)) w1) := hb1
  clear hb1
  obtain ⟨m0, m1, m2, m3, m4, m5, m6, m7, m8⟩ := nine a0 a1 a2 b0 b1 b2 c0 c1 c2 w w1 k1.out
  go_wp2_with fail
  refine (cmpSub_at b0 b1 b2 c0 c1 c2 y hy.out _).mono ?_
  rintro e w2 ⟨rfl, hb2⟩
  have k2 : Hid (Below (((w.alloc (.cells #[.string a0, .string a1, .string a2] 25)).alloc (.cells #[.string b0, .string b1, .string b2] 25)).alloc (.cells #[.string c0, .string c1, .string c2] 25)).heap.size (((w.alloc (.cells #[.string a0, .string a1, .string a2] 25)).alloc (.cells #[.string b0, .string b1, .string b2] 25)).alloc (.cells #[.string c0, .string c1, .string c2] 25)) w2) := below_next2 k1.out hb2
  clear hb2 k1 m0 m1 m2 m3 m4 m5 m6 m7 m8
  obtain ⟨m0, m1, m2, m3, m4, m5, m6, m7, m8⟩ := nine a0 a1 a2 b0 b1 b2 c0 c1 c2 w w2 k2.out
  go_wp2_with fail
  refine (cmpSub_at a0 a1 a2 c0 c1 c2 z hz.out _).mono ?_
  rintro e w3 ⟨rfl, hb3⟩
  have k3 : Hid (Below (((w.alloc (.cells #[.string a0, .string a1, .string a2] 25)).alloc (.cells #[.string b0, .string b1, .string b2] 25)).alloc (.cells #[.string c0, .string c1, .string c2] 25)).heap.size (((w.alloc (.cells #[.string a0, .string a1, .string a2] 25)).alloc (.cells #[.string b0, .string b1, .string b2] 25)).alloc (.cells #[.string c0, .string c1, .string c2] 25)) w3) := below_next2 k2.out hb3
  clear hb3 k2 m0 m1 m2 m3 m4 m5 m6 m7 m8
  obtain ⟨m0, m1, m2, m3, m4, m5, m6, m7, m8⟩ := nine a0 a1 a2 b0 b1 b2 c0 c1 c2 w w3 k3.out
  go_wp2_with fail
  refine (cmpSub_at b0 b1 b2 a0 a1 a2 1 hv.out _).mono ?_
  rintro e w4 ⟨rfl, hb4⟩
  have k4 : Hid (Below (((w.alloc (.cells #[.string a0, .string a1, .string a2] 25)).alloc (.cells #[.string b0, .string b1, .string b2] 25)).alloc (.cells #[.string c0, .string c1, .string c2] 25)).heap.size (((w.alloc (.cells #[.string a0, .string a1, .string a2] 25)).alloc (.cells #[.string b0, .string b1, .string b2] 25)).alloc (.cells #[.string c0, .string c1, .string c2] 25)) w4) := below_next2 k3.out hb4
  clear hb4 k3 m0 m1 m2 m3 m4 m5 m6 m7 m8
  obtain ⟨m0, m1, m2, m3, m4, m5, m6, m7, m8⟩ := nine a0 a1 a2 b0 b1 b2 c0 c1 c2 w w4 k4.out
  obtain ⟨l0, l1, l2, l3⟩ := lts k4.out
  go_wp2_with fail
  refine (cmpObj_at a0 a1 b0 b1 (-1) hq.out _).mono ?_
  rintro e w5 ⟨rfl, hb5⟩
  have k5 : Hid (Below (((w.alloc (.cells #[.string a0, .string a1, .string a2] 25)).alloc (.cells #[.string b0, .string b1, .string b2] 25)).alloc (.cells #[.string c0, .string c1, .string c2] 25)).heap.size (((w.alloc (.cells #[.string a0, .string a1, .string a2] 25)).alloc (.cells #[.string b0, .string b1, .string b2] 25)).alloc (.cells #[.string c0, .string c1, .string c2] 25)) w5) := below_two_next k4.out hb5
  clear hb5 k4 l0 l1 l2 l3 m0 m1 m2 m3 m4 m5 m6 m7 m8
  obtain ⟨m0, m1, m2, m3, m4, m5, m6, m7, m8⟩ := nine a0 a1 a2 b0 b1 b2 c0 c1 c2 w w5 k5.out
  go_wp2_with fail
  refine (cmpSub_at a0 a1 ⟨#[]⟩ b0 b1 ⟨#[]⟩ (-1) hk.out _).mono ?_
  rintro e w6 ⟨rfl, hb6⟩
  have k6 : Hid (Below (((w.alloc (.cells #[.string a0, .string a1, .string a2] 25)).alloc (.cells #[.string b0, .string b1, .string b2] 25)).alloc (.cells #[.string c0, .string c1, .string c2] 25)).heap.size (((w.alloc (.cells #[.string a0, .string a1, .string a2] 25)).alloc (.cells #[.string b0, .string b1, .string b2] 25)).alloc (.cells #[.string c0, .string c1, .string c2] 25)) w6) := below_next2 k5.out hb6
  clear hb6 k5 m0 m1 m2 m3 m4 m5 m6 m7 m8
  obtain ⟨m0, m1, m2, m3, m4, m5, m6, m7, m8⟩ := nine a0 a1 a2 b0 b1 b2 c0 c1 c2 w w6 k6.out
  clear m0 m1 m2 m3 m4 m5 m6 m7 m8
  go_wp2_with fail
  refine (cmpSub_at ⟨#[97]⟩ ⟨#[98]⟩ ⟨#[]⟩ ⟨#[97]⟩ ⟨#[98, 97]⟩ ⟨#[]⟩ (-1) lit_order _).mono ?_
  rintro e w7 ⟨rfl, hb7⟩
  go_wp2
  go_ret
  exact ⟨rfl, three_below (below_next2 k6.out hb7)⟩

set_option maxHeartbeats 1000000 in
theorem order_3i (a0 a1 a2 b0 b1 b2 c0 c1 c2 : ByteArray) (y z : Int) (w : World)
    (hx : Hid (cmpS a0.toList a1.toList a2.toList b0.toList b1.toList b2.toList = (-1))) (hy : Hid (cmpS b0.toList b1.toList b2.toList c0.toList c1.toList c2.toList = y))
    (hz : Hid (cmpS a0.toList a1.toList a2.toList c0.toList c1.toList c2.toList = z)) (hv : Hid (cmpS b0.toList b1.toList b2.toList a0.toList a1.toList a2.toList = 1))
    (hq : Hid (cmpO a0.toList a1.toList b0.toList b1.toList = (-1))) (hk : Hid (cmpS a0.toList a1.toList (⟨#[]⟩ : ByteArray).toList b0.toList b1.toList (⟨#[]⟩ : ByteArray).toList = (-1)))
    (e0 : ¬ a0.toList = b0.toList) (y1 : y ≤ 0) (z1 : z < 0) :
    Calls Try.prog 8 #[.agg #[.string a0, .string a1, .string a2], .agg #[.string b0, .string b1, .string b2], .agg #[.string c0, .string c1, .string c2]] w fun e w' => e = .returned (.bool true) ∧ Below w.heap.size w w' := by
  go_enter Try.func8, Try.ntmps8
  go_wp2_with fail
  refine (cmpSub_at a0 a1 a2 b0 b1 b2 (-1) hx.out _).mono ?_
  rintro e w1 ⟨rfl, hb1⟩
  have k1 : Hid (Below (((w.alloc (.cells #[.string a0, .string a1, .string a2] 25)).alloc (.cells #[.string b0, .string b1, .string b2] 25)).alloc (.cells #[.string c0, .string c1, .string c2] 25)).heap.size (((w.alloc (.cells #[.string a0, .string a1, .string a2] 25)).alloc (.cells #[.string b0, .string b1, .string b2] 25)).alloc (.cells #[.string c0, .string c1, .string c2] 25)) w1) := hb1
  clear hb1
  obtain ⟨m0, m1, m2, m3, m4, m5, m6, m7, m8⟩ := nine a0 a1 a2 b0 b1 b2 c0 c1 c2 w w1 k1.out
  go_wp2_with fail
  refine (cmpSub_at b0 b1 b2 c0 c1 c2 y hy.out _).mono ?_
  rintro e w2 ⟨rfl, hb2⟩
  have k2 : Hid (Below (((w.alloc (.cells #[.string a0, .string a1, .string a2] 25)).alloc (.cells #[.string b0, .string b1, .string b2] 25)).alloc (.cells #[.string c0, .string c1, .string c2] 25)).heap.size (((w.alloc (.cells #[.string a0, .string a1, .string a2] 25)).alloc (.cells #[.string b0, .string b1, .string b2] 25)).alloc (.cells #[.string c0, .string c1, .string c2] 25)) w2) := below_next2 k1.out hb2
  clear hb2 k1 m0 m1 m2 m3 m4 m5 m6 m7 m8
  obtain ⟨m0, m1, m2, m3, m4, m5, m6, m7, m8⟩ := nine a0 a1 a2 b0 b1 b2 c0 c1 c2 w w2 k2.out
  go_wp2_with fail
  refine (cmpSub_at a0 a1 a2 c0 c1 c2 z hz.out _).mono ?_
  rintro e w3 ⟨rfl, hb3⟩
  have k3 : Hid (Below (((w.alloc (.cells #[.string a0, .string a1, .string a2] 25)).alloc (.cells #[.string b0, .string b1, .string b2] 25)).alloc (.cells #[.string c0, .string c1, .string c2] 25)).heap.size (((w.alloc (.cells #[.string a0, .string a1, .string a2] 25)).alloc (.cells #[.string b0, .string b1, .string b2] 25)).alloc (.cells #[.string c0, .string c1, .string c2] 25)) w3) := below_next2 k2.out hb3
  clear hb3 k2 m0 m1 m2 m3 m4 m5 m6 m7 m8
  obtain ⟨m0, m1, m2, m3, m4, m5, m6, m7, m8⟩ := nine a0 a1 a2 b0 b1 b2 c0 c1 c2 w w3 k3.out
  go_wp2_with fail
  refine (cmpSub_at b0 b1 b2 a0 a1 a2 1 hv.out _).mono ?_
  rintro e w4 ⟨rfl, hb4⟩
  have k4 : Hid (Below (((w.alloc (.cells #[.string a0, .string a1, .string a2] 25)).alloc (.cells #[.string b0, .string b1, .string b2] 25)).alloc (.cells #[.string c0, .string c1, .string c2] 25)).heap.size (((w.alloc (.cells #[.string a0, .string a1, .string a2] 25)).alloc (.cells #[.string b0, .string b1, .string b2] 25)).alloc (.cells #[.string c0, .string c1, .string c2] 25)) w4) := below_next2 k3.out hb4
  clear hb4 k3 m0 m1 m2 m3 m4 m5 m6 m7 m8
  obtain ⟨m0, m1, m2, m3, m4, m5, m6, m7, m8⟩ := nine a0 a1 a2 b0 b1 b2 c0 c1 c2 w w4 k4.out
  obtain ⟨l0, l1, l2, l3⟩ := lts k4.out
  go_wp2_with fail
  refine (cmpObj_at a0 a1 b0 b1 (-1) hq.out _).mono ?_
  rintro e w5 ⟨rfl, hb5⟩
  have k5 : Hid (Below (((w.alloc (.cells #[.string a0, .string a1, .string a2] 25)).alloc (.cells #[.string b0, .string b1, .string b2] 25)).alloc (.cells #[.string c0, .string c1, .string c2] 25)).heap.size (((w.alloc (.cells #[.string a0, .string a1, .string a2] 25)).alloc (.cells #[.string b0, .string b1, .string b2] 25)).alloc (.cells #[.string c0, .string c1, .string c2] 25)) w5) := below_two_next k4.out hb5
  clear hb5 k4 l0 l1 l2 l3 m0 m1 m2 m3 m4 m5 m6 m7 m8
  obtain ⟨m0, m1, m2, m3, m4, m5, m6, m7, m8⟩ := nine a0 a1 a2 b0 b1 b2 c0 c1 c2 w w5 k5.out
  go_wp2_with fail
  refine (cmpSub_at a0 a1 ⟨#[]⟩ b0 b1 ⟨#[]⟩ (-1) hk.out _).mono ?_
  rintro e w6 ⟨rfl, hb6⟩
  have k6 : Hid (Below (((w.alloc (.cells #[.string a0, .string a1, .string a2] 25)).alloc (.cells #[.string b0, .string b1, .string b2] 25)).alloc (.cells #[.string c0, .string c1, .string c2] 25)).heap.size (((w.alloc (.cells #[.string a0, .string a1, .string a2] 25)).alloc (.cells #[.string b0, .string b1, .string b2] 25)).alloc (.cells #[.string c0, .string c1, .string c2] 25)) w6) := below_next2 k5.out hb6
  clear hb6 k5 m0 m1 m2 m3 m4 m5 m6 m7 m8
  obtain ⟨m0, m1, m2, m3, m4, m5, m6, m7, m8⟩ := nine a0 a1 a2 b0 b1 b2 c0 c1 c2 w w6 k6.out
  clear m0 m1 m2 m3 m4 m5 m6 m7 m8
  go_wp2_with fail
  refine (cmpSub_at ⟨#[97]⟩ ⟨#[98]⟩ ⟨#[]⟩ ⟨#[97]⟩ ⟨#[98, 97]⟩ ⟨#[]⟩ (-1) lit_order _).mono ?_
  rintro e w7 ⟨rfl, hb7⟩
  go_wp2
  go_ret
  exact ⟨rfl, three_below (below_next2 k6.out hb7)⟩

set_option maxHeartbeats 1000000 in
theorem order_1j (a0 a1 a2 b1 b2 c0 c1 c2 : ByteArray) (y z : Int) (w : World)
    (hx : Hid (cmpS a0.toList a1.toList a2.toList a0.toList b1.toList b2.toList = 1)) (hy : Hid (cmpS a0.toList b1.toList b2.toList c0.toList c1.toList c2.toList = y))
    (hz : Hid (cmpS a0.toList a1.toList a2.toList c0.toList c1.toList c2.toList = z)) (hv : Hid (cmpS a0.toList b1.toList b2.toList a0.toList a1.toList a2.toList = (-1)))
    (hq : Hid (cmpO a0.toList a1.toList a0.toList b1.toList = 1)) (hk : Hid (cmpS a0.toList a1.toList (⟨#[]⟩ : ByteArray).toList a0.toList b1.toList (⟨#[]⟩ : ByteArray).toList = 1))
    (e1 : ¬ a1.toList = b1.toList) :
    Calls Try.prog 8 #[.agg #[.string a0, .string a1, .string a2], .agg #[.string a0, .string b1, .string b2], .agg #[.string c0, .string c1, .string c2]] w fun e w' => e = .returned (.bool true) ∧ Below w.heap.size w w' := by
  go_enter Try.func8, Try.ntmps8
  go_wp2_with fail
  refine (cmpSub_at a0 a1 a2 a0 b1 b2 1 hx.out _).mono ?_
  rintro e w1 ⟨rfl, hb1⟩
  have k1 : Hid (Below (((w.alloc (.cells #[.string a0, .string a1, .string a2] 25)).alloc (.cells #[.string a0, .string b1, .string b2] 25)).alloc (.cells #[.string c0, .string c1, .string c2] 25)).heap.size (((w.alloc (.cells #[.string a0, .string a1, .string a2] 25)).alloc (.cells #[.string a0, .string b1, .string b2] 25)).alloc (.cells #[.string c0, .string c1, .string c2] 25)) w1) := hb1
  clear hb1
  obtain ⟨m0, m1, m2, m3, m4, m5, m6, m7, m8⟩ := nine a0 a1 a2 a0 b1 b2 c0 c1 c2 w w1 k1.out
  go_wp2_with fail
  refine (cmpSub_at a0 b1 b2 c0 c1 c2 y hy.out _).mono ?_
  rintro e w2 ⟨rfl, hb2⟩
  have k2 : Hid (Below (((w.alloc (.cells #[.string a0, .string a1, .string a2] 25)).alloc (.cells #[.string a0, .string b1, .string b2] 25)).alloc (.cells #[.string c0, .string c1, .string c2] 25)).heap.size (((w.alloc (.cells #[.string a0, .string a1, .string a2] 25)).alloc (.cells #[.string a0, .string b1, .string b2] 25)).alloc (.cells #[.string c0, .string c1, .string c2] 25)) w2) := below_next2 k1.out hb2
  clear hb2 k1 m0 m1 m2 m3 m4 m5 m6 m7 m8
  obtain ⟨m0, m1, m2, m3, m4, m5, m6, m7, m8⟩ := nine a0 a1 a2 a0 b1 b2 c0 c1 c2 w w2 k2.out
  go_wp2_with fail
  refine (cmpSub_at a0 a1 a2 c0 c1 c2 z hz.out _).mono ?_
  rintro e w3 ⟨rfl, hb3⟩
  have k3 : Hid (Below (((w.alloc (.cells #[.string a0, .string a1, .string a2] 25)).alloc (.cells #[.string a0, .string b1, .string b2] 25)).alloc (.cells #[.string c0, .string c1, .string c2] 25)).heap.size (((w.alloc (.cells #[.string a0, .string a1, .string a2] 25)).alloc (.cells #[.string a0, .string b1, .string b2] 25)).alloc (.cells #[.string c0, .string c1, .string c2] 25)) w3) := below_next2 k2.out hb3
  clear hb3 k2 m0 m1 m2 m3 m4 m5 m6 m7 m8
  obtain ⟨m0, m1, m2, m3, m4, m5, m6, m7, m8⟩ := nine a0 a1 a2 a0 b1 b2 c0 c1 c2 w w3 k3.out
  go_wp2_with fail
  refine (cmpSub_at a0 b1 b2 a0 a1 a2 (-1) hv.out _).mono ?_
  rintro e w4 ⟨rfl, hb4⟩
  have k4 : Hid (Below (((w.alloc (.cells #[.string a0, .string a1, .string a2] 25)).alloc (.cells #[.string a0, .string b1, .string b2] 25)).alloc (.cells #[.string c0, .string c1, .string c2] 25)).heap.size (((w.alloc (.cells #[.string a0, .string a1, .string a2] 25)).alloc (.cells #[.string a0, .string b1, .string b2] 25)).alloc (.cells #[.string c0, .string c1, .string c2] 25)) w4) := below_next2 k3.out hb4
  clear hb4 k3 m0 m1 m2 m3 m4 m5 m6 m7 m8
  obtain ⟨m0, m1, m2, m3, m4, m5, m6, m7, m8⟩ := nine a0 a1 a2 a0 b1 b2 c0 c1 c2 w w4 k4.out
  obtain ⟨l0, l1, l2, l3⟩ := lts k4.out
  go_wp2_with fail
  refine (cmpObj_at a0 a1 a0 b1 1 hq.out _).mono ?_
  rintro e w5 ⟨rfl, hb5⟩
  have k5 : Hid (Below (((w.alloc (.cells #[.string a0, .string a1, .string a2] 25)).alloc (.cells #[.string a0, .string b1, .string b2] 25)).alloc (.cells #[.string c0, .string c1, .string c2] 25)).heap.size (((w.alloc (.cells #[.string a0, .string a1, .string a2] 25)).alloc (.cells #[.string a0, .string b1, .string b2] 25)).alloc (.cells #[.string c0, .string c1, .string c2] 25)) w5) := below_two_next k4.out hb5
  clear hb5 k4 l0 l1 l2 l3 m0 m1 m2 m3 m4 m5 m6 m7 m8
  obtain ⟨m0, m1, m2, m3, m4, m5, m6, m7, m8⟩ := nine a0 a1 a2 a0 b1 b2 c0 c1 c2 w w5 k5.out
  go_wp2_with fail
  refine (cmpSub_at a0 a1 ⟨#[]⟩ a0 b1 ⟨#[]⟩ 1 hk.out _).mono ?_
  rintro e w6 ⟨rfl, hb6⟩
  have k6 : Hid (Below (((w.alloc (.cells #[.string a0, .string a1, .string a2] 25)).alloc (.cells #[.string a0, .string b1, .string b2] 25)).alloc (.cells #[.string c0, .string c1, .string c2] 25)).heap.size (((w.alloc (.cells #[.string a0, .string a1, .string a2] 25)).alloc (.cells #[.string a0, .string b1, .string b2] 25)).alloc (.cells #[.string c0, .string c1, .string c2] 25)) w6) := below_next2 k5.out hb6
  clear hb6 k5 m0 m1 m2 m3 m4 m5 m6 m7 m8
  obtain ⟨m0, m1, m2, m3, m4, m5, m6, m7, m8⟩ := nine a0 a1 a2 a0 b1 b2 c0 c1 c2 w w6 k6.out
  clear m0 m1 m2 m3 m4 m5 m6 m7 m8
  go_wp2_with fail
  refine (cmpSub_at ⟨#[97]⟩ ⟨#[98]⟩ ⟨#[]⟩ ⟨#[97]⟩ ⟨#[98, 97]⟩ ⟨#[]⟩ (-1) lit_order _).mono ?_
  rintro e w7 ⟨rfl, hb7⟩
  go_wp2
  go_ret
  exact ⟨rfl, three_below (below_next2 k6.out hb7)⟩

set_option maxHeartbeats 1000000 in
theorem order_2j (a0 a1 a2 b1 b2 c0 c1 c2 : ByteArray) (y z : Int) (w : World)
    (hx : Hid (cmpS a0.toList a1.toList a2.toList a0.toList b1.toList b2.toList = (-1))) (hy : Hid (cmpS a0.toList b1.toList b2.toList c0.toList c1.toList c2.toList = y))
    (hz : Hid (cmpS a0.toList a1.toList a2.toList c0.toList c1.toList c2.toList = z)) (hv : Hid (cmpS a0.toList b1.toList b2.toList a0.toList a1.toList a2.toList = 1))
    (hq : Hid (cmpO a0.toList a1.toList a0.toList b1.toList = (-1))) (hk : Hid (cmpS a0.toList a1.toList (⟨#[]⟩ : ByteArray).toList a0.toList b1.toList (⟨#[]⟩ : ByteArray).toList = (-1)))
    (e1 : ¬ a1.toList = b1.toList) (y1 : ¬ y ≤ 0) :
    Calls Try.prog 8 #[.agg #[.string a0, .string a1, .string a2], .agg #[.string a0, .string b1, .string b2], .agg #[.string c0, .string c1, .string c2]] w fun e w' => e = .returned (.bool true) ∧ Below w.heap.size w w' := by
  go_enter Try.func8, Try.ntmps8
  go_wp2_with fail
  refine (cmpSub_at a0 a1 a2 a0 b1 b2 (-1) hx.out _).mono ?_
  rintro e w1 ⟨rfl, hb1⟩
  have k1 : Hid (Below (((w.alloc (.cells #[.string a0, .string a1, .string a2] 25)).alloc (.cells #[.string a0, .string b1, .string b2] 25)).alloc (.cells #[.string c0, .string c1, .string c2] 25)).heap.size (((w.alloc (.cells #[.string a0, .string a1, .string a2] 25)).alloc (.cells #[.string a0, .string b1, .string b2] 25)).alloc (.cells #[.string c0, .string c1, .string c2] 25)) w1) := hb1
  clear hb1
  obtain ⟨m0, m1, m2, m3, m4, m5, m6, m7, m8⟩ := nine a0 a1 a2 a0 b1 b2 c0 c1 c2 w w1 k1.out
  go_wp2_with fail
  refine (cmpSub_at a0 b1 b2 c0 c1 c2 y hy.out _).mono ?_
  rintro e w2 ⟨rfl, hb2⟩
  have k2 : Hid (Below (((w.alloc (.cells #[.string a0, .string a1, .string a2] 25)).alloc (.cells #[.string a0, .string b1, .string b2] 25)).alloc (.cells #[.string c0, .string c1, .string c2] 25)).heap.size (((w.alloc (.cells #[.string a0, .string a1, .string a2] 25)).alloc (.cells #[.string a0, .string b1, .string b2] 25)).alloc (.cells #[.string c0, .string c1, .string c2] 25)) w2) := below_next2 k1.out hb2
  clear hb2 k1 m0 m1 m2 m3 m4 m5 m6 m7 m8
  obtain ⟨m0, m1, m2, m3, m4, m5, m6, m7, m8⟩ := nine a0 a1 a2 a0 b1 b2 c0 c1 c2 w w2 k2.out
  go_wp2_with fail
  refine (cmpSub_at a0 a1 a2 c0 c1 c2 z hz.out _).mono ?_
  rintro e w3 ⟨rfl, hb3⟩
  have k3 : Hid (Below (((w.alloc (.cells #[.string a0, .string a1, .string a2] 25)).alloc (.cells #[.string a0, .string b1, .string b2] 25)).alloc (.cells #[.string c0, .string c1, .string c2] 25)).heap.size (((w.alloc (.cells #[.string a0, .string a1, .string a2] 25)).alloc (.cells #[.string a0, .string b1, .string b2] 25)).alloc (.cells #[.string c0, .string c1, .string c2] 25)) w3) := below_next2 k2.out hb3
  clear hb3 k2 m0 m1 m2 m3 m4 m5 m6 m7 m8
  obtain ⟨m0, m1, m2, m3, m4, m5, m6, m7, m8⟩ := nine a0 a1 a2 a0 b1 b2 c0 c1 c2 w w3 k3.out
  go_wp2_with fail
  refine (cmpSub_at a0 b1 b2 a0 a1 a2 1 hv.out _).mono ?_
  rintro e w4 ⟨rfl, hb4⟩
  have k4 : Hid (Below (((w.alloc (.cells #[.string a0, .string a1, .string a2] 25)).alloc (.cells #[.string a0, .string b1, .string b2] 25)).alloc (.cells #[.string c0, .string c1, .string c2] 25)).heap.size (((w.alloc (.cells #[.string a0, .string a1, .string a2] 25)).alloc (.cells #[.string a0, .string b1, .string b2] 25)).alloc (.cells #[.string c0, .string c1, .string c2] 25)) w4) := below_next2 k3.out hb4
  clear hb4 k3 m0 m1 m2 m3 m4 m5 m6 m7 m8
  obtain ⟨m0, m1, m2, m3, m4, m5, m6, m7, m8⟩ := nine a0 a1 a2 a0 b1 b2 c0 c1 c2 w w4 k4.out
  obtain ⟨l0, l1, l2, l3⟩ := lts k4.out
  go_wp2_with fail
  refine (cmpObj_at a0 a1 a0 b1 (-1) hq.out _).mono ?_
  rintro e w5 ⟨rfl, hb5⟩
  have k5 : Hid (Below (((w.alloc (.cells #[.string a0, .string a1, .string a2] 25)).alloc (.cells #[.string a0, .string b1, .string b2] 25)).alloc (.cells #[.string c0, .string c1, .string c2] 25)).heap.size (((w.alloc (.cells #[.string a0, .string a1, .string a2] 25)).alloc (.cells #[.string a0, .string b1, .string b2] 25)).alloc (.cells #[.string c0, .string c1, .string c2] 25)) w5) := below_two_next k4.out hb5
  clear hb5 k4 l0 l1 l2 l3 m0 m1 m2 m3 m4 m5 m6 m7 m8
  obtain ⟨m0, m1, m2, m3, m4, m5, m6, m7, m8⟩ := nine a0 a1 a2 a0 b1 b2 c0 c1 c2 w w5 k5.out
  go_wp2_with fail
  refine (cmpSub_at a0 a1 ⟨#[]⟩ a0 b1 ⟨#[]⟩ (-1) hk.out _).mono ?_
  rintro e w6 ⟨rfl, hb6⟩
  have k6 : Hid (Below (((w.alloc (.cells #[.string a0, .string a1, .string a2] 25)).alloc (.cells #[.string a0, .string b1, .string b2] 25)).alloc (.cells #[.string c0, .string c1, .string c2] 25)).heap.size (((w.alloc (.cells #[.string a0, .string a1, .string a2] 25)).alloc (.cells #[.string a0, .string b1, .string b2] 25)).alloc (.cells #[.string c0, .string c1, .string c2] 25)) w6) := below_next2 k5.out hb6
  clear hb6 k5 m0 m1 m2 m3 m4 m5 m6 m7 m8
  obtain ⟨m0, m1, m2, m3, m4, m5, m6, m7, m8⟩ := nine a0 a1 a2 a0 b1 b2 c0 c1 c2 w w6 k6.out
  clear m0 m1 m2 m3 m4 m5 m6 m7 m8
  go_wp2_with fail
  refine (cmpSub_at ⟨#[97]⟩ ⟨#[98]⟩ ⟨#[]⟩ ⟨#[97]⟩ ⟨#[98, 97]⟩ ⟨#[]⟩ (-1) lit_order _).mono ?_
  rintro e w7 ⟨rfl, hb7⟩
  go_wp2
  go_ret
  exact ⟨rfl, three_below (below_next2 k6.out hb7)⟩

set_option maxHeartbeats 1000000 in
theorem order_3j (a0 a1 a2 b1 b2 c0 c1 c2 : ByteArray) (y z : Int) (w : World)
    (hx : Hid (cmpS a0.toList a1.toList a2.toList a0.toList b1.toList b2.toList = (-1))) (hy : Hid (cmpS a0.toList b1.toList b2.toList c0.toList c1.toList c2.toList = y))
    (hz : Hid (cmpS a0.toList a1.toList a2.toList c0.toList c1.toList c2.toList = z)) (hv : Hid (cmpS a0.toList b1.toList b2.toList a0.toList a1.toList a2.toList = 1))
    (hq : Hid (cmpO a0.toList a1.toList a0.toList b1.toList = (-1))) (hk : Hid (cmpS a0.toList a1.toList (⟨#[]⟩ : ByteArray).toList a0.toList b1.toList (⟨#[]⟩ : ByteArray).toList = (-1)))
    (e1 : ¬ a1.toList = b1.toList) (y1 : y ≤ 0) (z1 : z < 0) :
    Calls Try.prog 8 #[.agg #[.string a0, .string a1, .string a2], .agg #[.string a0, .string b1, .string b2], .agg #[.string c0, .string c1, .string c2]] w fun e w' => e = .returned (.bool true) ∧ Below w.heap.size w w' := by
  go_enter Try.func8, Try.ntmps8
  go_wp2_with fail
  refine (cmpSub_at a0 a1 a2 a0 b1 b2 (-1) hx.out _).mono ?_
  rintro e w1 ⟨rfl, hb1⟩
  have k1 : Hid (Below (((w.alloc (.cells #[.string a0, .string a1, .string a2] 25)).alloc (.cells #[.string a0, .string b1, .string b2] 25)).alloc (.cells #[.string c0, .string c1, .string c2] 25)).heap.size (((w.alloc (.cells #[.string a0, .string a1, .string a2] 25)).alloc (.cells #[.string a0, .string b1, .string b2] 25)).alloc (.cells #[.string c0, .string c1, .string c2] 25)) w1) := hb1
  clear hb1
  obtain ⟨m0, m1, m2, m3, m4, m5, m6, m7, m8⟩ := nine a0 a1 a2 a0 b1 b2 c0 c1 c2 w w1 k1.out
  go_wp2_with fail
  refine (cmpSub_at a0 b1 b2 c0 c1 c2 y hy.out _).mono ?_
  rintro e w2 ⟨rfl, hb2⟩
  have k2 : Hid (Below (((w.alloc (.cells #[.string a0, .string a1, .string a2] 25)).alloc (.cells #[.string a0, .string b1, .string b2] 25)).alloc (.cells #[.string c0, .string c1, .string c2] 25)).heap.size (((w.alloc (.cells #[.string a0, .string a1, .string a2] 25)).alloc (.cells #[.string a0, .string b1, .string b2] 25)).alloc (.cells #[.string c0, .string c1, .string c2] 25)) w2) := below_next2 k1.out hb2
  clear hb2 k1 m0 m1 m2 m3 m4 m5 m6 m7 m8
  obtain ⟨m0, m1, m2, m3, m4, m5, m6, m7, m8⟩ := nine a0 a1 a2 a0 b1 b2 c0 c1 c2 w w2 k2.out
  go_wp2_with fail
  refine (cmpSub_at a0 a1 a2 c0 c1 c2 z hz.out _).mono ?_
  rintro e w3 ⟨rfl, hb3⟩
  have k3 : Hid (Below (((w.alloc (.cells #[.string a0, .string a1, .string a2] 25)).alloc (.cells #[.string a0, .string b1, .string b2] 25)).alloc (.cells #[.string c0, .string c1, .string c2] 25)).heap.size (((w.alloc (.cells #[.string a0, .string a1, .string a2] 25)).alloc (.cells #[.string a0, .string b1, .string b2] 25)).alloc (.cells #[.string c0, .string c1, .string c2] 25)) w3) := below_next2 k2.out hb3
  clear hb3 k2 m0 m1 m2 m3 m4 m5 m6 m7 m8
  obtain ⟨m0, m1, m2, m3, m4, m5, m6, m7, m8⟩ := nine a0 a1 a2 a0 b1 b2 c0 c1 c2 w w3 k3.out
  go_wp2_with fail
  refine (cmpSub_at a0 b1 b2 a0 a1 a2 1 hv.out _).mono ?_
  rintro e w4 ⟨rfl, hb4⟩
  have k4 : Hid (Below (((w.alloc (.cells #[.string a0, .string a1, .string a2] 25)).alloc (.cells #[.string a0, .string b1, .string b2] 25)).alloc (.cells #[.string c0, .string c1, .string c2] 25)).heap.size (((w.alloc (.cells #[.string a0, .string a1, .string a2] 25)).alloc (.cells #[.string a0, .string b1, .string b2] 25)).alloc (.cells #[.string c0, .string c1, .string c2] 25)) w4) := below_next2 k3.out hb4
  clear hb4 k3 m0 m1 m2 m3 m4 m5 m6 m7 m8
  obtain ⟨m0, m1, m2, m3, m4, m5, m6, m7, m8⟩ := nine a0 a1 a2 a0 b1 b2 c0 c1 c2 w w4 k4.out
  obtain ⟨l0, l1, l2, l3⟩ := lts k4.out
  go_wp2_with fail
  refine (cmpObj_at a0 a1 a0 b1 (-1) hq.out _).mono ?_
  rintro e w5 ⟨rfl, hb5⟩
  have k5 : Hid (Below (((w.alloc (.cells #[.string a0, .string a1, .string a2] 25)).alloc (.cells #[.string a0, .string b1, .string b2] 25)).alloc (.cells #[.string c0, .string c1, .string c2] 25)).heap.size (((w.alloc (.cells #[.string a0, .string a1, .string a2] 25)).alloc (.cells #[.string a0, .string b1, .string b2] 25)).alloc (.cells #[.string c0, .string c1, .string c2] 25)) w5) := below_two_next k4.out hb5
  clear hb5 k4 l0 l1 l2 l3 m0 m1 m2 m3 m4 m5 m6 m7 m8
  obtain ⟨m0, m1, m2, m3, m4, m5, m6, m7, m8⟩ := nine a0 a1 a2 a0 b1 b2 c0 c1 c2 w w5 k5.out
  go_wp2_with fail
  refine (cmpSub_at a0 a1 ⟨#[]⟩ a0 b1 ⟨#[]⟩ (-1) hk.out _).mono ?_
  rintro e w6 ⟨rfl, hb6⟩
  have k6 : Hid (Below (((w.alloc (.cells #[.string a0, .string a1, .string a2] 25)).alloc (.cells #[.string a0, .string b1, .string b2] 25)).alloc (.cells #[.string c0, .string c1, .string c2] 25)).heap.size (((w.alloc (.cells #[.string a0, .string a1, .string a2] 25)).alloc (.cells #[.string a0, .string b1, .string b2] 25)).alloc (.cells #[.string c0, .string c1, .string c2] 25)) w6) := below_next2 k5.out hb6
  clear hb6 k5 m0 m1 m2 m3 m4 m5 m6 m7 m8
  obtain ⟨m0, m1, m2, m3, m4, m5, m6, m7, m8⟩ := nine a0 a1 a2 a0 b1 b2 c0 c1 c2 w w6 k6.out
  clear m0 m1 m2 m3 m4 m5 m6 m7 m8
  go_wp2_with fail
  refine (cmpSub_at ⟨#[97]⟩ ⟨#[98]⟩ ⟨#[]⟩ ⟨#[97]⟩ ⟨#[98, 97]⟩ ⟨#[]⟩ (-1) lit_order _).mono ?_
  rintro e w7 ⟨rfl, hb7⟩
  go_wp2
  go_ret
  exact ⟨rfl, three_below (below_next2 k6.out hb7)⟩

set_option maxHeartbeats 1000000 in
theorem order_1k (a0 a1 a2 b2 c0 c1 c2 : ByteArray) (y z : Int) (w : World)
    (hx : Hid (cmpS a0.toList a1.toList a2.toList a0.toList a1.toList b2.toList = 1)) (hy : Hid (cmpS a0.toList a1.toList b2.toList c0.toList c1.toList c2.toList = y))
    (hz : Hid (cmpS a0.toList a1.toList a2.toList c0.toList c1.toList c2.toList = z)) (hv : Hid (cmpS a0.toList a1.toList b2.toList a0.toList a1.toList a2.toList = (-1)))
    (hq : Hid (cmpO a0.toList a1.toList a0.toList a1.toList = 0)) (hk : Hid (cmpS a0.toList a1.toList (⟨#[]⟩ : ByteArray).toList a0.toList a1.toList (⟨#[]⟩ : ByteArray).toList = 0))
    (e2 : ¬ a2.toList = b2.toList) :
    Calls Try.prog 8 #[.agg #[.string a0, .string a1, .string a2], .agg #[.string a0, .string a1, .string b2], .agg #[.string c0, .string c1, .string c2]] w fun e w' => e = .returned (.bool true) ∧ Below w.heap.size w w' := by
  go_enter Try.func8, Try.ntmps8
  go_wp2_with fail
  refine (cmpSub_at a0 a1 a2 a0 a1 b2 1 hx.out _).mono ?_
  rintro e w1 ⟨rfl, hb1⟩
  have k1 : Hid (Below (((w.alloc (.cells #[.string a0, .string a1, .string a2] 25)).alloc (.cells #[.string a0, .string a1, .string b2] 25)).alloc (.cells #[.string c0, .string c1, .string c2] 25)).heap.size (((w.alloc (.cells #[.string a0, .string a1, .string a2] 25)).alloc (.cells #[.string a0, .string a1, .string b2] 25)).alloc (.cells #[.string c0, .string c1, .string c2] 25)) w1) := hb1
  clear hb1
  obtain ⟨m0, m1, m2, m3, m4, m5, m6, m7, m8⟩ := nine a0 a1 a2 a0 a1 b2 c0 c1 c2 w w1 k1.out
  go_wp2_with fail
  refine (cmpSub_at a0 a1 b2 c0 c1 c2 y hy.out _).mono ?_
  rintro e w2 ⟨rfl, hb2⟩
  have k2 : Hid (Below (((w.alloc (.cells #[.string a0, .string a1, .string a2] 25)).alloc (.cells #[.string a0, .string a1, .string b2] 25)).alloc (.cells #[.string c0, .string c1, .string c2] 25)).heap.size (((w.alloc (.cells #[.string a0, .string a1, .string a2] 25)).alloc (.cells #[.string a0, .string a1, .string b2] 25)).alloc (.cells #[.string c0, .string c1, .string c2] 25)) w2) := below_next2 k1.out hb2
  clear hb2 k1 m0 m1 m2 m3 m4 m5 m6 m7 m8
  obtain ⟨m0, m1, m2, m3, m4, m5, m6, m7, m8⟩ := nine a0 a1 a2 a0 a1 b2 c0 c1 c2 w w2 k2.out
  go_wp2_with fail
  refine (cmpSub_at a0 a1 a2 c0 c1 c2 z hz.out _).mono ?_
  rintro e w3 ⟨rfl, hb3⟩
  have k3 : Hid (Below (((w.alloc (.cells #[.string a0, .string a1, .string a2] 25)).alloc (.cells #[.string a0, .string a1, .string b2] 25)).alloc (.cells #[.string c0, .string c1, .string c2] 25)).heap.size (((w.alloc (.cells #[.string a0, .string a1, .string a2] 25)).alloc (.cells #[.string a0, .string a1, .string b2] 25)).alloc (.cells #[.string c0, .string c1, .string c2] 25)) w3) := below_next2 k2.out hb3
  clear hb3 k2 m0 m1 m2 m3 m4 m5 m6 m7 m8
  obtain ⟨m0, m1, m2, m3, m4, m5, m6, m7, m8⟩ := nine a0 a1 a2 a0 a1 b2 c0 c1 c2 w w3 k3.out
  go_wp2_with fail
  refine (cmpSub_at a0 a1 b2 a0 a1 a2 (-1) hv.out _).mono ?_
  rintro e w4 ⟨rfl, hb4⟩
  have k4 : Hid (Below (((w.alloc (.cells #[.string a0, .string a1, .string a2] 25)).alloc (.cells #[.string a0, .string a1, .string b2] 25)).alloc (.cells #[.string c0, .string c1, .string c2] 25)).heap.size (((w.alloc (.cells #[.string a0, .string a1, .string a2] 25)).alloc (.cells #[.string a0, .string a1, .string b2] 25)).alloc (.cells #[.string c0, .string c1, .string c2] 25)) w4) := below_next2 k3.out hb4
  clear hb4 k3 m0 m1 m2 m3 m4 m5 m6 m7 m8
  obtain ⟨m0, m1, m2, m3, m4, m5, m6, m7, m8⟩ := nine a0 a1 a2 a0 a1 b2 c0 c1 c2 w w4 k4.out
  obtain ⟨l0, l1, l2, l3⟩ := lts k4.out
  go_wp2_with fail
  refine (cmpObj_at a0 a1 a0 a1 0 hq.out _).mono ?_
  rintro e w5 ⟨rfl, hb5⟩
  have k5 : Hid (Below (((w.alloc (.cells #[.string a0, .string a1, .string a2] 25)).alloc (.cells #[.string a0, .string a1, .string b2] 25)).alloc (.cells #[.string c0, .string c1, .string c2] 25)).heap.size (((w.alloc (.cells #[.string a0, .string a1, .string a2] 25)).alloc (.cells #[.string a0, .string a1, .string b2] 25)).alloc (.cells #[.string c0, .string c1, .string c2] 25)) w5) := below_two_next k4.out hb5
  clear hb5 k4 l0 l1 l2 l3 m0 m1 m2 m3 m4 m5 m6 m7 m8
  obtain ⟨m0, m1, m2, m3, m4, m5, m6, m7, m8⟩ := nine a0 a1 a2 a0 a1 b2 c0 c1 c2 w w5 k5.out
  go_wp2_with fail
  refine (cmpSub_at a0 a1 ⟨#[]⟩ a0 a1 ⟨#[]⟩ 0 hk.out _).mono ?_
  rintro e w6 ⟨rfl, hb6⟩
  have k6 : Hid (Below (((w.alloc (.cells #[.string a0, .string a1, .string a2] 25)).alloc (.cells #[.string a0, .string a1, .string b2] 25)).alloc (.cells #[.string c0, .string c1, .string c2] 25)).heap.size (((w.alloc (.cells #[.string a0, .string a1, .string a2] 25)).alloc (.cells #[.string a0, .string a1, .string b2] 25)).alloc (.cells #[.string c0, .string c1, .string c2] 25)) w6) := below_next2 k5.out hb6
  clear hb6 k5 m0 m1 m2 m3 m4 m5 m6 m7 m8
  obtain ⟨m0, m1, m2, m3, m4, m5, m6, m7, m8⟩ := nine a0 a1 a2 a0 a1 b2 c0 c1 c2 w w6 k6.out
  clear m0 m1 m2 m3 m4 m5 m6 m7 m8
  go_wp2_with fail
  refine (cmpSub_at ⟨#[97]⟩ ⟨#[98]⟩ ⟨#[]⟩ ⟨#[97]⟩ ⟨#[98, 97]⟩ ⟨#[]⟩ (-1) lit_order _).mono ?_
  rintro e w7 ⟨rfl, hb7⟩
  go_wp2
  go_ret
  exact ⟨rfl, three_below (below_next2 k6.out hb7)⟩

set_option maxHeartbeats 1000000 in
theorem order_2k (a0 a1 a2 b2 c0 c1 c2 : ByteArray) (y z : Int) (w : World)
    (hx : Hid (cmpS a0.toList a1.toList a2.toList a0.toList a1.toList b2.toList = (-1))) (hy : Hid (cmpS a0.toList a1.toList b2.toList c0.toList c1.toList c2.toList = y))
    (hz : Hid (cmpS a0.toList a1.toList a2.toList c0.toList c1.toList c2.toList = z)) (hv : Hid (cmpS a0.toList a1.toList b2.toList a0.toList a1.toList a2.toList = 1))
    (hq : Hid (cmpO a0.toList a1.toList a0.toList a1.toList = 0)) (hk : Hid (cmpS a0.toList a1.toList (⟨#[]⟩ : ByteArray).toList a0.toList a1.toList (⟨#[]⟩ : ByteArray).toList = 0))
    (e2 : ¬ a2.toList = b2.toList) (y1 : ¬ y ≤ 0) :
    Calls Try.prog 8 #[.agg #[.string a0, .string a1, .string a2], .agg #[.string a0, .string a1, .string b2], .agg #[.string c0, .string c1, .string c2]] w fun e w' => e = .returned (.bool true) ∧ Below w.heap.size w w' := by
  go_enter Try.func8, Try.ntmps8
  go_wp2_with fail
  refine (cmpSub_at a0 a1 a2 a0 a1 b2 (-1) hx.out _).mono ?_
  rintro e w1 ⟨rfl, hb1⟩
  have k1 : Hid (Below (((w.alloc (.cells #[.string a0, .string a1, .string a2] 25)).alloc (.cells #[.string a0, .string a1, .string b2] 25)).alloc (.cells #[.string c0, .string c1, .string c2] 25)).heap.size (((w.alloc (.cells #[.string a0, .string a1, .string a2] 25)).alloc (.cells #[.string a0, .string a1, .string b2] 25)).alloc (.cells #[.string c0, .string c1, .string c2] 25)) w1) := hb1
  clear hb1
  obtain ⟨m0, m1, m2, m3, m4, m5, m6, m7, m8⟩ := nine a0 a1 a2 a0 a1 b2 c0 c1 c2 w w1 k1.out
  go_wp2_with fail
  refine (cmpSub_at a0 a1 b2 c0 c1 c2 y hy.out _).mono ?_
  rintro e w2 ⟨rfl, hb2⟩
  have k2 : Hid (Below (((w.alloc (.cells #[.string a0, .string a1, .string a2] 25)).alloc (.cells #[.string a0, .string a1, .string b2] 25)).alloc (.cells #[.string c0, .string c1, .string c2] 25)).heap.size (((w.alloc (.cells #[.string a0, .string a1, .string a2] 25)).alloc (.cells #[.string a0, .string a1, .string b2] 25)).alloc (.cells #[.string c0, .string c1, .string c2] 25)) w2) := below_next2 k1.out hb2
  clear hb2 k1 m0 m1 m2 m3 m4 m5 m6 m7 m8
  obtain ⟨m0, m1, m2, m3, m4, m5, m6, m7, m8⟩ := nine a0 a1 a2 a0 a1 b2 c0 c1 c2 w w2 k2.out
  go_wp2_with fail
  refine (cmpSub_at a0 a1 a2 c0 c1 c2 z hz.out _).mono ?_
  rintro e w3 ⟨rfl, hb3⟩
  have k3 : Hid (Below (((w.alloc (.cells #[.string a0, .string a1, .string a2] 25)).alloc (.cells #[.string a0, .string a1, .string b2] 25)).alloc (.cells #[.string c0, .string c1, .string c2] 25)).heap.size (((w.alloc (.cells #[.string a0, .string a1, .string a2] 25)).alloc (.cells #[.string a0, .string a1, .string b2] 25)).alloc (.cells #[.string c0, .string c1, .string c2] 25)) w3) := below_next2 k2.out hb3
  clear hb3 k2 m0 m1 m2 m3 m4 m5 m6 m7 m8
  obtain ⟨m0, m1, m2, m3, m4, m5, m6, m7, m8⟩ := nine a0 a1 a2 a0 a1 b2 c0 c1 c2 w w3 k3.out
  go_wp2_with fail
  refine (cmpSub_at a0 a1 b2 a0 a1 a2 1 hv.out _).mono ?_
  rintro e w4 ⟨rfl, hb4⟩
  have k4 : Hid (Below (((w.alloc (.cells #[.string a0, .string a1, .string a2] 25)).alloc (.cells #[.string a0, .string a1, .string b2] 25)).alloc (.cells #[.string c0, .string c1, .string c2] 25)).heap.size (((w.alloc (.cells #[.string a0, .string a1, .string a2] 25)).alloc (.cells #[.string a0, .string a1, .string b2] 25)).alloc (.cells #[.string c0, .string c1, .string c2] 25)) w4) := below_next2 k3.out hb4
  clear hb4 k3 m0 m1 m2 m3 m4 m5 m6 m7 m8
  obtain ⟨m0, m1, m2, m3, m4, m5, m6, m7, m8⟩ := nine a0 a1 a2 a0 a1 b2 c0 c1 c2 w w4 k4.out
  obtain ⟨l0, l1, l2, l3⟩ := lts k4.out
  go_wp2_with fail
  refine (cmpObj_at a0 a1 a0 a1 0 hq.out _).mono ?_
  rintro e w5 ⟨rfl, hb5⟩
  have k5 : Hid (Below (((w.alloc (.cells #[.string a0, .string a1, .string a2] 25)).alloc (.cells #[.string a0, .string a1, .string b2] 25)).alloc (.cells #[.string c0, .string c1, .string c2] 25)).heap.size (((w.alloc (.cells #[.string a0, .string a1, .string a2] 25)).alloc (.cells #[.string a0, .string a1, .string b2] 25)).alloc (.cells #[.string c0, .string c1, .string c2] 25)) w5) := below_two_next k4.out hb5
  clear hb5 k4 l0 l1 l2 l3 m0 m1 m2 m3 m4 m5 m6 m7 m8
  obtain ⟨m0, m1, m2, m3, m4, m5, m6, m7, m8⟩ := nine a0 a1 a2 a0 a1 b2 c0 c1 c2 w w5 k5.out
  go_wp2_with fail
  refine (cmpSub_at a0 a1 ⟨#[]⟩ a0 a1 ⟨#[]⟩ 0 hk.out _).mono ?_
  rintro e w6 ⟨rfl, hb6⟩
  have k6 : Hid (Below (((w.alloc (.cells #[.string a0, .string a1, .string a2] 25)).alloc (.cells #[.string a0, .string a1, .string b2] 25)).alloc (.cells #[.string c0, .string c1, .string c2] 25)).heap.size (((w.alloc (.cells #[.string a0, .string a1, .string a2] 25)).alloc (.cells #[.string a0, .string a1, .string b2] 25)).alloc (.cells #[.string c0, .string c1, .string c2] 25)) w6) := below_next2 k5.out hb6
  clear hb6 k5 m0 m1 m2 m3 m4 m5 m6 m7 m8
  obtain ⟨m0, m1, m2, m3, m4, m5, m6, m7, m8⟩ := nine a0 a1 a2 a0 a1 b2 c0 c1 c2 w w6 k6.out
  clear m0 m1 m2 m3 m4 m5 m6 m7 m8
  go_wp2_with fail
  refine (cmpSub_at ⟨#[97]⟩ ⟨#[98]⟩ ⟨#[]⟩ ⟨#[97]⟩ ⟨#[98, 97]⟩ ⟨#[]⟩ (-1) lit_order _).mono ?_
  rintro e w7 ⟨rfl, hb7⟩
  go_wp2
  go_ret
  exact ⟨rfl, three_below (below_next2 k6.out hb7)⟩

set_option maxHeartbeats 1000000 in
theorem order_3k (a0 a1 a2 b2 c0 c1 c2 : ByteArray) (y z : Int) (w : World)
    (hx : Hid (cmpS a0.toList a1.toList a2.toList a0.toList a1.toList b2.toList = (-1))) (hy : Hid (cmpS a0.toList a1.toList b2.toList c0.toList c1.toList c2.toList = y))
    (hz : Hid (cmpS a0.toList a1.toList a2.toList c0.toList c1.toList c2.toList = z)) (hv : Hid (cmpS a0.toList a1.toList b2.toList a0.toList a1.toList a2.toList = 1))
    (hq : Hid (cmpO a0.toList a1.toList a0.toList a1.toList = 0)) (hk : Hid (cmpS a0.toList a1.toList (⟨#[]⟩ : ByteArray).toList a0.toList a1.toList (⟨#[]⟩ : ByteArray).toList = 0))
    (e2 : ¬ a2.toList = b2.toList) (y1 : y ≤ 0) (z1 : z < 0) :
    Calls Try.prog 8 #[.agg #[.string a0, .string a1, .string a2], .agg #[.string a0, .string a1, .string b2], .agg #[.string c0, .string c1, .string c2]] w fun e w' => e = .returned (.bool true) ∧ Below w.heap.size w w' := by
  go_enter Try.func8, Try.ntmps8
  go_wp2_with fail
  refine (cmpSub_at a0 a1 a2 a0 a1 b2 (-1) hx.out _).mono ?_
  rintro e w1 ⟨rfl, hb1⟩
  have k1 : Hid (Below (((w.alloc (.cells #[.string a0, .string a1, .string a2] 25)).alloc (.cells #[.string a0, .string a1, .string b2] 25)).alloc (.cells #[.string c0, .string c1, .string c2] 25)).heap.size (((w.alloc (.cells #[.string a0, .string a1, .string a2] 25)).alloc (.cells #[.string a0, .string a1, .string b2] 25)).alloc (.cells #[.string c0, .string c1, .string c2] 25)) w1) := hb1
  clear hb1
  obtain ⟨m0, m1, m2, m3, m4, m5, m6, m7, m8⟩ := nine a0 a1 a2 a0 a1 b2 c0 c1 c2 w w1 k1.out
  go_wp2_with fail
  refine (cmpSub_at a0 a1 b2 c0 c1 c2 y hy.out _).mono ?_
  rintro e w2 ⟨rfl, hb2⟩
  have k2 : Hid (Below (((w.alloc (.cells #[.string a0, .string a1, .string a2] 25)).alloc (.cells #[.string a0, .string a1, .string b2] 25)).alloc (.cells #[.string c0, .string c1, .string c2] 25)).heap.size (((w.alloc (.cells #[.string a0, .string a1, .string a2] 25)).alloc (.cells #[.string a0, .string a1, .string b2] 25)).alloc (.cells #[.string c0, .string c1, .string c2] 25)) w2) := below_next2 k1.out hb2
  clear hb2 k1 m0 m1 m2 m3 m4 m5 m6 m7 m8
  obtain ⟨m0, m1, m2, m3, m4, m5, m6, m7, m8⟩ := nine a0 a1 a2 a0 a1 b2 c0 c1 c2 w w2 k2.out
  go_wp2_with fail
  refine (cmpSub_at a0 a1 a2 c0 c1 c2 z hz.out _).mono ?_
  rintro e w3 ⟨rfl, hb3⟩
  have k3 : Hid (Below (((w.alloc (.cells #[.string a0, .string a1, .string a2] 25)).alloc (.cells #[.string a0, .string a1, .string b2] 25)).alloc (.cells #[.string c0, .string c1, .string c2] 25)).heap.size (((w.alloc (.cells #[.string a0, .string a1, .string a2] 25)).alloc (.cells #[.string a0, .string a1, .string b2] 25)).alloc (.cells #[.string c0, .string c1, .string c2] 25)) w3) := below_next2 k2.out hb3
  clear hb3 k2 m0 m1 m2 m3 m4 m5 m6 m7 m8
  obtain ⟨m0, m1, m2, m3, m4, m5, m6, m7, m8⟩ := nine a0 a1 a2 a0 a1 b2 c0 c1 c2 w w3 k3.out
  go_wp2_with fail
  refine (cmpSub_at a0 a1 b2 a0 a1 a2 1 hv.out _).mono ?_
  rintro e w4 ⟨rfl, hb4⟩
  have k4 : Hid (Below (((w.alloc (.cells #[.string a0, .string a1, .string a2] 25)).alloc (.cells #[.string a0, .string a1, .string b2] 25)).alloc (.cells #[.string c0, .string c1, .string c2] 25)).heap.size (((w.alloc (.cells #[.string a0, .string a1, .string a2] 25)).alloc (.cells #[.string a0, .string a1, .string b2] 25)).alloc (.cells #[.string c0, .string c1, .string c2] 25)) w4) := below_next2 k3.out hb4
  clear hb4 k3 m0 m1 m2 m3 m4 m5 m6 m7 m8
  obtain ⟨m0, m1, m2, m3, m4, m5, m6, m7, m8⟩ := nine a0 a1 a2 a0 a1 b2 c0 c1 c2 w w4 k4.out
  obtain ⟨l0, l1, l2, l3⟩ := lts k4.out
  go_wp2_with fail
  refine (cmpObj_at a0 a1 a0 a1 0 hq.out _).mono ?_
  rintro e w5 ⟨rfl, hb5⟩
  have k5 : Hid (Below (((w.alloc (.cells #[.string a0, .string a1, .string a2] 25)).alloc (.cells #[.string a0, .string a1, .string b2] 25)).alloc (.cells #[.string c0, .string c1, .string c2] 25)).heap.size (((w.alloc (.cells #[.string a0, .string a1, .string a2] 25)).alloc (.cells #[.string a0, .string a1, .string b2] 25)).alloc (.cells #[.string c0, .string c1, .string c2] 25)) w5) := below_two_next k4.out hb5
  clear hb5 k4 l0 l1 l2 l3 m0 m1 m2 m3 m4 m5 m6 m7 m8
  obtain ⟨m0, m1, m2, m3, m4, m5, m6, m7, m8⟩ := nine a0 a1 a2 a0 a1 b2 c0 c1 c2 w w5 k5.out
  go_wp2_with fail
  refine (cmpSub_at a0 a1 ⟨#[]⟩ a0 a1 ⟨#[]⟩ 0 hk.out _).mono ?_
  rintro e w6 ⟨rfl, hb6⟩
  have k6 : Hid (Below (((w.alloc (.cells #[.string a0, .string a1, .string a2] 25)).alloc (.cells #[.string a0, .string a1, .string b2] 25)).alloc (.cells #[.string c0, .string c1, .string c2] 25)).heap.size (((w.alloc (.cells #[.string a0, .string a1, .string a2] 25)).alloc (.cells #[.string a0, .string a1, .string b2] 25)).alloc (.cells #[.string c0, .string c1, .string c2] 25)) w6) := below_next2 k5.out hb6
  clear hb6 k5 m0 m1 m2 m3 m4 m5 m6 m7 m8
  obtain ⟨m0, m1, m2, m3, m4, m5, m6, m7, m8⟩ := nine a0 a1 a2 a0 a1 b2 c0 c1 c2 w w6 k6.out
  clear m0 m1 m2 m3 m4 m5 m6 m7 m8
  go_wp2_with fail
  refine (cmpSub_at ⟨#[97]⟩ ⟨#[98]⟩ ⟨#[]⟩ ⟨#[97]⟩ ⟨#[98, 97]⟩ ⟨#[]⟩ (-1) lit_order _).mono ?_
  rintro e w7 ⟨rfl, hb7⟩
  go_wp2
  go_ret
  exact ⟨rfl, three_below (below_next2 k6.out hb7)⟩

set_option maxHeartbeats 1000000 in
theorem order_4 (a0 a1 a2 c0 c1 c2 : ByteArray) (y z : Int) (w : World)
    (hx : Hid (cmpS a0.toList a1.toList a2.toList a0.toList a1.toList a2.toList = 0)) (hy : Hid (cmpS a0.toList a1.toList a2.toList c0.toList c1.toList c2.toList = y))
    (hz : Hid (cmpS a0.toList a1.toList a2.toList c0.toList c1.toList c2.toList = z)) (hv : Hid (cmpS a0.toList a1.toList a2.toList a0.toList a1.toList a2.toList = 0))
    (hq : Hid (cmpO a0.toList a1.toList a0.toList a1.toList = 0)) (hk : Hid (cmpS a0.toList a1.toList (⟨#[]⟩ : ByteArray).toList a0.toList a1.toList (⟨#[]⟩ : ByteArray).toList = 0))
    (y1 : ¬ y ≤ 0) :
    Calls Try.prog 8 #[.agg #[.string a0, .string a1, .string a2], .agg #[.string a0, .string a1, .string a2], .agg #[.string c0, .string c1, .string c2]] w fun e w' => e = .returned (.bool true) ∧ Below w.heap.size w w' := by
  go_enter Try.func8, Try.ntmps8
  go_wp2_with fail
  refine (cmpSub_at a0 a1 a2 a0 a1 a2 0 hx.out _).mono ?_
  rintro e w1 ⟨rfl, hb1⟩
  have k1 : Hid (Below (((w.alloc (.cells #[.string a0, .string a1, .string a2] 25)).alloc (.cells #[.string a0, .string a1, .string a2] 25)).alloc (.cells #[.string c0, .string c1, .string c2] 25)).heap.size (((w.alloc (.cells #[.string a0, .string a1, .string a2] 25)).alloc (.cells #[.string a0, .string a1, .string a2] 25)).alloc (.cells #[.string c0, .string c1, .string c2] 25)) w1) := hb1
  clear hb1
  obtain ⟨m0, m1, m2, m3, m4, m5, m6, m7, m8⟩ := nine a0 a1 a2 a0 a1 a2 c0 c1 c2 w w1 k1.out
  go_wp2_with fail
  refine (cmpSub_at a0 a1 a2 c0 c1 c2 y hy.out _).mono ?_
  rintro e w2 ⟨rfl, hb2⟩
  have k2 : Hid (Below (((w.alloc (.cells #[.string a0, .string a1, .string a2] 25)).alloc (.cells #[.string a0, .string a1, .string a2] 25)).alloc (.cells #[.string c0, .string c1, .string c2] 25)).heap.size (((w.alloc (.cells #[.string a0, .string a1, .string a2] 25)).alloc (.cells #[.string a0, .string a1, .string a2] 25)).alloc (.cells #[.string c0, .string c1, .string c2] 25)) w2) := below_next2 k1.out hb2
  clear hb2 k1 m0 m1 m2 m3 m4 m5 m6 m7 m8
  obtain ⟨m0, m1, m2, m3, m4, m5, m6, m7, m8⟩ := nine a0 a1 a2 a0 a1 a2 c0 c1 c2 w w2 k2.out
  go_wp2_with fail
  refine (cmpSub_at a0 a1 a2 c0 c1 c2 z hz.out _).mono ?_
  rintro e w3 ⟨rfl, hb3⟩
  have k3 : Hid (Below (((w.alloc (.cells #[.string a0, .string a1, .string a2] 25)).alloc (.cells #[.string a0, .string a1, .string a2] 25)).alloc (.cells #[.string c0, .string c1, .string c2] 25)).heap.size (((w.alloc (.cells #[.string a0, .string a1, .string a2] 25)).alloc (.cells #[.string a0, .string a1, .string a2] 25)).alloc (.cells #[.string c0, .string c1, .string c2] 25)) w3) := below_next2 k2.out hb3
  clear hb3 k2 m0 m1 m2 m3 m4 m5 m6 m7 m8
  obtain ⟨m0, m1, m2, m3, m4, m5, m6, m7, m8⟩ := nine a0 a1 a2 a0 a1 a2 c0 c1 c2 w w3 k3.out
  go_wp2_with fail
  refine (cmpSub_at a0 a1 a2 a0 a1 a2 0 hv.out _).mono ?_
  rintro e w4 ⟨rfl, hb4⟩
  have k4 : Hid (Below (((w.alloc (.cells #[.string a0, .string a1, .string a2] 25)).alloc (.cells #[.string a0, .string a1, .string a2] 25)).alloc (.cells #[.string c0, .string c1, .string c2] 25)).heap.size (((w.alloc (.cells #[.string a0, .string a1, .string a2] 25)).alloc (.cells #[.string a0, .string a1, .string a2] 25)).alloc (.cells #[.string c0, .string c1, .string c2] 25)) w4) := below_next2 k3.out hb4
  clear hb4 k3 m0 m1 m2 m3 m4 m5 m6 m7 m8
  obtain ⟨m0, m1, m2, m3, m4, m5, m6, m7, m8⟩ := nine a0 a1 a2 a0 a1 a2 c0 c1 c2 w w4 k4.out
  obtain ⟨l0, l1, l2, l3⟩ := lts k4.out
  go_wp2_with fail
  refine (cmpObj_at a0 a1 a0 a1 0 hq.out _).mono ?_
  rintro e w5 ⟨rfl, hb5⟩
  have k5 : Hid (Below (((w.alloc (.cells #[.string a0, .string a1, .string a2] 25)).alloc (.cells #[.string a0, .string a1, .string a2] 25)).alloc (.cells #[.string c0, .string c1, .string c2] 25)).heap.size (((w.alloc (.cells #[.string a0, .string a1, .string a2] 25)).alloc (.cells #[.string a0, .string a1, .string a2] 25)).alloc (.cells #[.string c0, .string c1, .string c2] 25)) w5) := below_two_next k4.out hb5
  clear hb5 k4 l0 l1 l2 l3 m0 m1 m2 m3 m4 m5 m6 m7 m8
  obtain ⟨m0, m1, m2, m3, m4, m5, m6, m7, m8⟩ := nine a0 a1 a2 a0 a1 a2 c0 c1 c2 w w5 k5.out
  go_wp2_with fail
  refine (cmpSub_at a0 a1 ⟨#[]⟩ a0 a1 ⟨#[]⟩ 0 hk.out _).mono ?_
  rintro e w6 ⟨rfl, hb6⟩
  have k6 : Hid (Below (((w.alloc (.cells #[.string a0, .string a1, .string a2] 25)).alloc (.cells #[.string a0, .string a1, .string a2] 25)).alloc (.cells #[.string c0, .string c1, .string c2] 25)).heap.size (((w.alloc (.cells #[.string a0, .string a1, .string a2] 25)).alloc (.cells #[.string a0, .string a1, .string a2] 25)).alloc (.cells #[.string c0, .string c1, .string c2] 25)) w6) := below_next2 k5.out hb6
  clear hb6 k5 m0 m1 m2 m3 m4 m5 m6 m7 m8
  obtain ⟨m0, m1, m2, m3, m4, m5, m6, m7, m8⟩ := nine a0 a1 a2 a0 a1 a2 c0 c1 c2 w w6 k6.out
  clear m0 m1 m2 m3 m4 m5 m6 m7 m8
  go_wp2_with fail
  refine (cmpSub_at ⟨#[97]⟩ ⟨#[98]⟩ ⟨#[]⟩ ⟨#[97]⟩ ⟨#[98, 97]⟩ ⟨#[]⟩ (-1) lit_order _).mono ?_
  rintro e w7 ⟨rfl, hb7⟩
  go_wp2
  go_ret
  exact ⟨rfl, three_below (below_next2 k6.out hb7)⟩

set_option maxHeartbeats 1000000 in
theorem order_5 (a0 a1 a2 c0 c1 c2 : ByteArray) (y z : Int) (w : World)
    (hx : Hid (cmpS a0.toList a1.toList a2.toList a0.toList a1.toList a2.toList = 0)) (hy : Hid (cmpS a0.toList a1.toList a2.toList c0.toList c1.toList c2.toList = y))
    (hz : Hid (cmpS a0.toList a1.toList a2.toList c0.toList c1.toList c2.toList = z)) (hv : Hid (cmpS a0.toList a1.toList a2.toList a0.toList a1.toList a2.toList = 0))
    (hq : Hid (cmpO a0.toList a1.toList a0.toList a1.toList = 0)) (hk : Hid (cmpS a0.toList a1.toList (⟨#[]⟩ : ByteArray).toList a0.toList a1.toList (⟨#[]⟩ : ByteArray).toList = 0))
    (y1 : y ≤ 0) (z1 : z < 0) :
    Calls Try.prog 8 #[.agg #[.string a0, .string a1, .string a2], .agg #[.string a0, .string a1, .string a2], .agg #[.string c0, .string c1, .string c2]] w fun e w' => e = .returned (.bool true) ∧ Below w.heap.size w w' := by
  go_enter Try.func8, Try.ntmps8
  go_wp2_with fail
  refine (cmpSub_at a0 a1 a2 a0 a1 a2 0 hx.out _).mono ?_
  rintro e w1 ⟨rfl, hb1⟩
  have k1 : Hid (Below (((w.alloc (.cells #[.string a0, .string a1, .string a2] 25)).alloc (.cells #[.string a0, .string a1, .string a2] 25)).alloc (.cells #[.string c0, .string c1, .string c2] 25)).heap.size (((w.alloc (.cells #[.string a0, .string a1, .string a2] 25)).alloc (.cells #[.string a0, .string a1, .string a2] 25)).alloc (.cells #[.string c0, .string c1, .string c2] 25)) w1) := hb1
  clear hb1
  obtain ⟨m0, m1, m2, m3, m4, m5, m6, m7, m8⟩ := nine a0 a1 a2 a0 a1 a2 c0 c1 c2 w w1 k1.out
  go_wp2_with fail
  refine (cmpSub_at a0 a1 a2 c0 c1 c2 y hy.out _).mono ?_
  rintro e w2 ⟨rfl, hb2⟩
  have k2 : Hid (Below (((w.alloc (.cells #[.string a0, .string a1, .string a2] 25)).alloc (.cells #[.string a0, .string a1, .string a2] 25)).alloc (.cells #[.string c0, .string c1, .string c2] 25)).heap.size (((w.alloc (.cells #[.string a0, .string a1, .string a2] 25)).alloc (.cells #[.string a0, .string a1, .string a2] 25)).alloc (.cells #[.string c0, .string c1, .string c2] 25)) w2) := below_next2 k1.out hb2
  clear hb2 k1 m0 m1 m2 m3 m4 m5 m6 m7 m8
  obtain ⟨m0, m1, m2, m3, m4, m5, m6, m7, m8⟩ := nine a0 a1 a2 a0 a1 a2 c0 c1 c2 w w2 k2.out
  go_wp2_with fail
  refine (cmpSub_at a0 a1 a2 c0 c1 c2 z hz.out _).mono ?_
  rintro e w3 ⟨rfl, hb3⟩
  have k3 : Hid (Below (((w.alloc (.cells #[.string a0, .string a1, .string a2] 25)).alloc (.cells #[.string a0, .string a1, .string a2] 25)).alloc (.cells #[.string c0, .string c1, .string c2] 25)).heap.size (((w.alloc (.cells #[.string a0, .string a1, .string a2] 25)).alloc (.cells #[.string a0, .string a1, .string a2] 25)).alloc (.cells #[.string c0, .string c1, .string c2] 25)) w3) := below_next2 k2.out hb3
  clear hb3 k2 m0 m1 m2 m3 m4 m5 m6 m7 m8
  obtain ⟨m0, m1, m2, m3, m4, m5, m6, m7, m8⟩ := nine a0 a1 a2 a0 a1 a2 c0 c1 c2 w w3 k3.out
  go_wp2_with fail
  refine (cmpSub_at a0 a1 a2 a0 a1 a2 0 hv.out _).mono ?_
  rintro e w4 ⟨rfl, hb4⟩
  have k4 : Hid (Below (((w.alloc (.cells #[.string a0, .string a1, .string a2] 25)).alloc (.cells #[.string a0, .string a1, .string a2] 25)).alloc (.cells #[.string c0, .string c1, .string c2] 25)).heap.size (((w.alloc (.cells #[.string a0, .string a1, .string a2] 25)).alloc (.cells #[.string a0, .string a1, .string a2] 25)).alloc (.cells #[.string c0, .string c1, .string c2] 25)) w4) := below_next2 k3.out hb4
  clear hb4 k3 m0 m1 m2 m3 m4 m5 m6 m7 m8
  obtain ⟨m0, m1, m2, m3, m4, m5, m6, m7, m8⟩ := nine a0 a1 a2 a0 a1 a2 c0 c1 c2 w w4 k4.out
  obtain ⟨l0, l1, l2, l3⟩ := lts k4.out
  go_wp2_with fail
  refine (cmpObj_at a0 a1 a0 a1 0 hq.out _).mono ?_
  rintro e w5 ⟨rfl, hb5⟩
  have k5 : Hid (Below (((w.alloc (.cells #[.string a0, .string a1, .string a2] 25)).alloc (.cells #[.string a0, .string a1, .string a2] 25)).alloc (.cells #[.string c0, .string c1, .string c2] 25)).heap.size (((w.alloc (.cells #[.string a0, .string a1, .string a2] 25)).alloc (.cells #[.string a0, .string a1, .string a2] 25)).alloc (.cells #[.string c0, .string c1, .string c2] 25)) w5) := below_two_next k4.out hb5
  clear hb5 k4 l0 l1 l2 l3 m0 m1 m2 m3 m4 m5 m6 m7 m8
  obtain ⟨m0, m1, m2, m3, m4, m5, m6, m7, m8⟩ := nine a0 a1 a2 a0 a1 a2 c0 c1 c2 w w5 k5.out
  go_wp2_with fail
  refine (cmpSub_at a0 a1 ⟨#[]⟩ a0 a1 ⟨#[]⟩ 0 hk.out _).mono ?_
  rintro e w6 ⟨rfl, hb6⟩
  have k6 : Hid (Below (((w.alloc (.cells #[.string a0, .string a1, .string a2] 25)).alloc (.cells #[.string a0, .string a1, .string a2] 25)).alloc (.cells #[.string c0, .string c1, .string c2] 25)).heap.size (((w.alloc (.cells #[.string a0, .string a1, .string a2] 25)).alloc (.cells #[.string a0, .string a1, .string a2] 25)).alloc (.cells #[.string c0, .string c1, .string c2] 25)) w6) := below_next2 k5.out hb6
  clear hb6 k5 m0 m1 m2 m3 m4 m5 m6 m7 m8
  obtain ⟨m0, m1, m2, m3, m4, m5, m6, m7, m8⟩ := nine a0 a1 a2 a0 a1 a2 c0 c1 c2 w w6 k6.out
  clear m0 m1 m2 m3 m4 m5 m6 m7 m8
  go_wp2_with fail
  refine (cmpSub_at ⟨#[97]⟩ ⟨#[98]⟩ ⟨#[]⟩ ⟨#[97]⟩ ⟨#[98, 97]⟩ ⟨#[]⟩ (-1) lit_order _).mono ?_
  rintro e w7 ⟨rfl, hb7⟩
  go_wp2
  go_ret
  exact ⟨rfl, three_below (below_next2 k6.out hb7)⟩

set_option maxHeartbeats 1000000 in
theorem order_6 (a0 a1 a2 c0 c1 c2 : ByteArray) (y z : Int) (w : World)
    (hx : Hid (cmpS a0.toList a1.toList a2.toList a0.toList a1.toList a2.toList = 0)) (hy : Hid (cmpS a0.toList a1.toList a2.toList c0.toList c1.toList c2.toList = y))
    (hz : Hid (cmpS a0.toList a1.toList a2.toList c0.toList c1.toList c2.toList = z)) (hv : Hid (cmpS a0.toList a1.toList a2.toList a0.toList a1.toList a2.toList = 0))
    (hq : Hid (cmpO a0.toList a1.toList a0.toList a1.toList = 0)) (hk : Hid (cmpS a0.toList a1.toList (⟨#[]⟩ : ByteArray).toList a0.toList a1.toList (⟨#[]⟩ : ByteArray).toList = 0))
    (y1 : y = 0) (z1 : z = 0) :
    Calls Try.prog 8 #[.agg #[.string a0, .string a1, .string a2], .agg #[.string a0, .string a1, .string a2], .agg #[.string c0, .string c1, .string c2]] w fun e w' => e = .returned (.bool true) ∧ Below w.heap.size w w' := by
  go_enter Try.func8, Try.ntmps8
  go_wp2_with fail
  refine (cmpSub_at a0 a1 a2 a0 a1 a2 0 hx.out _).mono ?_
  rintro e w1 ⟨rfl, hb1⟩
  have k1 : Hid (Below (((w.alloc (.cells #[.string a0, .string a1, .string a2] 25)).alloc (.cells #[.string a0, .string a1, .string a2] 25)).alloc (.cells #[.string c0, .string c1, .string c2] 25)).heap.size (((w.alloc (.cells #[.string a0, .string a1, .string a2] 25)).alloc (.cells #[.string a0, .string a1, .string a2] 25)).alloc (.cells #[.string c0, .string c1, .string c2] 25)) w1) := hb1
  clear hb1
  obtain ⟨m0, m1, m2, m3, m4, m5, m6, m7, m8⟩ := nine a0 a1 a2 a0 a1 a2 c0 c1 c2 w w1 k1.out
  go_wp2_with fail
  refine (cmpSub_at a0 a1 a2 c0 c1 c2 y hy.out _).mono ?_
  rintro e w2 ⟨rfl, hb2⟩
  have k2 : Hid (Below (((w.alloc (.cells #[.string a0, .string a1, .string a2] 25)).alloc (.cells #[.string a0, .string a1, .string a2] 25)).alloc (.cells #[.string c0, .string c1, .string c2] 25)).heap.size (((w.alloc (.cells #[.string a0, .string a1, .string a2] 25)).alloc (.cells #[.string a0, .string a1, .string a2] 25)).alloc (.cells #[.string c0, .string c1, .string c2] 25)) w2) := below_next2 k1.out hb2
  clear hb2 k1 m0 m1 m2 m3 m4 m5 m6 m7 m8
  obtain ⟨m0, m1, m2, m3, m4, m5, m6, m7, m8⟩ := nine a0 a1 a2 a0 a1 a2 c0 c1 c2 w w2 k2.out
  go_wp2_with fail
  refine (cmpSub_at a0 a1 a2 c0 c1 c2 z hz.out _).mono ?_
  rintro e w3 ⟨rfl, hb3⟩
  have k3 : Hid (Below (((w.alloc (.cells #[.string a0, .string a1, .string a2] 25)).alloc (.cells #[.string a0, .string a1, .string a2] 25)).alloc (.cells #[.string c0, .string c1, .string c2] 25)).heap.size (((w.alloc (.cells #[.string a0, .string a1, .string a2] 25)).alloc (.cells #[.string a0, .string a1, .string a2] 25)).alloc (.cells #[.string c0, .string c1, .string c2] 25)) w3) := below_next2 k2.out hb3
  clear hb3 k2 m0 m1 m2 m3 m4 m5 m6 m7 m8
  obtain ⟨m0, m1, m2, m3, m4, m5, m6, m7, m8⟩ := nine a0 a1 a2 a0 a1 a2 c0 c1 c2 w w3 k3.out
  go_wp2_with fail
  refine (cmpSub_at a0 a1 a2 a0 a1 a2 0 hv.out _).mono ?_
  rintro e w4 ⟨rfl, hb4⟩
  have k4 : Hid (Below (((w.alloc (.cells #[.string a0, .string a1, .string a2] 25)).alloc (.cells #[.string a0, .string a1, .string a2] 25)).alloc (.cells #[.string c0, .string c1, .string c2] 25)).heap.size (((w.alloc (.cells #[.string a0, .string a1, .string a2] 25)).alloc (.cells #[.string a0, .string a1, .string a2] 25)).alloc (.cells #[.string c0, .string c1, .string c2] 25)) w4) := below_next2 k3.out hb4
  clear hb4 k3 m0 m1 m2 m3 m4 m5 m6 m7 m8
  obtain ⟨m0, m1, m2, m3, m4, m5, m6, m7, m8⟩ := nine a0 a1 a2 a0 a1 a2 c0 c1 c2 w w4 k4.out
  obtain ⟨l0, l1, l2, l3⟩ := lts k4.out
  go_wp2_with fail
  refine (cmpObj_at a0 a1 a0 a1 0 hq.out _).mono ?_
  rintro e w5 ⟨rfl, hb5⟩
  have k5 : Hid (Below (((w.alloc (.cells #[.string a0, .string a1, .string a2] 25)).alloc (.cells #[.string a0, .string a1, .string a2] 25)).alloc (.cells #[.string c0, .string c1, .string c2] 25)).heap.size (((w.alloc (.cells #[.string a0, .string a1, .string a2] 25)).alloc (.cells #[.string a0, .string a1, .string a2] 25)).alloc (.cells #[.string c0, .string c1, .string c2] 25)) w5) := below_two_next k4.out hb5
  clear hb5 k4 l0 l1 l2 l3 m0 m1 m2 m3 m4 m5 m6 m7 m8
  obtain ⟨m0, m1, m2, m3, m4, m5, m6, m7, m8⟩ := nine a0 a1 a2 a0 a1 a2 c0 c1 c2 w w5 k5.out
  go_wp2_with fail
  refine (cmpSub_at a0 a1 ⟨#[]⟩ a0 a1 ⟨#[]⟩ 0 hk.out _).mono ?_
  rintro e w6 ⟨rfl, hb6⟩
  have k6 : Hid (Below (((w.alloc (.cells #[.string a0, .string a1, .string a2] 25)).alloc (.cells #[.string a0, .string a1, .string a2] 25)).alloc (.cells #[.string c0, .string c1, .string c2] 25)).heap.size (((w.alloc (.cells #[.string a0, .string a1, .string a2] 25)).alloc (.cells #[.string a0, .string a1, .string a2] 25)).alloc (.cells #[.string c0, .string c1, .string c2] 25)) w6) := below_next2 k5.out hb6
  clear hb6 k5 m0 m1 m2 m3 m4 m5 m6 m7 m8
  obtain ⟨m0, m1, m2, m3, m4, m5, m6, m7, m8⟩ := nine a0 a1 a2 a0 a1 a2 c0 c1 c2 w w6 k6.out
  clear m0 m1 m2 m3 m4 m5 m6 m7 m8
  go_wp2_with fail
  refine (cmpSub_at ⟨#[97]⟩ ⟨#[98]⟩ ⟨#[]⟩ ⟨#[97]⟩ ⟨#[98, 97]⟩ ⟨#[]⟩ (-1) lit_order _).mono ?_
  rintro e w7 ⟨rfl, hb7⟩
  go_wp2
  go_ret
  exact ⟨rfl, three_below (below_next2 k6.out hb7)⟩

end Go.Proofs.Ytkkbnbcjkjbepab
