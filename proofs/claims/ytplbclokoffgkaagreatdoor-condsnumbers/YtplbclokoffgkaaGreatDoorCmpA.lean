/- Compare, for every two values. -/
import Derived.Test.YtplbclokoffgkaaGreatDoorCmpV
namespace Go.Proofs.YtplbclokoffgkaaGreatDoor
open Go.RowKit Go.PlainAid Go.Lib

theorem two_cells {w w1 : World} {v0 v1 v2 v3 v4 v5 u0 u1 u2 u3 u4 u5 : Value} {t t' : TypeId} (k : Keep [] ((w.alloc (.cells #[v0, v1, v2, v3, v4, v5] t)).alloc (.cells #[u0, u1, u2, u3, u4, u5] t')) w1) :
    (w1.cell? ⟨w.heap.size, 0, none⟩ = some v0 ∧ w1.cell? ⟨w.heap.size, 1, none⟩ = some v1 ∧ w1.cell? ⟨w.heap.size, 2, none⟩ = some v2 ∧ w1.cell? ⟨w.heap.size, 3, none⟩ = some v3 ∧ w1.cell? ⟨w.heap.size, 4, none⟩ = some v4 ∧ w1.cell? ⟨w.heap.size, 5, none⟩ = some v5) ∧
    (w1.cell? ⟨w.heap.size + 1, 0, none⟩ = some u0 ∧ w1.cell? ⟨w.heap.size + 1, 1, none⟩ = some u1 ∧ w1.cell? ⟨w.heap.size + 1, 2, none⟩ = some u2 ∧ w1.cell? ⟨w.heap.size + 1, 3, none⟩ = some u3 ∧ w1.cell? ⟨w.heap.size + 1, 4, none⟩ = some u4 ∧ w1.cell? ⟨w.heap.size + 1, 5, none⟩ = some u5) := by
  refine ⟨⟨k.cell' ?_ (by simp), k.cell' ?_ (by simp), k.cell' ?_ (by simp), k.cell' ?_ (by simp), k.cell' ?_ (by simp), k.cell' ?_ (by simp)⟩, ⟨k.cell' ?_ (by simp), k.cell' ?_ (by simp), k.cell' ?_ (by simp), k.cell' ?_ (by simp), k.cell' ?_ (by simp), k.cell' ?_ (by simp)⟩⟩ <;> simp [go_sem]

theorem check_yes (p : VD) (hp : p.Ok) (u : Value) (w : World) (hu : Ts w u p.texts) (h : p.mayB = true) : Calls Tryz.prog 42 #[p.val u] w fun e w' => e = .returned (.int .i64 0) ∧ Keep [] w w' := by
  have := check_any p hp u w hu
  rw [h] at this
  exact this
theorem check_no (p : VD) (hp : p.Ok) (u : Value) (w : World) (hu : Ts w u p.texts) (h : p.mayB = false) : Calls Tryz.prog 42 #[p.val u] w fun e w' => e = .returned (.int .i64 40) ∧ Keep [] w w' := by
  have := check_any p hp u w hu
  rw [h] at this
  exact this

set_option maxRecDepth 100000 in
set_option maxHeartbeats 3200000 in
theorem mayBoth_any (a b : VD) (ha : a.Ok) (hb : b.Ok) (u v : Value) (w : World) (hu : Ts w u a.texts) (hv : Ts w v b.texts) :
    Calls Tryz.prog 77 #[a.val u, b.val v] w fun e w' => e = .returned (.bool (a.mayB && b.mayB)) ∧ Keep [] w w' := by
  have hU := hu
  have hV := hv
  obtain ⟨ao, ca, rfl, _, _, _, _⟩ := hu.ex
  obtain ⟨bo, cb, rfl, _, _, _, _⟩ := hv.ex
  clear hu hv
  have k0 : Keep [] w ((w.alloc (a.blk (.slice ao a.texts.length ca))).alloc (b.blk (.slice bo b.texts.length cb))) := (Keep.alloc1 w _).alloc _
  have HK0 : Hid (Keep [] w ((w.alloc (a.blk (.slice ao a.texts.length ca))).alloc (b.blk (.slice bo b.texts.length cb)))) := k0
  cases h1 : a.mayB
  · have hC := check_no a ha _ _ (hU.keep k0 (Off.nil _)) h1
    clear k0 hU hV
    go_enter Tryz.func77, Tryz.ntmps77
    go_wp2_with fail
    refine hC.mono ?_
    rintro e1 w1 ⟨rfl, k1⟩
    have HK1 : Hid (Keep [] w w1) := HK0.out.trans' k1
    clear k1 hC
    go_wp2
    go_ret
    exact ⟨rfl, HK1.out⟩
  · have hC := check_yes a ha _ _ (hU.keep k0 (Off.nil _)) h1
    cases h2 : b.mayB
    · have hD : ∀ w1, Keep [] w w1 → _ := fun w1 k => check_no b hb _ w1 (hV.keep k (Off.nil _)) h2
      clear k0 hU hV
      go_enter Tryz.func77, Tryz.ntmps77
      go_wp2_with fail
      refine hC.mono ?_
      rintro e1 w1 ⟨rfl, k1⟩
      obtain ⟨⟨c0, c1, c2, c3, c4, c5⟩, ⟨d0, d1, d2, d3, d4, d5⟩⟩ := two_cells k1
      have HK1 : Hid (Keep [] w w1) := HK0.out.trans' k1
      clear k1 hC
      go_wp2_with fail
      refine (hD _ HK1.out).mono ?_
      rintro e2 w2 ⟨rfl, k2⟩
      have HK2 : Hid (Keep [] w w2) := HK1.out.trans' k2
      clear k2 hD
      go_wp2
      go_ret
      exact ⟨rfl, HK2.out⟩
    · have hD : ∀ w1, Keep [] w w1 → _ := fun w1 k => check_yes b hb _ w1 (hV.keep k (Off.nil _)) h2
      clear k0 hU hV
      go_enter Tryz.func77, Tryz.ntmps77
      go_wp2_with fail
      refine hC.mono ?_
      rintro e1 w1 ⟨rfl, k1⟩
      obtain ⟨⟨c0, c1, c2, c3, c4, c5⟩, ⟨d0, d1, d2, d3, d4, d5⟩⟩ := two_cells k1
      have HK1 : Hid (Keep [] w w1) := HK0.out.trans' k1
      clear k1 hC
      go_wp2_with fail
      refine (hD _ HK1.out).mono ?_
      rintro e2 w2 ⟨rfl, k2⟩
      have HK2 : Hid (Keep [] w w2) := HK1.out.trans' k2
      clear k2 hD
      go_wp2
      go_ret
      exact ⟨rfl, HK2.out⟩

/-- how two values stand -/
def cmpV (a b : VD) : Int × Bool :=
  if (a.mayB && b.mayB) = false then (0, false) else if a.kind = b.kind then likeV a b else if a.kind = 3 ∧ b.kind = 2 then cmpXN a.real b.int
  else if a.kind = 2 ∧ b.kind = 3 then (-(cmpXN b.real a.int).1, (cmpXN b.real a.int).2) else (0, false)

theorem cmpXN_range (x : Nat) (n : Int) : -1 ≤ (cmpXN x n).1 ∧ (cmpXN x n).1 ≤ 1 := by
  unfold cmpXN cmpI
  split
  · simp
  · simp only []
    split
    · simp
    · split <;> simp

end Go.Proofs.YtplbclokoffgkaaGreatDoor


