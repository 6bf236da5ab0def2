/- Conditions: kindFault, whole. -/
import Derived.Test.YtplbclokoffgkaaGreatDoorCfE
namespace Go.Proofs.YtplbclokoffgkaaGreatDoor
open Go.RowKit Go.PlainAid Go.Shelf

set_option maxRecDepth 1000000 in
set_option maxHeartbeats 3200000 in
theorem kindFault_any (nm : ByteArray) (ps : List PD) (xs : List Pt) (vals : List Int) (es : Nat → Int) (hK : Kd ps xs vals es) (vp vx : Value) (w : World) (hp : Pm w vp ps) (hx : Pp w vx xs) (hn1 : 1 ≤ xs.length) (hn : xs.length ≤ 100) (hlp : Lo w.heap.size vp) (hlx : Lo w.heap.size vx) :
    Calls Tryz.prog 12 #[.agg #[.string nm, vp, vx]] w fun e w' => e = .returned (.tuple #[.int .i64 (kindE vals es xs.length).1, .int .i64 (kindE vals es xs.length).2]) ∧ Keep [] w w' := by
  obtain ⟨ao, cap, rfl, -, -, -⟩ := hx.ex
  obtain ⟨aop, capp, rfl, -, -, -⟩ := hp.ex
  have K3 : Keep [] w (((w.alloc (.cells #[.string nm, .slice aop ps.length capp, .slice ao xs.length cap] 25)).alloc (.cells #[.int .i64 0] 27)).alloc (.cells #[.int .i64 0] 3)) := ((Keep.alloc1 _ _).alloc _).alloc _
  have hS := kindSettle nm ps xs vals es hK (.slice aop ps.length capp) ao cap w.heap.size (w.heap.size + 1) (w.heap.size + 2) (((w.alloc (.cells #[.string nm, .slice aop ps.length capp, .slice ao xs.length cap] 25)).alloc (.cells #[.int .i64 0] 27)).alloc (.cells #[.int .i64 0] 3)) hn
    ⟨by go_simp, by go_simp, by go_simp, by go_simp, by go_simp, by go_simp, by go_simp, hp.keep0 K3, hx.keep0 K3⟩ (by simp only [World.size_alloc]; omega) (by omega) (fun k hk => by have := hlp k hk; simp; omega) (fun k hk => by have := hlx k hk; simp; omega)
  have HK3 : Hid (Keep [] w (((w.alloc (.cells #[.string nm, .slice aop ps.length capp, .slice ao xs.length cap] 25)).alloc (.cells #[.int .i64 0] 27)).alloc (.cells #[.int .i64 0] 3))) := K3
  have hmf : ∀ (fn : Fn) (first cap : Array Value) (w : World), (Instr.makeFunc fn first cap).run Tryz.prog w = .ok (.func fn first cap) w := fun _ _ _ _ => rfl
  have HN : Hid (1 ≤ xs.length) := hn1
  obtain ⟨v, HV⟩ : ∃ v : Int, Hid (v = vals.getD 0 0) := ⟨_, show _ = _ from rfl⟩
  have hk : kindE vals es xs.length = if (errA es xs.length xs.length).1 = 0 ∧ v ≠ 1 then (70, 0) else errA es xs.length xs.length := by rw [HV.out]; rfl
  rw [hk]
  clear hp hx hlp hlx K3 hn hn1 hk
  generalize errA es xs.length xs.length = E at *
  obtain ⟨e1, e2⟩ := E
  simp only at hS ⊢
  by_cases hE : e1 = 0
  · subst hE
    by_cases hv : v = 1
    · subst hv
      rw [if_neg (by simp)]
      go_enter Tryz.func12, Tryz.ntmps12
      go_wp2_with fail
      refine hS.mono ?_
      rintro e w5 ⟨g, c, rfl, hg, hc, hP, k5⟩
      have c0 := hc 0 (by have := HN.out; omega)
      have d0 := hP.d0
      have d1 := hP.d1
      have HK : Hid (Keep [] w w5) := HK3.out.more k5 (by simp)
      have hn0 : (0 : Int) < (xs.length : Int) := by have := HN.out; omega
      clear hc hP k5 hS HK3 hg
      rw [← HV.out] at c0
      go_wp2_with fail
      go_region
      all_goals
        go_wp2
        go_ret2
        exact ⟨rfl, HK.out.drew⟩
    · have hvb : (v != 1) = true := by simpa using hv
      rw [if_pos ⟨rfl, hv⟩]
      clear hv
      go_enter Tryz.func12, Tryz.ntmps12
      go_wp2_with fail
      refine hS.mono ?_
      rintro e w5 ⟨g, c, rfl, hg, hc, hP, k5⟩
      have c0 := hc 0 (by have := HN.out; omega)
      have d0 := hP.d0
      have d1 := hP.d1
      have HK : Hid (Keep [] w w5) := HK3.out.more k5 (by simp)
      have hn0 : (0 : Int) < (xs.length : Int) := by have := HN.out; omega
      clear hc hP k5 hS HK3 hg
      rw [← HV.out] at c0
      go_wp2
      go_ret2
      exact ⟨rfl, HK.out⟩
  · have hEb : (e1 == 0) = false := by simpa using hE
    rw [if_neg (by simp [hE])]
    clear hE
    go_enter Tryz.func12, Tryz.ntmps12
    go_wp2_with fail
    refine hS.mono ?_
    rintro e w5 ⟨g, c, rfl, hg, hc, hP, k5⟩
    have c0 := hc 0 (by have := HN.out; omega)
    have d0 := hP.d0
    have d1 := hP.d1
    have HK : Hid (Keep [] w w5) := HK3.out.more k5 (by simp)
    have hn0 : (0 : Int) < (xs.length : Int) := by have := HN.out; omega
    clear hc hP k5 hS HK3 hg
    rw [← HV.out] at c0
    go_wp2_with fail
    go_region
    all_goals
      go_wp2
      go_ret2
      exact ⟨rfl, HK.out.drew⟩
end Go.Proofs.YtplbclokoffgkaaGreatDoor
