/- Two arguments: are they the same? the program's sameArg, the document's SameArg. -/
import Derived.Test.YtclapbpkkaljgaaGreatDoorSaA
namespace Go.Proofs.YtclapbpkkaljgaaGreatDoor
open Go.RowKit Go.PlainAid

abbrev AD.agg (x : AD) (u : Value) : Value := .agg #[.string x.nm, .int .i64 x.val.kind, .bool x.val.bool, .int .i64 x.val.int, .float .f32 x.val.real, .string x.val.text, u]

set_option maxRecDepth 1000000 in
set_option maxHeartbeats 1600000 in
theorem sameArg_any (x y : AD) (hx : x.val.Ok) (hy : y.val.Ok) (u v : Value) (w : World) (hu : Ts w u x.val.texts) (hv : Ts w v y.val.texts) :
    Calls Tryz.prog 15 #[x.agg u, y.agg v] w fun e w' => e = .returned (.bool (sameA x y)) ∧ Keep [] w w' := by
  have HC : Hid (∀ w1, Keep [] w w1 → Calls Tryz.prog 19 #[x.val.val u, y.val.val v] w1 fun e w' => e = .returned (.bool (sameV x.val y.val)) ∧ Keep [] w1 w') := fun w1 k1 => same_any _ _ hx hy u v w1 (hu.keep k1 (Off.nil _)) (hv.keep k1 (Off.nil _))
  have HSm : Hid (sameA x y = (decide (x.nm = y.nm) && sameV x.val y.val)) := rfl
  obtain ⟨a1, c1, rfl, _, _, _, _⟩ := hu.ex
  obtain ⟨a2, c2, rfl, _, _, _, _⟩ := hv.ex
  have hsf := store_f32
  simp only [Go.stored] at hsf
  clear hu hv hx hy
  by_cases hnm : x.nm = y.nm
  · have HR : Hid (sameA x y = sameV x.val y.val) := by show _ = _; rw [HSm.out]; simp [hnm]
    rw [HR.out]
    obtain ⟨nx, vx⟩ := x
    obtain ⟨ny, vy⟩ := y
    simp only at hnm HC ⊢
    subst hnm
    clear HSm HR
    go_enter Tryz.func15, Tryz.ntmps15
    go_wp2_with fail
    refine (HC.out _ (((Keep.refl [] w).alloc _).alloc _)).mono ?_
    rintro e w1 ⟨rfl, k1⟩
    have HK : Hid (Keep [] w w1) := (((Keep.refl [] w).alloc _).alloc _).trans' k1
    clear k1 HC
    go_wp2
    go_ret
    exact ⟨rfl, HK.out⟩
  · have HR : Hid (sameA x y = false) := by show _ = _; rw [HSm.out]; simp [hnm]
    rw [HR.out]
    have hnq : (x.nm.toList == y.nm.toList) = false := by
      have : x.nm.toList ≠ y.nm.toList := fun e => hnm (toList_inj e)
      simpa using this
    clear HSm HR HC hnm
    go_enter Tryz.func15, Tryz.ntmps15
    go_wp2
    go_ret
    exact ⟨rfl, ((Keep.refl [] w).alloc _).alloc _⟩
end Go.Proofs.YtclapbpkkaljgaaGreatDoor


