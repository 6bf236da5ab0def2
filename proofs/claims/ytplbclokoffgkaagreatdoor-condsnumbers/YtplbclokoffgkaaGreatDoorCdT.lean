/- Conditions: syntax.Check finds nothing wrong with a schema of one condition that is right by itself. -/
import Derived.Test.YtplbclokoffgkaaGreatDoorCdS
namespace Go.Proofs.YtplbclokoffgkaaGreatDoor
open Go.RowKit Go.PlainAid

set_option maxRecDepth 1000000 in
set_option maxHeartbeats 3200000 in
theorem scheck_fine (nm : ByteArray) (ps : List PD) (xs : List Pt) (vp vx : Value) (b : Nat) (r : Int) (c : Nat) (w : World) (hp : Pm w vp ps) (hx : Pp w vx xs) (hT : Tb w) (hok : CdOk nm ps xs)
    (hlp : Lo w.heap.size vp) (hlx : Lo w.heap.size vx) (hcl : Cl 87 (fun p => #[p, vx, .int .i64 0]) vx xs r c) (hc : c ≤ 45000)
    (e0 : w.cell? ⟨b, 0, none⟩ = some (.string nm)) (e1 : w.cell? ⟨b, 1, none⟩ = some vp) (e2 : w.cell? ⟨b, 2, none⟩ = some vx) :
    Calls Tryz.prog 9 #[.agg #[.slice none 0 0, .slice (some ⟨b, 0, none⟩) 1 1]] w fun e w' => e = .returned F0 ∧ Keep [] w w' := by
  have HW0 : Hid (Keep [] w ((w.alloc (.cells #[.slice none 0 0, .slice (some ⟨b, 0, none⟩) 1 1] 53)).alloc (.cells #[.int .i64 0, .int .i64 0, .int .i64 0, .int .i64 0] 29))) := (Keep.alloc1 _ _).alloc _
  have hW := written_fine nm ps xs vp vx b r c ((w.alloc (.cells #[.slice none 0 0, .slice (some ⟨b, 0, none⟩) 1 1] 53)).alloc (.cells #[.int .i64 0, .int .i64 0, .int .i64 0, .int .i64 0] 29)) (hp.keep0 HW0.out) (hx.keep0 HW0.out) (hT.keep HW0.out (by simp)) hok (fun k hk => by have := hlp k hk; simp; omega) (fun k hk => by have := hlx k hk; simp; omega) hcl hc (HW0.out.cell' e0 (by simp)) (HW0.out.cell' e1 (by simp)) (HW0.out.cell' e2 (by simp))
  clear hp hx hT hok hlp hlx hcl hc e0 e1 e2
  go_enter Tryz.func9, Tryz.ntmps9
  go_wp2_with fail
  refine hW.mono ?_
  rintro e9 w9 ⟨⟨s, rfl⟩, k9⟩
  have z0 : w9.cell? ⟨w.heap.size + 1, 0, none⟩ = some (.int .i64 0) := k9.cell' (by go_simp) (by simp)
  have z1 : w9.cell? ⟨w.heap.size + 1, 1, none⟩ = some (.int .i64 0) := k9.cell' (by go_simp) (by simp)
  have z2 : w9.cell? ⟨w.heap.size + 1, 2, none⟩ = some (.int .i64 0) := k9.cell' (by go_simp) (by simp)
  have z3 : w9.cell? ⟨w.heap.size + 1, 3, none⟩ = some (.int .i64 0) := k9.cell' (by go_simp) (by simp)
  have g0 : w9.frozen? ⟨w.heap.size + 1, 0, none⟩ = false := (k9.frozen (by simp) (by simp)).trans (by go_simp)
  have g1 : w9.frozen? ⟨w.heap.size + 1, 1, none⟩ = false := (k9.frozen (by simp) (by simp)).trans (by go_simp)
  have g2 : w9.frozen? ⟨w.heap.size + 1, 2, none⟩ = false := (k9.frozen (by simp) (by simp)).trans (by go_simp)
  have g3 : w9.frozen? ⟨w.heap.size + 1, 3, none⟩ = false := (k9.frozen (by simp) (by simp)).trans (by go_simp)
  have HK : Hid (Keep [] w w9) := HW0.out.trans' k9
  have hlt : w.heap.size + 1 < w9.heap.size := by have := k9.size; simp at this; omega
  clear k9 hW
  go_wp2
  refine bodyPost_ret (v := F0) (by simp [results, Tryz.results9, go_sem, *]) rfl ⟨rfl, ?_⟩
  repeat (first | exact HK.out | refine Keep.alloc ?_ _ | refine Keep.setCell ?_ (.inr (by simp)) _)
end Go.Proofs.YtplbclokoffgkaaGreatDoor
