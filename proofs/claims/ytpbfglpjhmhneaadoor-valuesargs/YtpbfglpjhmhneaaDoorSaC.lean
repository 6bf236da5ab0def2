/- The document's Args. -/
import Derived.Test.YtpbfglpjhmhneaaDoorSaB
namespace Go.Proofs.YtpbfglpjhmhneaaDoor
open Go.RowKit Go.PlainAid

open Classical in
/-- what Args answers: the number of the error, or 0 -/
noncomputable def argsZ (l : List AD) : Int := if l.length ≤ 16 ∧ Rises l then 0 else 41
theorem argsZ_yes {l : List AD} (h1 : l.length ≤ 16) (h2 : Rises l) : argsZ l = 0 := if_pos ⟨h1, h2⟩
theorem argsZ_long {l : List AD} (h1 : 16 < l.length) : argsZ l = 41 := if_neg (fun h => by omega)
theorem argsZ_no {l : List AD} (h2 : ¬ Rises l) : argsZ l = 41 := if_neg (fun h => h2 h.2)

theorem ret_i64 {a b : Int} (h : a = b) : Ending.returned (.int .i64 a) = .returned (.int .i64 b) := by rw [h]

set_option maxRecDepth 1000000 in
set_option maxHeartbeats 1600000 in
theorem rArgs_any (v : Value) (l : List AD) (w : World) (hv : As w v l) (hW : Words w) : Calls Tryd.prog 9 #[v] w fun e w' => e = .returned (.int .i64 (argsZ l)) ∧ Keep [] w w' := by
  have HR : Hid (Calls Tryd.prog 24 #[v] w fun e w' => BoolR w w' e (Rises l)) := rRise_any v l w hv hW
  obtain ⟨ao, cap, rfl, p1, p2, -⟩ := hv.ex
  clear hv hW
  by_cases hl : 16 < l.length
  · have hli : (16 : Int) < (l.length : Int) := by omega
    rw [argsZ_long hl]
    clear HR
    go_enter Tryd.func9, Tryd.ntmps9
    go_wp2
    go_ret
    exact ⟨rfl, Keep.refl _ _⟩
  · have hli : ¬ (16 : Int) < (l.length : Int) := by omega
    go_enter Tryd.func9, Tryd.ntmps9
    go_wp2_with fail
    refine HR.out.mono ?_
    rintro e w1 ⟨b, rfl, hb, k1⟩
    have HK : Hid (Keep [] w w1) := k1
    cases b with
    | true =>
      have HZ : Hid (argsZ l = 0) := argsZ_yes (by omega) (hb.1 rfl)
      clear hb k1 HR
      go_wp2
      go_ret
      exact ⟨ret_i64 HZ.out.symm, HK.out⟩
    | false =>
      have HZ : Hid (argsZ l = 41) := argsZ_no (fun h => by have := hb.2 h; cases this)
      clear hb k1 HR
      go_wp2
      go_ret
      exact ⟨ret_i64 HZ.out.symm, HK.out⟩
end Go.Proofs.YtpbfglpjhmhneaaDoor
