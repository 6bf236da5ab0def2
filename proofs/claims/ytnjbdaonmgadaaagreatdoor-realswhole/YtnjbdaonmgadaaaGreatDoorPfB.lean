/- The library's scaling: uscale, for every input, by its two products. -/
import Derived.Test.YtnjbdaonmgadaaaGreatDoorPfA
import Derived.BigQuiet
namespace Go.Proofs.YtnjbdaonmgadaaaGreatDoor
open Go.RowKit Go.PlainAid

theorem bool2u_any (b : Bool) (w : World) : Calls Tryz.prog 124 #[.bool b] w fun e w' => e = .returned (.int .u64 (if b then 1 else 0)) ∧ w' = w := by
  cases b
  all_goals
    go_enter Tryz.func124, Tryz.ntmps124
    go_wp2
    go_ret
    exact ⟨rfl, rfl⟩

set_option maxRecDepth 1000000 in
set_option maxHeartbeats 1000000 in
theorem uscale_cut (x hi lo s a b : Int) (w : World) (hs : bits .and .i64 s 63 = s) (hs0 : 0 ≤ s) (hs1 : s < 64) (hx : 0 ≤ x ∧ x < 18446744073709551616) (hy : 0 ≤ hi ∧ hi < 18446744073709551616)
    (ha : x * hi / 18446744073709551616 = a) (hb : x * hi % 18446744073709551616 = b) (hne : (IntKind.u64.wrap (a / 2 ^ s.toNat * 2 ^ s.toNat) != a) = true) :
    Calls Tryz.prog 150 #[.int .u64 x, .pointer (some ⟨w.heap.size, 0, none⟩)] (w.alloc (.cells #[.int .u64 hi, .int .u64 lo, .int .i64 s] 189)) fun e w' => e = .returned (.int .u64 (bits .or .u64 (a / 2 ^ s.toNat) 1)) ∧ ∃ n, w' = (w.alloc (.cells #[.int .u64 hi, .int .u64 lo, .int .i64 s] 189)).drewN n := by
  have hM := mul64_at x hi a b hx hy ha hb
  clear ha hb hx hy
  go_enter Tryz.func150, Tryz.ntmps150
  go_wp2_with fail
  refine (hM _).mono ?_
  rintro e9 w9 ⟨rfl, hw9⟩
  obtain rfl := hw9.symm
  go_wp2_with fail
  go_ret
  exact ⟨rfl, 0, rfl⟩

theorem bool2u_val (b : Bool) (v : Int) (h : v = if b then 1 else 0) (w : World) : Calls Tryz.prog 124 #[.bool b] w fun e w' => e = .returned (.int .u64 v) ∧ w' = w := by
  rw [h]; exact bool2u_any b w

set_option maxRecDepth 1000000 in
set_option maxHeartbeats 1000000 in
theorem uscale_all (x hi lo s a b c d q r : Int) (w : World) (hs : bits .and .i64 s 63 = s) (hs0 : 0 ≤ s) (hs1 : s < 64) (hx : 0 ≤ x ∧ x < 18446744073709551616) (hy : 0 ≤ hi ∧ hi < 18446744073709551616) (hz : 0 ≤ lo ∧ lo < 18446744073709551616)
    (ha : x * hi / 18446744073709551616 = a) (hb : x * hi % 18446744073709551616 = b) (hc : x * lo / 18446744073709551616 = c) (hd : x * lo % 18446744073709551616 = d) (hne : (IntKind.u64.wrap (a / 2 ^ s.toNat * 2 ^ s.toNat) != a) = false)
    (hq : q = if decide (b < c) then 1 else 0) (hr : r = if decide (1 < IntKind.u64.wrap (b - c)) then 1 else 0) :
    Calls Tryz.prog 150 #[.int .u64 x, .pointer (some ⟨w.heap.size, 0, none⟩)] (w.alloc (.cells #[.int .u64 hi, .int .u64 lo, .int .i64 s] 189)) fun e w' => e = .returned (.int .u64 (bits .or .u64 (IntKind.u64.wrap (a - q) / 2 ^ s.toNat) r)) ∧ ∃ n, w' = (w.alloc (.cells #[.int .u64 hi, .int .u64 lo, .int .i64 s] 189)).drewN n := by
  have hM := mul64_at x hi a b hx hy ha hb
  have hN := mul64_at x lo c d hx hz hc hd
  have hB := bool2u_val _ q hq
  have hB2 := bool2u_val _ r hr
  clear ha hb hc hd hx hy hz hq hr
  go_enter Tryz.func150, Tryz.ntmps150
  go_wp2_with fail
  refine (hM _).mono ?_
  rintro e9 w9 ⟨rfl, hw9⟩
  obtain rfl := hw9.symm
  go_wp2_with fail
  refine (hN _).mono ?_
  rintro e9 w9 ⟨rfl, hw9⟩
  obtain rfl := hw9.symm
  go_wp2_with fail
  refine (hB _).mono ?_
  rintro e9 w9 ⟨rfl, hw9⟩
  obtain rfl := hw9.symm
  go_wp2_with fail
  go_quiet (first | (go_at_call 124; exact Calls.quiet_of_same (hB2 _)))
  go_wp2
  go_ret
  exact ⟨rfl, _, rfl⟩
end Go.Proofs.YtnjbdaonmgadaaaGreatDoor

