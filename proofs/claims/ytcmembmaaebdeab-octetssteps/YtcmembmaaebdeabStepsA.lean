/- The sum goes on byte by byte, and tells a changed byte: OctetsSteps answers true for every input. -/
import Derived.Test.YtcmembmaaebdeabStepsM
import Derived.Test.YtcmembmaaebdeabStepW
import Derived.Test.YtcmembmaaebdeabAwakeW
import Derived.Deep.QuietTactic
import Derived.BigQuiet
namespace Go.Proofs.Ytcmembmaaebdeab
open Go.RowKit Go.PlainAid Go.Lib

theorem held_app {w w1 w2 : World} {p : Addr} {u v : Value} (h : w1.cell? p = some u ∧ Keep [] w w1) (hp : p.block < w.heap.size) (k : Keep v.ownBlock.toList w1 w2) (hv : ∀ x, v.ownBlock = some x → w.heap.size ≤ x) :
    w2.cell? p = some u ∧ Keep [] w w2 := by
  refine ⟨k.cell' h.1 ?_, h.2.more k (fun x hx => .inr (hv x (by simpa using hx)))⟩
  intro hm
  simp at hm
  have := hv _ hm
  omega

theorem copy_held (v : Value) (l : List UInt8) (w0 w : World) (p : Addr) (u : Value) (hv : Bs w0 v l) (k : w.cell? p = some u ∧ Keep [] w0 w) (hln : l.length ≤ 140737488355328) :
    Calls Try.prog 8 #[v] w fun e w' => ∃ v', e = .returned v' ∧ Row w' v' l ∧ Fresh w w' v' ∧ Keep [] w w' := copy_any v l w (hv.keep k.2 (Off.nil _)) hln

set_option maxRecDepth 1000000 in
set_option maxHeartbeats 12800000 in
theorem steps_empty (l : List UInt8) (x y : UInt8) (at' : Int) (_ha0 : -9223372036854775808 ≤ at') (_ha1 : at' ≤ 9223372036854775807) (w : World) (ao : Option Addr) (cap : Nat) (hl : l = []) (hv : Bs w (.slice ao 0 cap) l) (hln : l.length + 1 ≤ 140737488355328) :
    Calls Try.prog 3 #[.slice ao 0 cap, .agg #[.int .u8 (x.toNat : Int), .int .i64 at', .int .u8 (y.toNat : Int)]] w fun e w' => e = .returned (.bool true) ∧ Below w.heap.size w w' := by
  have HL0 : Hid (l = []) := hl
  clear hl
  go_enter Try.func3, Try.ntmps3
  go_wp2_with fail
  refine (awake_any _).mono ?_
  rintro e1 w1 ⟨rfl, K1⟩
  have B0 := hv.keep (Keep.alloc1 w (.cells #[.int .u8 (x.toNat : Int), .int .i64 at', .int .u8 (y.toNat : Int)] 24)) (Off.nil _)
  have B1 := B0.keep K1 (Off.nil _)
  have K1' : Keep [] w w1 := (Keep.alloc1 w _).trans' K1
  have c0 := K1.cell' (p := ⟨w.heap.size, 0, none⟩) (u := .int .u8 (x.toNat : Int)) (by simp) (by simp)
  have c1 := K1.cell' (p := ⟨w.heap.size, 1, none⟩) (u := .int .i64 at') (by simp) (by simp)
  have c2 := K1.cell' (p := ⟨w.heap.size, 2, none⟩) (u := .int .u8 (y.toNat : Int)) (by simp) (by simp)
  have hg1 : w.heap.size < w1.heap.size := by have := K1.size; simp at this; omega
  have hl0 : l.length ≤ 140737488355328 := by omega
  clear K1 B0 hv
  go_wp2_with fail
  refine (copy_any _ l w1 B1 hl0).mono ?_
  rintro e2 w2 ⟨v2, rfl, R2, F2, K2⟩
  have B2 := B1.keep K2 (Off.nil _)
  have C2 := R2.bs
  have K2' := K1'.trans' K2
  have c0 := K2.cell' c0 (by simp)
  have c1 := K2.cell' c1 (by simp)
  have c2 := K2.cell' c2 (by simp)
  have hg2 : w.heap.size < w2.heap.size := by have := K2.size; omega
  clear R2 F2 K2 B1 K1' hg1
  go_wp2_with fail
  refine (sum_any v2 l w2 C2).mono ?_
  rintro e3 w3 ⟨rfl, hw⟩
  obtain rfl := hw.symm
  clear C2
  go_wp2
  have HL : Hid (l.length + [x].length ≤ 140737488355328) := hln
  go_region_held3 (fun w' => w'.cell? ⟨w.heap.size, 0, none⟩ = some (.int .u8 (x.toNat : Int)) ∧ Keep [] w2 w')
    (first | exact held_start (by assumption) | exact held_call (by assumption) (by assumption) | exact held_alloc (by assumption) _ | exact held_app (by assumption) hg2 (by assumption) (fun z hz => Nat.le_trans (by simp) (F4 z hz).1))
    (first
      | (go_at_call 8; refine (copy_held _ l w2 _ _ _ B2 (by assumption) hl0).mono ?_; rintro e4 w4 ⟨v4, rfl, R4, F4, K4⟩)
      | (refine step_app rfl (.tmp 15) (.tmp 18) 22 22 rfl underS v4 l rfl (R4.keep (Keep.alloc1 _ _) (Off.nil _)) _ [x] rfl (Bs.byte _ x).src HL.out ?_; intro v5 w5 R5 K5 F5 S5)
      | (refine step_app rfl (.tmp 15) (.tmp 18) 22 22 rfl underS v4 l rfl R4 _ [x] rfl ((Bs.byte _ x).keep (((Keep.refl _ _).drew).trans' K4) (Off.nil _)).src HL.out ?_; intro v5 w5 R5 K5 F5 S5))
  all_goals
    rename_i hH
    obtain ⟨a5, c5, hs5⟩ := S5
    simp only [List.length_cons, List.length_nil, Nat.zero_add] at hs5
    have C5 := R5.bs
    have B5 := B2.keep hH.2 (Off.nil _)
    have K5' := K2'.trans' hH.2
    have d0 := hH.1
    have d1 := hH.2.cell' c1 (by simp)
    have d2 := hH.2.cell' c2 (by simp)
    have hg5 : w.heap.size < w5.heap.size := by have := hH.2.size; omega
    clear R4 F4 K4 R5 K5 F5 hH B2 K2' HL
    subst hs5
    have hxl : x.toNat < 256 := x.toNat_lt
    have hSl := sumL_lt l
    have hsn : sumL (l ++ [x]) = sumStep (sumL l) x := sumL_snoc l x
    have hx2 : bits .xor .u64 ((sumL l : Nat) : Int) (x.toNat : Int) = ((sumL l ^^^ x.toNat : Nat) : Int) := u64_xor_nat _ _ hSl (by omega)
    have hw2 : (((sumL l ^^^ x.toNat : Nat) : Int) * 1099511628211) % 18446744073709551616 = ((sumStep (sumL l) x : Nat) : Int) := by
      unfold sumStep
      generalize sumL l ^^^ x.toNat = yy
      omega
    have hw3 : IntKind.u64.wrap (((sumL l ^^^ x.toNat : Nat) : Int) * 1099511628211) = ((sumStep (sumL l) x : Nat) : Int) := by rw [IntKind.wrap_u64]; exact hw2
    have hs1 : ∀ n, Calls Try.prog 7 #[.slice none 0 0] (w5.drewN n) fun e w' => e = .returned (.int .u64 14695981039346656037) ∧ w' = w5.drewN n := fun n => sum_any _ [] _ (Bs.nil _)
    have hs2 : ∀ n, Calls Try.prog 7 #[.slice a5 (l.length + 1) c5] (w5.drewN n) fun e w' => e = .returned (.int .u64 ((sumStep (sumL l) x : Nat) : Int)) ∧ w' = w5.drewN n := by
      intro n
      rw [← hsn]
      exact sum_any _ _ _ (C5.keep ((Keep.refl [] _).drewN n) (Off.nil _))
    have HS : Hid (sumL l < 18446744073709551616) := hSl
    generalize sumL l ^^^ x.toNat = yy at hx2 hw2 hw3
    generalize sumStep (sumL l) x = zz at hw2 hw3 hs2
    clear hsn C5 hw2
    go_wp2
    go_quiet (first | (go_at_call_of 7 (Value.slice none 0 0); exact Calls.quiet_of_same (hs1 _)) | (go_at_call_of 7 a5; exact Calls.quiet_of_same (hs2 _)))
    clear hs1 hs2 hx2 hw3
    have HK : Hid (Below w.heap.size w (w5.drewN nq)) := (K5'.drewN nq).below
    go_wp2
    go_ret
    exact ⟨rfl, HK.out⟩

end Go.Proofs.Ytcmembmaaebdeab
