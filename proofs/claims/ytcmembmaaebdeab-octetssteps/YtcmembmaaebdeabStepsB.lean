/- The sum goes on byte by byte, and tells a changed byte: OctetsSteps answers true for every input. -/
import Derived.Test.YtcmembmaaebdeabStepsA
import Derived.Test.YtcmembmaaebdeabStepsM
import Derived.Test.YtcmembmaaebdeabStepW
import Derived.Test.YtcmembmaaebdeabAwakeW
import Derived.Deep.QuietTactic
import Derived.BigQuiet
namespace Go.Proofs.Ytcmembmaaebdeab
open Go.RowKit Go.PlainAid Go.Lib

set_option maxRecDepth 1000000 in
set_option maxHeartbeats 12800000 in
theorem steps_some (l : List UInt8) (x y : UInt8) (at' : Int) (ha0 : -9223372036854775808 ≤ at') (ha1 : at' ≤ 9223372036854775807) (w : World) (b0 o0 cap : Nat) (hl : 0 < l.length) (hv : Bs w (.slice (some ⟨b0, o0, none⟩) l.length cap) l) (hln : l.length + 1 ≤ 140737488355328) :
    Calls Try.prog 3 #[.slice (some ⟨b0, o0, none⟩) l.length cap, .agg #[.int .u8 (x.toNat : Int), .int .i64 at', .int .u8 (y.toNat : Int)]] w fun e w' => e = .returned (.bool true) ∧ Below w.heap.size w w' := by
  go_enter Try.func3, Try.ntmps3
  go_wp2_with fail
  refine (awake_any _).mono ?_
  rintro e1 w1 ⟨rfl, K1⟩
  have B0 := hv.keep (Keep.alloc1 w (.cells #[.int .u8 (x.toNat : Int), .int .i64 at', .int .u8 (y.toNat : Int)] 24)) (Off.nil _)
  have B1 := B0.keep K1 (Off.nil _)
  have K1' : Keep [] w w1 := (Keep.alloc1 w _).trans' K1
  have c0 := K1.cell' (p := ⟨w.heap.size, 0, none⟩) (u := .int .u8 (x.toNat : Int)) (by simp) (by simp)
  have c1 := K1.cell' (p := ⟨w.heap.size, 1, none⟩) (u := .int .i64 at') (by simp) (by simp)
  have c2 := K1.cell' (p := ⟨w.heap.size, 2, none⟩) (u := .int .u8 (y.toNat : Int)) (by simp) (by simp)
  have hg1 : w.heap.size < w1.heap.size := by have := K1.size; simp at this; omega
  have hl0 : l.length ≤ 140737488355328 := by omega
  clear K1 B0 hv
  go_wp2_with fail
  refine (copy_any _ l w1 B1 hl0).mono ?_
  rintro e2 w2 ⟨v2, rfl, R2, F2, K2⟩
  have B2 := B1.keep K2 (Off.nil _)
  have C2 := R2.bs
  have K2' := K1'.trans' K2
  have c0 := K2.cell' c0 (by simp)
  have c1 := K2.cell' c1 (by simp)
  have c2 := K2.cell' c2 (by simp)
  have hg2 : w.heap.size < w2.heap.size := by have := K2.size; omega
  clear R2 F2 K2 B1 K1' hg1
  go_wp2_with fail
  refine (sum_any v2 l w2 C2).mono ?_
  rintro e3 w3 ⟨rfl, hw⟩
  obtain rfl := hw.symm
  clear C2
  go_wp2
  have HL : Hid (l.length + [x].length ≤ 140737488355328) := hln
  go_region_held3 (fun w' => w'.cell? ⟨w.heap.size, 0, none⟩ = some (.int .u8 (x.toNat : Int)) ∧ Keep [] w2 w')
    (first | exact held_start (by assumption) | exact held_call (by assumption) (by assumption) | exact held_alloc (by assumption) _ | exact held_app (by assumption) hg2 (by assumption) (fun z hz => Nat.le_trans (by simp) (F4 z hz).1))
    (first
      | (go_at_call 8; refine (copy_held _ l w2 _ _ _ B2 (by assumption) hl0).mono ?_; rintro e4 w4 ⟨v4, rfl, R4, F4, K4⟩)
      | (refine step_app rfl (.tmp 15) (.tmp 18) 22 22 rfl underS v4 l rfl (R4.keep (Keep.alloc1 _ _) (Off.nil _)) _ [x] rfl (Bs.byte _ x).src HL.out ?_; intro v5 w5 R5 K5 F5 S5)
      | (refine step_app rfl (.tmp 15) (.tmp 18) 22 22 rfl underS v4 l rfl R4 _ [x] rfl ((Bs.byte _ x).keep (((Keep.refl _ _).drew).trans' K4) (Off.nil _)).src HL.out ?_; intro v5 w5 R5 K5 F5 S5))
  all_goals
    rename_i hH
    obtain ⟨a5, c5, hs5⟩ := S5
    simp only [List.length_cons, List.length_nil, Nat.zero_add] at hs5
    have C5 := R5.bs
    have B5 := B2.keep hH.2 (Off.nil _)
    have K5' := K2'.trans' hH.2
    have d0 := hH.1
    have d1 := hH.2.cell' c1 (by simp)
    have d2 := hH.2.cell' c2 (by simp)
    have hg5 : w.heap.size < w5.heap.size := by have := hH.2.size; omega
    clear R4 F4 K4 R5 K5 F5 hH B2 K2' HL
    subst hs5
    have hxl : x.toNat < 256 := x.toNat_lt
    have hSl := sumL_lt l
    have hsn : sumL (l ++ [x]) = sumStep (sumL l) x := sumL_snoc l x
    have hx2 : bits .xor .u64 ((sumL l : Nat) : Int) (x.toNat : Int) = ((sumL l ^^^ x.toNat : Nat) : Int) := u64_xor_nat _ _ hSl (by omega)
    have hw2 : (((sumL l ^^^ x.toNat : Nat) : Int) * 1099511628211) % 18446744073709551616 = ((sumStep (sumL l) x : Nat) : Int) := by
      unfold sumStep
      generalize sumL l ^^^ x.toNat = yy
      omega
    have hw3 : IntKind.u64.wrap (((sumL l ^^^ x.toNat : Nat) : Int) * 1099511628211) = ((sumStep (sumL l) x : Nat) : Int) := by rw [IntKind.wrap_u64]; exact hw2
    have hs1 : ∀ n, Calls Try.prog 7 #[.slice none 0 0] (w5.drewN n) fun e w' => e = .returned (.int .u64 14695981039346656037) ∧ w' = w5.drewN n := fun n => sum_any _ [] _ (Bs.nil _)
    have hs2 : ∀ n, Calls Try.prog 7 #[.slice a5 (l.length + 1) c5] (w5.drewN n) fun e w' => e = .returned (.int .u64 ((sumStep (sumL l) x : Nat) : Int)) ∧ w' = w5.drewN n := by
      intro n
      rw [← hsn]
      exact sum_any _ _ _ (C5.keep ((Keep.refl [] _).drewN n) (Off.nil _))
    have HS : Hid (sumL l < 18446744073709551616) := hSl
    generalize sumL l ^^^ x.toNat = yy at hx2 hw2 hw3
    generalize sumStep (sumL l) x = zz at hw2 hw3 hs2
    clear hsn C5 hw2
    go_wp2
    go_quiet (first | (go_at_call_of 7 (Value.slice none 0 0); exact Calls.quiet_of_same (hs1 _)) | (go_at_call_of 7 a5; exact Calls.quiet_of_same (hs2 _)))
    clear hs1 hs2 hx2 hw3
    have hle : ((l.length : Int) == 0) = false := by
      simp only [beq_eq_false_iff_ne]
      omega
    have hP := pick_any at' (l.length : Int) ha0 ha1 (by omega) (w5.drewN nq)
    obtain ⟨i, hi, hil⟩ : ∃ i : Nat, pickZ at' (l.length : Int) = (i : Int) ∧ i < l.length := by
      have := pickZ_lt at' l.length hl
      exact ⟨(pickZ at' (l.length : Int)).toNat, by omega, by omega⟩
    rw [hi] at hP
    clear hi
    have K6 : Keep [] w5 (w5.drewN nq) := (Keep.refl [] _).drewN nq
    have B6 := B5.keep K6 (Off.nil _)
    have e1 := K6.cell' d1 (by simp)
    have e2 := K6.cell' d2 (by simp)
    have K6' := K5'.trans' K6
    have hg6 : w.heap.size < (w5.drewN nq).heap.size := hg5
    generalize w5.drewN nq = w6 at hP B6 e1 e2 K6' hg6 ⊢
    clear K6 B5 K5' d0 d1 d2 hg5 c0 c1 c2
    go_wp2_with fail
    refine hP.mono ?_
    rintro e9 w9 ⟨rfl, hw9⟩
    obtain rfl := hw9.symm
    clear hP
    go_wp2_with fail
    refine (copy_any _ l w6 B6 hl0).mono ?_
    rintro e7 w7 ⟨v7, rfl, R7, F7, K7⟩
    obtain ⟨g, c7, hv7⟩ : ∃ g c, v7 = .slice (some ⟨g, 0, none⟩) l.length c := by
      rcases R7.2 with ⟨_, h⟩ | ⟨g, cap, _, h, _⟩
      · omega
      · exact ⟨g, cap, h⟩
    subst hv7
    have hgf := F7 g rfl
    have f2 := K7.cell' e2 (by simp)
    have hcg : w7.cell? ⟨g, i, none⟩ = some (.int .u8 ((l.getD i 0).toNat : Int)) := by
      have := World.ownsRow.cellAt R7 i (by omega)
      rw [this, bv_get l i hil, List.getD_eq_getElem?_getD, List.getElem?_eq_getElem hil]
      rfl
    have hfg : w7.frozen? ⟨g, i, none⟩ = false := World.ownsRow.frozenAt R7 i
    have hili : (i : Int) < (l.length : Int) := by omega
    have R8 : Row (w7.setCell ⟨g, i, none⟩ (.int .u8 (y.toNat : Int))) (.slice (some ⟨g, 0, none⟩) l.length c7) (l.set i y) := by
      have h1 := (World.ownsRow.stored R7 i (.int .u8 (y.toNat : Int))).1
      have h2 : (bv l).set i (.int .u8 (y.toNat : Int)) = bv (l.set i y) := by simp [bv, List.map_set]
      rw [h2] at h1
      show World.ownsRow _ _ _ _ _ (l.set i y).length _
      rw [List.length_set]
      exact h1
    have S8 := Keep.set1 w7 ⟨g, i, none⟩ (.int .u8 (y.toNat : Int))
    have K8 : Keep [] w (w7.setCell ⟨g, i, none⟩ (.int .u8 (y.toNat : Int))) := (K6'.trans' K7).setCell (.inr (by simp only; omega)) _
    have hb0 : w6.cell? ⟨b0, o0 + i, none⟩ = some (.int .u8 ((l.getD i 0).toNat : Int)) := by
      obtain ⟨ao, cap', he, _, _, _, h4⟩ := B6.ex
      obtain ⟨b, o, hao, hc⟩ := h4 (by intro hz; rw [hz] at hil; simp at hil)
      subst hao
      simp at he
      obtain ⟨⟨rfl, rfl⟩, _⟩ := he
      exact hc i hil
    have hb7 := S8.cell' (K7.cell' hb0 (by simp)) (by
      have := World.block_lt_of_cell? w6 _ hb0
      simp only [List.mem_singleton]
      simp only at this
      omega)
    have hy7 := S8.cell' f2 (by simp only [List.mem_singleton]; omega)
    have hsum : ∀ n, Calls Try.prog 7 #[.slice (some ⟨g, 0, none⟩) l.length c7] ((w7.setCell ⟨g, i, none⟩ (.int .u8 (y.toNat : Int))).drewN n) fun e w' => e = .returned (.int .u64 ((sumL (l.set i y) : Nat) : Int)) ∧ w' = (w7.setCell ⟨g, i, none⟩ (.int .u8 (y.toNat : Int))).drewN n :=
      fun n => sum_any _ _ _ (R8.bs.keep ((Keep.refl [] _).drewN n) (Off.nil _))
    have hset := sum_set l i hil y
    have HK : Hid (Keep [] w (w7.setCell ⟨g, i, none⟩ (.int .u8 (y.toNat : Int)))) := K8
    clear R8 S8 K8 R7 F7 K7 K6' B6 hb0
    generalize hZ : sumL (l.set i y) = Z at hset hsum
    by_cases hxy : l.getD i 0 = y
    · have hA : ((Z : Int) == ((sumL l : Nat) : Int)) = true := by
        have := hset.2 hxy
        rw [this]
        simp
      have hB : (((l.getD i 0).toNat : Int) == (y.toNat : Int)) = true := by
        rw [hxy]
        simp
      generalize (l.getD i 0).toNat = cc at hB hb7 hcg
      clear hset hxy hZ
      go_wp2
      go_quiet (first | (go_at_call 7; exact Calls.quiet_of_same (hsum _)))
      go_wp2
      go_ret
      exact ⟨rfl, (HK.out.drewN _).below⟩
    · have hA : ((Z : Int) == ((sumL l : Nat) : Int)) = false := by
        simp only [beq_eq_false_iff_ne]
        intro h
        exact hxy (hset.1 (by omega))
      have hB : (((l.getD i 0).toNat : Int) == (y.toNat : Int)) = false := by
        simp only [beq_eq_false_iff_ne]
        intro h
        exact hxy (UInt8.toNat_inj.1 (by omega))
      generalize (l.getD i 0).toNat = cc at hB hb7 hcg
      clear hset hxy hZ
      go_wp2
      go_quiet (first | (go_at_call 7; exact Calls.quiet_of_same (hsum _)))
      go_wp2
      go_ret
      exact ⟨rfl, (HK.out.drewN _).below⟩

end Go.Proofs.Ytcmembmaaebdeab
