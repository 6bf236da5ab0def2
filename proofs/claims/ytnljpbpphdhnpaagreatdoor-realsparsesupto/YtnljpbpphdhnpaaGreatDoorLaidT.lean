/- The reference's IsNan, Below, Same, Key, FromKey. -/
import Derived.Test.YtnljpbpphdhnpaaGreatDoorBigH
import Derived.Test.YtnljpbpphdhnpaaGreatDoorDoA
import Derived.Test.YtnljpbpphdhnpaaGreatDoorTxQ
import Derived.Deep.Slices
import Derived.Test.YtnljpbpphdhnpaaGreatDoorRows
import Derived.ProofKit
import Derived.LaidMore
import Derived.OpenShut
import Derived.Stop.Joined
import Derived.Lib.LaidU8
import Derived.Shelf.Vars
import Derived.SizedLaws
import Derived.Lay

namespace Go.Proofs.YtnljpbpphdhnpaaGreatDoor
open Go.RowKit Go.PlainAid Go.Lib

theorem rIsNan_any (x : Nat) (w : World) : Calls Tryz.prog 17 #[.float .f32 x] w fun e w' => e = .returned (.bool (nanB x)) ∧ w' = w := by
  have hn := neq_self x
  cases hb : nanB x <;> rw [hb] at hn
  all_goals
    go_enter Tryz.func17, Tryz.ntmps17
    go_wp2
    go_ret
    exact ⟨rfl, rfl⟩

theorem order_nan (x y : Nat) (h : nanB x = true) (o : Ordering) : (FloatKind.f32.format.order x y == some o) = false := by
  show (Ieee.single.order x y == some o) = _
  rw [order_any, if_pos (.inl (by simpa [nanB, rungN] using h))]
  rfl

set_option maxRecDepth 100000 in
set_option maxHeartbeats 1600000 in
theorem rBelow_any (x : Nat) (h : x < 4294967296) (w : World) : Calls Tryz.prog 18 #[.float .f32 x] w fun e w' => e = .returned (.bool (belowB x)) ∧ w' = w := by
  unfold belowB
  cases hx : nanB x
  · have hr : rungN x ≤ 2139095040 := by simpa [nanB, rungN] using hx
    have k1 := rlt_any x 0 hr (by decide)
    have k2 := req_any x 0 hr (by decide)
    rw [(srung_low 0 (by decide)).1] at k1 k2
    by_cases hs : 2147483648 ≤ x
    · rw [show decide (2147483648 ≤ x) = true by simpa using hs]
      have hz : srungZ x = -(rungN x : Int) := by unfold srungZ; rw [if_pos (by omega)]
      by_cases h0 : rungN x = 0
      · obtain rfl : x = 2147483648 := by unfold rungN at h0; omega
        rw [show decide (srungZ 2147483648 < ((0 : Nat) : Int)) = false by decide] at k1
        rw [show decide (srungZ 2147483648 = ((0 : Nat) : Int)) = true by decide] at k2
        have hq : ∀ w, (binOp .quo 22 (.float .f32 1065353216) (.float .f32 2147483648)).run Tryz.prog w = .ok (.float .f32 4286578688) w := fun w => run_float_arith w .quo 22 .f32 _ _ _ (by decide)
        have k3 : (FloatKind.f32.format.order 4286578688 0 == some Ordering.lt) = true := by decide
        go_enter Tryz.func18, Tryz.ntmps18
        go_wp2
        go_ret
        exact ⟨rfl, rfl⟩
      · rw [show decide (srungZ x < ((0 : Nat) : Int)) = true by simp; omega] at k1
        clear k2 hz h0
        go_enter Tryz.func18, Tryz.ntmps18
        go_wp2
        go_ret
        exact ⟨rfl, rfl⟩
    · rw [show decide (2147483648 ≤ x) = false by simpa using hs]
      obtain ⟨s1, s2⟩ := srung_low x (by omega)
      by_cases h0 : x = 0
      · subst h0
        rw [show decide (srungZ 0 < ((0 : Nat) : Int)) = false by decide] at k1
        rw [show decide (srungZ 0 = ((0 : Nat) : Int)) = true by decide] at k2
        have hq : ∀ w, (binOp .quo 22 (.float .f32 1065353216) (.float .f32 0)).run Tryz.prog w = .ok (.float .f32 2139095040) w := fun w => run_float_arith w .quo 22 .f32 _ _ _ (by decide)
        have k3 : (FloatKind.f32.format.order 2139095040 0 == some Ordering.lt) = false := by decide
        go_enter Tryz.func18, Tryz.ntmps18
        go_wp2
        go_ret
        exact ⟨rfl, rfl⟩
      · rw [show decide (srungZ x < ((0 : Nat) : Int)) = false by simp; omega] at k1
        rw [show decide (srungZ x = ((0 : Nat) : Int)) = false by simp; omega] at k2
        clear s1 s2 h0
        go_enter Tryz.func18, Tryz.ntmps18
        go_wp2
        go_ret
        exact ⟨rfl, rfl⟩
  · have k1 := order_nan x 0 hx .lt
    have k2 := order_nan x 0 hx .eq
    go_enter Tryz.func18, Tryz.ntmps18
    go_wp2
    go_ret
    exact ⟨rfl, rfl⟩

end Go.Proofs.YtnljpbpphdhnpaaGreatDoor


/- The reference's Same and Key. -/
namespace Go.Proofs.YtnljpbpphdhnpaaGreatDoor
open Go.RowKit Go.PlainAid Go.Lib

set_option maxRecDepth 100000 in
set_option maxHeartbeats 1600000 in
theorem rSame_any (a b : Nat) (ha : a < 4294967296) (hb : b < 4294967296) (w : World) : Calls Tryz.prog 11 #[.float .f32 a, .float .f32 b] w fun e w' => e = .returned (.bool (sameR a b)) ∧ w' = w := by
  have hA := rIsNan_any a
  have hB := rIsNan_any b
  have hC := rBelow_any a ha
  have hD := rBelow_any b hb
  have hE := eq_any a b
  unfold sameR
  generalize belowB a = p at hC ⊢
  generalize belowB b = q at hD ⊢
  generalize eqB a b = r at hE ⊢
  cases h1 : nanB a <;> rw [h1] at hA
  · cases r
    · go_enter Tryz.func11, Tryz.ntmps11
      go_wp2_with (first | (go_at_call_of 17 a; refine (hA _).mono ?_; rintro e9 w9 ⟨rfl, hw9⟩; obtain rfl := hw9.symm))
      go_ret
      exact ⟨rfl, rfl⟩
    · cases p <;> cases q
      all_goals
        go_enter Tryz.func11, Tryz.ntmps11
        go_wp2_with (first | (go_at_call 17; refine (hA _).mono ?_; rintro e9 w9 ⟨rfl, hw9⟩; obtain rfl := hw9.symm) | (go_at_call_of 18 a; refine (hC _).mono ?_; rintro e9 w9 ⟨rfl, hw9⟩; obtain rfl := hw9.symm) | (go_at_call 18; refine (hD _).mono ?_; rintro e9 w9 ⟨rfl, hw9⟩; obtain rfl := hw9.symm))
        go_ret
        exact ⟨rfl, rfl⟩
  · cases h2 : nanB b <;> rw [h2] at hB
    · cases r
      · go_enter Tryz.func11, Tryz.ntmps11
        go_wp2_with (first | (go_at_call_of 17 a; refine (hA _).mono ?_; rintro e9 w9 ⟨rfl, hw9⟩; obtain rfl := hw9.symm) | (go_at_call 17; refine (hB _).mono ?_; rintro e9 w9 ⟨rfl, hw9⟩; obtain rfl := hw9.symm))
        go_ret
        exact ⟨rfl, rfl⟩
      · cases p <;> cases q
        all_goals
          go_enter Tryz.func11, Tryz.ntmps11
          go_wp2_with (first | (go_at_call_of 17 a; refine (hA _).mono ?_; rintro e9 w9 ⟨rfl, hw9⟩; obtain rfl := hw9.symm) | (go_at_call 17; refine (hB _).mono ?_; rintro e9 w9 ⟨rfl, hw9⟩; obtain rfl := hw9.symm) | (go_at_call_of 18 a; refine (hC _).mono ?_; rintro e9 w9 ⟨rfl, hw9⟩; obtain rfl := hw9.symm) | (go_at_call 18; refine (hD _).mono ?_; rintro e9 w9 ⟨rfl, hw9⟩; obtain rfl := hw9.symm))
          go_ret
          exact ⟨rfl, rfl⟩
    · go_enter Tryz.func11, Tryz.ntmps11
      go_wp2_with (first | (go_at_call_of 17 a; refine (hA _).mono ?_; rintro e9 w9 ⟨rfl, hw9⟩; obtain rfl := hw9.symm) | (go_at_call 17; refine (hB _).mono ?_; rintro e9 w9 ⟨rfl, hw9⟩; obtain rfl := hw9.symm))
      go_ret
      exact ⟨rfl, rfl⟩


end Go.Proofs.YtnljpbpphdhnpaaGreatDoor


/- The statements' own look at some fixed answers: it says true, in whatever memory the library's tables lie in. -/
namespace Go.Proofs.YtnljpbpphdhnpaaGreatDoor
open Go.RowKit Go.PlainAid

theorem cmpI_p (w : World) : Calls Tryz.prog 23 #[.float .f32 1266679808, .int .i64 16777217] w fun e w' => e = .returned (.tuple #[.int .i64 (-1), .bool true]) ∧ w' = w := by
  have h := compareInt_any 1266679808 16777217 (by decide) (by decide) w
  have e1 : (cmpXN 1266679808 16777217) = (-1, true) := by decide
  rw [e1] at h
  exact h
theorem do_p (w : World) : Calls Tryz.prog 24 #[.int .i64 7, .float .f32 1266679808, .float .f32 1073741824] w fun e w' => e = .returned (.float .f32 1266679809) ∧ ∃ n, w' = w.drewN n := by
  have h := do_any 7 1266679808 1073741824 w
  have e1 : doN 7 1266679808 1073741824 = 1266679809 := by decide
  rw [e1] at h
  exact h

set_option maxRecDepth 1000000 in
set_option maxHeartbeats 1000000 in
theorem awake_any (w : World) (hT : Tabx w) : Calls Tryz.prog 8 #[] w fun e w' => e = .returned (.bool true) ∧ Below w.heap.size w w' := by
  have h1 : Calls Tryz.prog 9 #[.string ⟨#[49, 54, 55, 55, 55, 50, 49, 55, 46, 48]⟩] w fun e w' => e = .returned (.tuple #[.float .f32 1266679808, .int .i64 0]) ∧ Below w.heap.size w w' := parse_p w hT.tabs
  have k1 : (FloatKind.f32.format.order 1266679808 1266679808 == some Ordering.eq) = true := by decide
  have k2 : (FloatKind.f32.format.order 0 0 == some Ordering.eq) = true := by decide
  have k3 : (FloatKind.f32.format.order 1266679809 1266679809 == some Ordering.eq) = true := by decide
  go_enter Tryz.func8, Tryz.ntmps8
  go_wp2_with fail
  refine h1.mono ?_
  rintro e9 w1 ⟨rfl, hb1⟩
  have HB1 : Hid (Below w.heap.size w w1) := hb1
  clear hb1 h1
  go_wp2_with (first
    | (go_at_call 9; refine (parse_q _).mono ?_; rintro e9 w2 ⟨rfl, hb2⟩; have HB2 : Hid (Below w.heap.size w w2) := HB1.out.trans (hb2.mono HB1.out.size); clear hb2)
    | (go_at_call 23; refine (cmpI_p _).mono ?_; rintro e9 w9 ⟨rfl, hw9⟩; obtain rfl := hw9.symm)
    | (go_at_call 6; refine (text_p _ (hT.below HB2.out)).mono ?_; rintro e9 w3 ⟨rfl, hb3⟩; have HB3 : Hid (Below w.heap.size w w3) := HB2.out.trans (hb3.mono HB2.out.size); clear hb3)
    | (go_at_call 24; refine (do_p _).mono ?_; rintro e9 w4 ⟨rfl, n4, hw4⟩; have HB4 : Hid (Below w.heap.size w w4) := (by rw [hw4]; exact below_drewN HB3.out n4); clear hw4))
  go_ret
  exact ⟨rfl, HB4.out⟩
end Go.Proofs.YtnljpbpphdhnpaaGreatDoor



/- Where the listed tables read as they are listed, the library's tables lie in memory, as far as they are read here. -/
namespace Go.Proofs.YtnljpbpphdhnpaaGreatDoor
open Go.ChangeShapes Go.WideShapes Go.ChangeAt Go.RowKit

abbrev laidL : List (String × DataW Unit) := Rows.realsTextsRow.laid

theorem cells66 : Tryz.prog.cellsOf 65 = 1 := by kernel_rfl
theorem cells207 : Tryz.prog.cellsOf 227 = 2 := by kernel_rfl

theorem laid_at {W : World} (h : laidMetH Tryz.prog laidL W) (k : Nat) (hk : k < laidL.length) : Lib.VarReads Tryz.prog W (laidL[k]).1 (laidL[k]).2 := by
  rw [MakeChecks.laidMetH_plain _ _ _ (by kernel_rfl)] at h
  exact Lib.laidMet.reads h (List.getElem_mem hk)

theorem opt_of {W : World} (h : laidMetH Tryz.prog laidL W) : W.cell? ⟨5, 0, none⟩ = some (.bool true) := by
  obtain ⟨g, t, cs, f, p, hg, ht, hv, hd⟩ := laid_at h 4 (by decide)
  obtain rfl : g = 5 := Option.some.inj (hg.symm.trans (show _ = some 5 by kernel_rfl))
  obtain rfl : t = 4 := Option.some.inj (ht.symm.trans (show _ = some 4 by kernel_rfl))
  obtain ⟨b, e1, e2⟩ := DataW.trod_bool Tryz.underlying4 hd
  have e3 : (DataW.lit (.bool true) : DataW Unit) = .lit (.bool b) := congrArg Prod.fst e2
  have hb : b = true := by
    injection e3 with e4
    injection e4 with e5
    exact e5.symm
  have hc : cs = #[.bool true] := by
    apply Array.ext'
    rw [e1, hb]
  have := World.var?_cell hg hv 0
  rw [this, hc]
  rfl

set_option maxRecDepth 1000000 in
theorem ten_of {W : World} (h : laidMetH Tryz.prog laidL W) : W.cell? ⟨4, 7, none⟩ = some (.int .u64 10000000) := by
  obtain ⟨g, t, cs, f, p, hg, ht, hv, hd⟩ := laid_at h 8 (by decide)
  obtain rfl : g = 4 := Option.some.inj (hg.symm.trans (show _ = some 4 by kernel_rfl))
  obtain rfl : t = 152 := Option.some.inj (ht.symm.trans (show _ = some 152 by kernel_rfl))
  obtain ⟨xs, m1, rfl, hx1, hlen, hn3, hel⟩ := DataW.trod_array Tryz.underlying152 hd
  have hk' := hel 7 (by decide)
  rw [cells66, Nat.mul_one] at hk'
  have hx : 7 < xs.length := by rw [hn3]; decide
  rw [List.getElem?_eq_getElem hx] at hk'
  obtain ⟨z, e1, e2, _⟩ := DataW.trod_int Tryz.underlying65 hk'
  have hc : cs.toList[7]? = some (.int .u64 z) := by
    have := congrArg (·[0]?) e1
    simpa [List.getElem?_take, List.getElem?_drop] using this
  have hz : z = 10000000 := by
    have hd2 : (xs.map (·.1))[7]? = some (DataW.lit (.int .u64 z)) := by
      rw [List.getElem?_map, List.getElem?_eq_getElem hx, e2]; rfl
    have hl := congrArg Prod.fst hx1
    have hl2 : ∀ ys : List (DataW Unit), (laidL[8]'(by decide)).2 = DataW.agg ys → ys = xs.map (·.1) := by
      intro ys hy
      have h2 : DataW.agg ys = DataW.agg (xs.map (·.1)) := hy.symm.trans hl
      injection h2
    rw [← hl2 _ rfl] at hd2
    have h3 : some (DataW.lit (.int .u64 10000000) : DataW Unit) = some (DataW.lit (.int .u64 z)) := hd2
    simp only [Option.some.injEq, DataW.lit.injEq, Lit.int.injEq, true_and] at h3
    exact h3.symm
  have := World.var?_cell hg hv 7
  rw [this]
  rw [hz] at hc
  simpa using hc

theorem rows_len : Go.Pinned.pow10Rows.length = 696 := by kernel_rfl
theorem rows_at (j : Nat) (hj : j < 77) : Go.Pinned.pow10Rows[317 + j]? = some (hiR j, loR j) := by
  have h : 317 + j < Go.Pinned.pow10Rows.length := by rw [rows_len]; omega
  unfold hiR loR
  rw [List.getD_eq_getElem?_getD, List.getElem?_eq_getElem h]
  rfl

set_option maxRecDepth 1000000 in
theorem pow_of {W : World} (h : laidMetH Tryz.prog laidL W) : TabR W := fun q hq => by
  obtain ⟨g, t, cs, f, p, hg, ht, hv, hd⟩ := laid_at h 13 (by decide)
  obtain rfl : g = 15 := Option.some.inj (hg.symm.trans (show _ = some 15 by kernel_rfl))
  obtain rfl : t = 228 := Option.some.inj (ht.symm.trans (show _ = some 228 by kernel_rfl))
  obtain ⟨xs, m1, rfl, hx1, hlen, hn3, hel⟩ := DataW.trod_array Tryz.underlying228 hd
  have hk' := hel (317 + q) (by omega)
  rw [cells207] at hk'
  have hx : 317 + q < xs.length := by rw [hn3]; omega
  rw [List.getElem?_eq_getElem hx] at hk'
  obtain ⟨y0, y1, n, e0, _, h0, h1⟩ := trod_struct2 Tryz.underlying227 hk'
  have c66 := cells66
  simp only [c66] at h0 h1
  obtain ⟨z0, a0, b0, _⟩ := DataW.trod_int Tryz.underlying65 h0
  obtain ⟨z1, a1, b1, _⟩ := DataW.trod_int Tryz.underlying65 h1
  have hc0 : cs.toList[(317 + q) * 2]? = some (.int .u64 z0) := by
    have := congrArg (·[0]?) a0
    simpa [List.getElem?_take, List.getElem?_drop] using this
  have hc1 : cs.toList[(317 + q) * 2 + 1]? = some (.int .u64 z1) := by
    have := congrArg (·[0]?) a1
    simpa [List.getElem?_take, List.getElem?_drop] using this
  have hd2 : (xs.map (·.1))[317 + q]? = some (.agg [.lit (.int .u64 z0), .lit (.int .u64 z1)]) := by
    rw [List.getElem?_map, List.getElem?_eq_getElem hx, e0, b0, b1]; rfl
  have hl : Go.Pinned.pow10Tab = DataW.agg (xs.map (·.1)) := congrArg Prod.fst hx1
  unfold Go.Pinned.pow10Tab at hl
  injection hl with hl2
  rw [← hl2, List.getElem?_map] at hd2
  rw [rows_at q hq] at hd2
  simp only [Option.map_some, Option.some.injEq, DataW.agg.injEq, List.cons.injEq, DataW.lit.injEq, Lit.int.injEq, true_and, and_true] at hd2
  obtain ⟨q0, q1⟩ := hd2
  have v0 := World.var?_cell hg hv ((317 + q) * 2)
  have v1 := World.var?_cell hg hv ((317 + q) * 2 + 1)
  rw [← q0] at hc0
  rw [← q1] at hc1
  exact ⟨by rw [v0]; simpa using hc0, by rw [v1]; simpa using hc1⟩

/-- the table of whole powers, as the library's functions ask for it -/
theorem tab_of {W : World} (h : laidMetH Tryz.prog laidL W) : Lib.TabIs Tryz.prog W (laidL[8]'(by decide)).1 .u64 Lib.pow10Tab := by
  obtain ⟨g, t, cs, f, p, hg, ht, hv, hd⟩ := laid_at h 8 (by decide)
  obtain rfl : g = 4 := Option.some.inj (hg.symm.trans (show _ = some 4 by kernel_rfl))
  obtain rfl : t = 152 := Option.some.inj (ht.symm.trans (show _ = some 152 by kernel_rfl))
  have hdat : (laidL[8]'(by decide)).2 = Lib.tabData .u64 Lib.pow10Tab := by rfl
  rw [hdat] at hd
  have e := Lib.cells_of_tab Tryz.underlying152 Tryz.underlying65 cells66 (by kernel_rfl) hd
  unfold Lib.TabIs
  rw [hv, ← e]

theorem most_of {W : World} (h : W.ShapedOpen Tryz.prog) : ∃ m, W.cell? ⟨1, 0, none⟩ = some (.int .i64 m) :=
  cell_of_shapedOpen_int (g := 1) (t := 3) (zero := #[.int .i64 0]) h (by decide +kernel) (by kernel_rfl) rfl (by kernel_rfl) (by kernel_rfl) Tryz.underlying3
theorem tabu_of {W : World} (h : laidMetH Tryz.prog laidL W) : TabU W := fun k hk => by
  have h2 := tab_of h
  unfold Lib.TabIs at h2
  have hg : Tryz.prog.globalNamed (laidL[8]'(by decide)).1 = some 4 := by kernel_rfl
  rw [World.var?_cell hg h2 k]
  rw [List.getElem?_toArray, List.getElem?_map]
  unfold Lib.pow10Tab
  rw [List.getElem?_map, List.getElem?_range (by omega)]
  rfl
theorem tabv_of {W : World} (h : laidMetH Tryz.prog laidL W) (hs : W.ShapedOpen Tryz.prog) : TabV W := ⟨⟨pow_of h, tabu_of h, most_of hs⟩, tab_of h⟩
theorem tabx_of {W : World} (h : laidMetH Tryz.prog laidL W) (hs : W.ShapedOpen Tryz.prog) : Tabx W :=
  have hp := pow_of h 31 (by decide)
  have e1 : hiR 31 = 9223372036854775808 := by kernel_rfl
  have e2 : loR 31 = 0 := by kernel_rfl
  ⟨⟨by have := hp.1; rw [e1] at this; exact this, by have := hp.2; rw [e2] at this; exact this, opt_of h⟩, ten_of h, most_of hs⟩

/-- the wrap that hands on the shape and what is laid -/
theorem wrap_laid_shaped {H : Type} {enc : TypeId × Value → H} {a : Assume} {C : Checked} {os : Os} {f : FuncId} {fn : Func} {s : ChangeSpec} {conds : List PathCond} {apart fresh handsOn again : Bool} {X : World → Array Value → Prop}
    (hX : ∀ (w w' : World) (args : Array Value), w.heap = w'.heap → X w args → X w' args)
    (own : ownKnob C.prog.godebug = none) (started : os.Started) (noInit : C.prog.inits.idxOf? f = none) (hfn : C.prog.funcs[f]? = some fn)
    (witness : ∃ (w : World) (tape : Tape) (i : Input), w.os = os ∧ (w.forCall tape i).Shaped C.prog ∧ i.vars = [] ∧ Input.okWide C.prog (w.forCall tape i) .any w.heap.size f i ∧
      ((s.pre enc C.prog fn conds apart (w.forCall tape i).memory i.args ∧ X (w.forCall tape i).memory i.args) ∧ sizedMet enc C.prog fn (OpenSpec.ofChange s) apart (w.forCall tape i).memory i.args) ∧ a.holds C.prog (lone (Frame.enter C.prog f i.args .normal) [] (w.forCall tape i)))
    (contract : ∀ (W : World) (base : Nat) (args : Array Value) (ds gs : List (DataW H)) (before : List MemPlace),
      (∀ (j : Nat) t v, fn.params[j]? = some t → args[j]? = some v → Value.okWide C.prog W .any base t v) →
      DataW.Whole enc C.prog fn.params.toList s.vars apart W args.toList ds gs before →
      X W args → W.ShapedOpen C.prog →
      Calls C.prog f args W fun e W' => ∃ v, e = .returned v ∧ s.post enc C.prog fn apart fresh handsOn again W args v W') :
    ReturnsInHanded a C os f .any (fun w args => (s.pre enc C.prog fn conds apart w args ∧ X w args) ∧ sizedMet enc C.prog fn (OpenSpec.ofChange s) apart w args) (s.post enc C.prog fn apart fresh handsOn again) := by
  refine returnsInHanded_of_calls own started noInit witness ?_
  intro w tape i _ hsh _ hok hpre hholds
  obtain ⟨_, _, _, fn', hfn', _, _, _, _, hval⟩ := hok
  have e : fn' = fn := Option.some.inj (hfn'.symm.trans hfn)
  subst e
  obtain ⟨⟨⟨ds, gs, before, hw, hc⟩, hx⟩, hz⟩ := hpre
  have hw' := DataW.Whole.of_heap (w' := w.forCall tape i) (by rfl) hw
  refine (contract (w.forCall tape i) w.heap.size i.args ds gs before hval hw' (hX _ _ _ (by rfl) hx) hsh).mono fun e W' ⟨v, he, hp⟩ => ?_
  subst he
  exact ChangeSpec.post_blind hp
end Go.Proofs.YtnljpbpphdhnpaaGreatDoor


