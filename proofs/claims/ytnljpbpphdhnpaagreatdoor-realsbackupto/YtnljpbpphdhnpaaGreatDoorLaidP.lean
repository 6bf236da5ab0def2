/- Where the listed tables read as they are listed, the library's tables lie in memory, as far as they are read here. -/
import Derived.Test.YtnljpbpphdhnpaaGreatDoorAwK
import Derived.Test.YtnljpbpphdhnpaaGreatDoorTxQ
import Derived.Deep.Slices
import Derived.Test.YtnljpbpphdhnpaaGreatDoorRows
import Derived.ProofKit
import Derived.LaidMore
import Derived.OpenShut
import Derived.Stop.Joined
import Derived.Lib.LaidU8
import Derived.Shelf.Vars
import Derived.SizedLaws
import Derived.Lay
import Derived.Test.YtnljpbpphdhnpaaGreatDoorDecP
import Derived.Test.YtnljpbpphdhnpaaGreatDoorDecR
import Derived.Test.YtnljpbpphdhnpaaGreatDoorRdJ
import Derived.Deep.Strs
import Derived.DataReads

namespace Go.Proofs.YtnljpbpphdhnpaaGreatDoor
open Go.ChangeShapes Go.WideShapes Go.ChangeAt Go.RowKit

abbrev laidL : List (String × DataW Unit) := Rows.realsTextsRow.laid

theorem cells66 : Tryz.prog.cellsOf 65 = 1 := by kernel_rfl
theorem cells207 : Tryz.prog.cellsOf 227 = 2 := by kernel_rfl

theorem laid_at {W : World} (h : laidMetH Tryz.prog laidL W) (k : Nat) (hk : k < laidL.length) : Lib.VarReads Tryz.prog W (laidL[k]).1 (laidL[k]).2 := by
  rw [MakeChecks.laidMetH_plain _ _ _ (by kernel_rfl)] at h
  exact Lib.laidMet.reads h (List.getElem_mem hk)

theorem opt_of {W : World} (h : laidMetH Tryz.prog laidL W) : W.cell? ⟨5, 0, none⟩ = some (.bool true) := by
  obtain ⟨g, t, cs, f, p, hg, ht, hv, hd⟩ := laid_at h 4 (by decide)
  obtain rfl : g = 5 := Option.some.inj (hg.symm.trans (show _ = some 5 by kernel_rfl))
  obtain rfl : t = 4 := Option.some.inj (ht.symm.trans (show _ = some 4 by kernel_rfl))
  obtain ⟨b, e1, e2⟩ := DataW.trod_bool Tryz.underlying4 hd
  have e3 : (DataW.lit (.bool true) : DataW Unit) = .lit (.bool b) := congrArg Prod.fst e2
  have hb : b = true := by
    injection e3 with e4
    injection e4 with e5
    exact e5.symm
  have hc : cs = #[.bool true] := by
    apply Array.ext'
    rw [e1, hb]
  have := World.var?_cell hg hv 0
  rw [this, hc]
  rfl

set_option maxRecDepth 1000000 in
theorem ten_of {W : World} (h : laidMetH Tryz.prog laidL W) : W.cell? ⟨4, 7, none⟩ = some (.int .u64 10000000) := by
  obtain ⟨g, t, cs, f, p, hg, ht, hv, hd⟩ := laid_at h 8 (by decide)
  obtain rfl : g = 4 := Option.some.inj (hg.symm.trans (show _ = some 4 by kernel_rfl))
  obtain rfl : t = 152 := Option.some.inj (ht.symm.trans (show _ = some 152 by kernel_rfl))
  obtain ⟨xs, m1, rfl, hx1, hlen, hn3, hel⟩ := DataW.trod_array Tryz.underlying152 hd
  have hk' := hel 7 (by decide)
  rw [cells66, Nat.mul_one] at hk'
  have hx : 7 < xs.length := by rw [hn3]; decide
  rw [List.getElem?_eq_getElem hx] at hk'
  obtain ⟨z, e1, e2, _⟩ := DataW.trod_int Tryz.underlying65 hk'
  have hc : cs.toList[7]? = some (.int .u64 z) := by
    have := congrArg (·[0]?) e1
    simpa [List.getElem?_take, List.getElem?_drop] using this
  have hz : z = 10000000 := by
    have hd2 : (xs.map (·.1))[7]? = some (DataW.lit (.int .u64 z)) := by
      rw [List.getElem?_map, List.getElem?_eq_getElem hx, e2]; rfl
    have hl := congrArg Prod.fst hx1
    have hl2 : ∀ ys : List (DataW Unit), (laidL[8]'(by decide)).2 = DataW.agg ys → ys = xs.map (·.1) := by
      intro ys hy
      have h2 : DataW.agg ys = DataW.agg (xs.map (·.1)) := hy.symm.trans hl
      injection h2
    rw [← hl2 _ rfl] at hd2
    have h3 : some (DataW.lit (.int .u64 10000000) : DataW Unit) = some (DataW.lit (.int .u64 z)) := hd2
    simp only [Option.some.injEq, DataW.lit.injEq, Lit.int.injEq, true_and] at h3
    exact h3.symm
  have := World.var?_cell hg hv 7
  rw [this]
  rw [hz] at hc
  simpa using hc

theorem rows_len : Go.Pinned.pow10Rows.length = 696 := by kernel_rfl
theorem rows_at (j : Nat) (hj : j < 77) : Go.Pinned.pow10Rows[317 + j]? = some (hiR j, loR j) := by
  have h : 317 + j < Go.Pinned.pow10Rows.length := by rw [rows_len]; omega
  unfold hiR loR
  rw [List.getD_eq_getElem?_getD, List.getElem?_eq_getElem h]
  rfl

set_option maxRecDepth 1000000 in
theorem pow_of {W : World} (h : laidMetH Tryz.prog laidL W) : TabR W := fun q hq => by
  obtain ⟨g, t, cs, f, p, hg, ht, hv, hd⟩ := laid_at h 13 (by decide)
  obtain rfl : g = 15 := Option.some.inj (hg.symm.trans (show _ = some 15 by kernel_rfl))
  obtain rfl : t = 228 := Option.some.inj (ht.symm.trans (show _ = some 228 by kernel_rfl))
  obtain ⟨xs, m1, rfl, hx1, hlen, hn3, hel⟩ := DataW.trod_array Tryz.underlying228 hd
  have hk' := hel (317 + q) (by omega)
  rw [cells207] at hk'
  have hx : 317 + q < xs.length := by rw [hn3]; omega
  rw [List.getElem?_eq_getElem hx] at hk'
  obtain ⟨y0, y1, n, e0, _, h0, h1⟩ := trod_struct2 Tryz.underlying227 hk'
  have c66 := cells66
  simp only [c66] at h0 h1
  obtain ⟨z0, a0, b0, _⟩ := DataW.trod_int Tryz.underlying65 h0
  obtain ⟨z1, a1, b1, _⟩ := DataW.trod_int Tryz.underlying65 h1
  have hc0 : cs.toList[(317 + q) * 2]? = some (.int .u64 z0) := by
    have := congrArg (·[0]?) a0
    simpa [List.getElem?_take, List.getElem?_drop] using this
  have hc1 : cs.toList[(317 + q) * 2 + 1]? = some (.int .u64 z1) := by
    have := congrArg (·[0]?) a1
    simpa [List.getElem?_take, List.getElem?_drop] using this
  have hd2 : (xs.map (·.1))[317 + q]? = some (.agg [.lit (.int .u64 z0), .lit (.int .u64 z1)]) := by
    rw [List.getElem?_map, List.getElem?_eq_getElem hx, e0, b0, b1]; rfl
  have hl : Go.Pinned.pow10Tab = DataW.agg (xs.map (·.1)) := congrArg Prod.fst hx1
  unfold Go.Pinned.pow10Tab at hl
  injection hl with hl2
  rw [← hl2, List.getElem?_map] at hd2
  rw [rows_at q hq] at hd2
  simp only [Option.map_some, Option.some.injEq, DataW.agg.injEq, List.cons.injEq, DataW.lit.injEq, Lit.int.injEq, true_and, and_true] at hd2
  obtain ⟨q0, q1⟩ := hd2
  have v0 := World.var?_cell hg hv ((317 + q) * 2)
  have v1 := World.var?_cell hg hv ((317 + q) * 2 + 1)
  rw [← q0] at hc0
  rw [← q1] at hc1
  exact ⟨by rw [v0]; simpa using hc0, by rw [v1]; simpa using hc1⟩

/-- the table of whole powers, as the library's functions ask for it -/
theorem tab_of {W : World} (h : laidMetH Tryz.prog laidL W) : Lib.TabIs Tryz.prog W (laidL[8]'(by decide)).1 .u64 Lib.pow10Tab := by
  obtain ⟨g, t, cs, f, p, hg, ht, hv, hd⟩ := laid_at h 8 (by decide)
  obtain rfl : g = 4 := Option.some.inj (hg.symm.trans (show _ = some 4 by kernel_rfl))
  obtain rfl : t = 152 := Option.some.inj (ht.symm.trans (show _ = some 152 by kernel_rfl))
  have hdat : (laidL[8]'(by decide)).2 = Lib.tabData .u64 Lib.pow10Tab := by rfl
  rw [hdat] at hd
  have e := Lib.cells_of_tab Tryz.underlying152 Tryz.underlying65 cells66 (by kernel_rfl) hd
  unfold Lib.TabIs
  rw [hv, ← e]

theorem most_of {W : World} (h : W.ShapedOpen Tryz.prog) : ∃ m, W.cell? ⟨1, 0, none⟩ = some (.int .i64 m) :=
  cell_of_shapedOpen_int (g := 1) (t := 3) (zero := #[.int .i64 0]) h (by decide +kernel) (by kernel_rfl) rfl (by kernel_rfl) (by kernel_rfl) Tryz.underlying3
theorem tabu_of {W : World} (h : laidMetH Tryz.prog laidL W) : TabU W := fun k hk => by
  have h2 := tab_of h
  unfold Lib.TabIs at h2
  have hg : Tryz.prog.globalNamed (laidL[8]'(by decide)).1 = some 4 := by kernel_rfl
  rw [World.var?_cell hg h2 k]
  rw [List.getElem?_toArray, List.getElem?_map]
  unfold Lib.pow10Tab
  rw [List.getElem?_map, List.getElem?_range (by omega)]
  rfl
theorem tabv_of {W : World} (h : laidMetH Tryz.prog laidL W) (hs : W.ShapedOpen Tryz.prog) : TabV W := ⟨⟨pow_of h, tabu_of h, most_of hs⟩, tab_of h⟩
theorem tabx_of {W : World} (h : laidMetH Tryz.prog laidL W) (hs : W.ShapedOpen Tryz.prog) : Tabx W :=
  have hp := pow_of h 31 (by decide)
  have e1 : hiR 31 = 9223372036854775808 := by kernel_rfl
  have e2 : loR 31 = 0 := by kernel_rfl
  ⟨⟨by have := hp.1; rw [e1] at this; exact this, by have := hp.2; rw [e2] at this; exact this, opt_of h⟩, ten_of h, most_of hs⟩

/-- the wrap that hands on the shape and what is laid -/
theorem wrap_laid_shaped {H : Type} {enc : TypeId × Value → H} {a : Assume} {C : Checked} {os : Os} {f : FuncId} {fn : Func} {s : ChangeSpec} {conds : List PathCond} {apart fresh handsOn again : Bool} {X : World → Array Value → Prop}
    (hX : ∀ (w w' : World) (args : Array Value), w.heap = w'.heap → X w args → X w' args)
    (own : ownKnob C.prog.godebug = none) (started : os.Started) (noInit : C.prog.inits.idxOf? f = none) (hfn : C.prog.funcs[f]? = some fn)
    (witness : ∃ (w : World) (tape : Tape) (i : Input), w.os = os ∧ (w.forCall tape i).Shaped C.prog ∧ i.vars = [] ∧ Input.okWide C.prog (w.forCall tape i) .any w.heap.size f i ∧
      ((s.pre enc C.prog fn conds apart (w.forCall tape i).memory i.args ∧ X (w.forCall tape i).memory i.args) ∧ sizedMet enc C.prog fn (OpenSpec.ofChange s) apart (w.forCall tape i).memory i.args) ∧ a.holds C.prog (lone (Frame.enter C.prog f i.args .normal) [] (w.forCall tape i)))
    (contract : ∀ (W : World) (base : Nat) (args : Array Value) (ds gs : List (DataW H)) (before : List MemPlace),
      (∀ (j : Nat) t v, fn.params[j]? = some t → args[j]? = some v → Value.okWide C.prog W .any base t v) →
      DataW.Whole enc C.prog fn.params.toList s.vars apart W args.toList ds gs before →
      X W args → W.ShapedOpen C.prog →
      Calls C.prog f args W fun e W' => ∃ v, e = .returned v ∧ s.post enc C.prog fn apart fresh handsOn again W args v W') :
    ReturnsInHanded a C os f .any (fun w args => (s.pre enc C.prog fn conds apart w args ∧ X w args) ∧ sizedMet enc C.prog fn (OpenSpec.ofChange s) apart w args) (s.post enc C.prog fn apart fresh handsOn again) := by
  refine returnsInHanded_of_calls own started noInit witness ?_
  intro w tape i _ hsh _ hok hpre hholds
  obtain ⟨_, _, _, fn', hfn', _, _, _, _, hval⟩ := hok
  have e : fn' = fn := Option.some.inj (hfn'.symm.trans hfn)
  subst e
  obtain ⟨⟨⟨ds, gs, before, hw, hc⟩, hx⟩, hz⟩ := hpre
  have hw' := DataW.Whole.of_heap (w' := w.forCall tape i) (by rfl) hw
  refine (contract (w.forCall tape i) w.heap.size i.args ds gs before hval hw' (hX _ _ _ (by rfl) hx) hsh).mono fun e W' ⟨v, he, hp⟩ => ?_
  subst he
  exact ChangeSpec.post_blind hp
end Go.Proofs.YtnljpbpphdhnpaaGreatDoor



/- Where the listed tables read as they are listed, all that reading a number asks for lies in memory. -/
namespace Go.Proofs.YtnljpbpphdhnpaaGreatDoor
open Go.ChangeShapes Go.WideShapes Go.ChangeAt Go.RowKit

theorem rows_any (i : Nat) (hi : i < 696) : Go.Pinned.pow10Rows[i]? = some ((Go.Pinned.pow10Rows.getD i (0, 0)).1, (Go.Pinned.pow10Rows.getD i (0, 0)).2) := by
  have h : i < Go.Pinned.pow10Rows.length := by rw [rows_len]; exact hi
  rw [List.getD_eq_getElem?_getD, List.getElem?_eq_getElem h]
  rfl
set_option maxRecDepth 1000000 in
theorem powz_of {W : World} (h : laidMetH Tryz.prog laidL W) (i : Nat) (hi : i < 696) : W.cell? ⟨15, i * 2, none⟩ = some (.int .u64 (((Go.Pinned.pow10Rows.getD i (0, 0)).1 : Nat) : Int)) ∧ W.cell? ⟨15, i * 2 + 1, none⟩ = some (.int .u64 (((Go.Pinned.pow10Rows.getD i (0, 0)).2 : Nat) : Int)) := by
  obtain ⟨g, t, cs, f, p, hg, ht, hv, hd⟩ := laid_at h 13 (by decide)
  obtain rfl : g = 15 := Option.some.inj (hg.symm.trans (show _ = some 15 by kernel_rfl))
  obtain rfl : t = 228 := Option.some.inj (ht.symm.trans (show _ = some 228 by kernel_rfl))
  obtain ⟨xs, m1, rfl, hx1, hlen, hn3, hel⟩ := DataW.trod_array Tryz.underlying228 hd
  have hk' := hel i (by omega)
  rw [cells207] at hk'
  have hx : i < xs.length := by rw [hn3]; omega
  rw [List.getElem?_eq_getElem hx] at hk'
  obtain ⟨y0, y1, n, e0, _, h0, h1⟩ := trod_struct2 Tryz.underlying227 hk'
  have c66 := cells66
  simp only [c66] at h0 h1
  obtain ⟨z0, a0, b0, _⟩ := DataW.trod_int Tryz.underlying65 h0
  obtain ⟨z1, a1, b1, _⟩ := DataW.trod_int Tryz.underlying65 h1
  have hc0 : cs.toList[i * 2]? = some (.int .u64 z0) := by
    have := congrArg (·[0]?) a0
    simpa [List.getElem?_take, List.getElem?_drop] using this
  have hc1 : cs.toList[i * 2 + 1]? = some (.int .u64 z1) := by
    have := congrArg (·[0]?) a1
    simpa [List.getElem?_take, List.getElem?_drop] using this
  have hd2 : (xs.map (·.1))[i]? = some (.agg [.lit (.int .u64 z0), .lit (.int .u64 z1)]) := by
    rw [List.getElem?_map, List.getElem?_eq_getElem hx, e0, b0, b1]; rfl
  have hl : Go.Pinned.pow10Tab = DataW.agg (xs.map (·.1)) := congrArg Prod.fst hx1
  unfold Go.Pinned.pow10Tab at hl
  injection hl with hl2
  rw [← hl2, List.getElem?_map, rows_any i hi] at hd2
  simp only [Option.map_some, Option.some.injEq, DataW.agg.injEq, List.cons.injEq, DataW.lit.injEq, Lit.int.injEq, true_and, and_true] at hd2
  obtain ⟨q0, q1⟩ := hd2
  have v0 := World.var?_cell hg hv (i * 2)
  have v1 := World.var?_cell hg hv (i * 2 + 1)
  rw [← q0] at hc0
  rw [← q1] at hc1
  exact ⟨by rw [v0]; simpa using hc0, by rw [v1]; simpa using hc1⟩
theorem tabz_of {W : World} (h : laidMetH Tryz.prog laidL W) (p : Int) (h1 : -70 ≤ p) (h2 : p ≤ 40) : TabZ W p :=
  ⟨(powz_of h (348 + p).toNat (by omega)).1, (powz_of h (348 + p).toNat (by omega)).2⟩

theorem add_pl (b o k : Nat) : (⟨b, o, none⟩ : Addr).add k = ⟨b, o + k, none⟩ := by
  unfold Addr.add
  by_cases h : k = 0
  · subst h; rfl
  · rw [if_neg h]
theorem add_no (a : Addr) : a.add 0 = a := rfl
theorem trod_flt {H : Type} {enc : TypeId × Value → H} {P : Program} {w : World} {base : Nat} {sp : Nat → Bool} {held : Bool} {fuel : Nat} {t : TypeId} {k : FloatKind} {cs : List Value} {x : DataW H × List MemPlace}
    (ht : P.underlying t = some (.float k)) (h : DataW.trod enc P w base sp held fuel t cs = some x) : ∃ n, cs = [.float k n] ∧ x = (.lit (.float k n), []) := by
  cases fuel with
  | zero => simp [DataW.trod] at h
  | succ n =>
    unfold DataW.trod at h
    rw [ht] at h
    split at h <;> simp_all
theorem trod_ifc {H : Type} {enc : TypeId × Value → H} {P : Program} {w : World} {base : Nat} {sp : Nat → Bool} {fuel : Nat} {t : TypeId} {ms : Array (String × TypeId)} {cs : List Value} {x : DataW H × List MemPlace}
    (ht : P.underlying t = some (.interface ms)) (h : DataW.trod enc P w base sp false fuel t cs = some x) : ∃ v, cs = [v] ∧ (v = .nilIface ∨ ∃ te pe, v = .iface te pe) := by
  cases fuel with
  | zero => simp [DataW.trod] at h
  | succ n =>
    unfold DataW.trod at h
    rw [ht] at h
    split at h <;> simp_all
theorem cells22 : Tryz.prog.cellsOf 22 = 1 := by kernel_rfl
theorem cells3 : Tryz.prog.cellsOf 3 = 1 := by kernel_rfl
theorem cells9 : Tryz.prog.cellsOf 9 = 1 := by kernel_rfl
theorem cells92 : Tryz.prog.cellsOf 92 = 1 := by kernel_rfl
theorem cells231 : Tryz.prog.cellsOf 231 = 2 := by kernel_rfl
def t10 : List Nat := [1065353216, 1092616192, 1120403456, 1148846080, 1176256512, 1203982336, 1232348160, 1259902592, 1287568416, 1315859240, 1343554297]
theorem t10_is (k : Nat) (hk : k ≤ 10) : t10[k]? = some (fromI ((10 ^ k : Nat) : Int)) := by
  have : ∀ k, k ≤ 10 → t10[k]? = some (fromI ((10 ^ k : Nat) : Int)) := by decide
  exact this k hk
theorem tabf_of {W : World} (h : laidMetH Tryz.prog laidL W) : TabF W := by
  obtain ⟨g, t, cs, f, p, hg, ht, hv, hd⟩ := laid_at h 7 (by decide)
  obtain rfl : g = 10 := Option.some.inj (hg.symm.trans (show _ = some 10 by kernel_rfl))
  obtain rfl : t = 221 := Option.some.inj (ht.symm.trans (show _ = some 221 by kernel_rfl))
  have hd' : DataW.trod (fun _ => ()) Tryz.prog W 0 (fun _ => true) false f 221 cs.toList = some (.slice (t10.map fun x => .lit (.float .f32 x)) [], p) := hd
  obtain ⟨⟨ab, ao, asp⟩, cap, e1, hle, hel⟩ := open_row Tryz.underlying221 cells22 hd'
  have hc : cs = #[.slice (some ⟨ab, ao, asp⟩) 11 cap] := by apply Array.ext'; rw [e1]; rfl
  obtain rfl : asp = none := by
    obtain ⟨v, n, q, h1, h2⟩ := hel 0 _ (by rw [List.getElem?_map, t10_is 0 (by decide)]; rfl)
    rw [add_no] at h1
    exact Go.Proofs.cell_spot h1
  have hcell : ∀ k, k ≤ 10 → W.cell? ⟨ab, ao + k, none⟩ = some (.float .f32 (fromI ((10 ^ k : Nat) : Int))) := fun k hk => by
    obtain ⟨v, n, q, h1, h2⟩ := hel k (.lit (.float .f32 (fromI ((10 ^ k : Nat) : Int)))) (by rw [List.getElem?_map, t10_is k hk]; rfl)
    obtain ⟨m, h3, h4⟩ := trod_flt Tryz.underlying22 h2
    have h5 : (DataW.lit (.float .f32 (fromI ((10 ^ k : Nat) : Int))) : DataW Unit) = .lit (.float .f32 m) := congrArg Prod.fst h4
    have h6 : fromI ((10 ^ k : Nat) : Int) = m := by
      injection h5 with h5
      injection h5
    have h7 : v = .float .f32 m := by injection h3
    rw [h6, ← h7]
    rw [add_pl] at h1
    exact h1
  refine ⟨ab, ao, cap, ?_, hcell⟩
  have := World.var?_cell hg hv 0
  rw [this, hc]
  rfl
theorem err_of {W : World} (h : laidMetH Tryz.prog laidL W) : ErV W := by
  obtain ⟨g, t, cs, f, p, hg, ht, hv, hd⟩ := laid_at h 10 (by decide)
  obtain rfl : g = 3 := Option.some.inj (hg.symm.trans (show _ = some 3 by kernel_rfl))
  obtain rfl : t = 82 := Option.some.inj (ht.symm.trans (show _ = some 82 by kernel_rfl))
  obtain ⟨v, h1, h2⟩ := trod_ifc Tryz.underlying82 hd
  have hc : cs = #[v] := by apply Array.ext'; rw [h1]
  refine ⟨v, ?_, h2⟩
  have := World.var?_cell hg hv 0
  rw [this, hc]
  rfl
theorem info_of {W : World} (h : laidMetH Tryz.prog laidL W) : W.cell? ⟨8, 0, none⟩ = some (.int .u64 23) ∧ W.cell? ⟨8, 1, none⟩ = some (.int .u64 8) ∧ W.cell? ⟨8, 2, none⟩ = some (.int .i64 (-127)) := by
  obtain ⟨g, t, cs, f, p, hg, ht, hv, hd⟩ := laid_at h 2 (by decide)
  obtain rfl : g = 8 := Option.some.inj (hg.symm.trans (show _ = some 8 by kernel_rfl))
  obtain rfl : t = 188 := Option.some.inj (ht.symm.trans (show _ = some 188 by kernel_rfl))
  obtain ⟨y0, y1, y2, n, e0, _, h0, h1, h2⟩ := Go.Deep.trod_struct3 Tryz.underlying188 hd
  have c92 := cells92
  have c3 := cells3
  simp only [c92, c3] at h0 h1 h2
  obtain ⟨z0, a0, b0, _⟩ := DataW.trod_int Tryz.underlying92 h0
  obtain ⟨z1, a1, b1, _⟩ := DataW.trod_int Tryz.underlying92 h1
  obtain ⟨z2, a2, b2, _⟩ := DataW.trod_int Tryz.underlying3 h2
  have hl : (DataW.agg [.lit (.int .u64 23), .lit (.int .u64 8), .lit (.int .i64 (-127))] : DataW Unit) = .agg [y0.1, y1.1, y2.1] := congrArg Prod.fst e0
  rw [b0, b1, b2] at hl
  simp only [DataW.agg.injEq, List.cons.injEq, DataW.lit.injEq, Lit.int.injEq, true_and, and_true] at hl
  obtain ⟨q0, q1, q2⟩ := hl
  have hc0 : cs.toList[0]? = some (.int .u64 23) := by
    rw [q0]
    have := congrArg (·[0]?) a0
    simpa [List.getElem?_take, List.getElem?_drop] using this
  have hc1 : cs.toList[1]? = some (.int .u64 8) := by
    rw [q1]
    have := congrArg (·[0]?) a1
    simpa [List.getElem?_take, List.getElem?_drop] using this
  have hc2 : cs.toList[2]? = some (.int .i64 (-127)) := by
    rw [q2]
    have := congrArg (·[0]?) a2
    simpa [List.getElem?_take, List.getElem?_drop] using this
  have v0 := World.var?_cell hg hv 0
  have v1 := World.var?_cell hg hv 1
  have v2 := World.var?_cell hg hv 2
  exact ⟨by rw [v0]; simpa using hc0, by rw [v1]; simpa using hc1, by rw [v2]; simpa using hc2⟩
theorem ptab_of {W : World} (h : laidMetH Tryz.prog laidL W) : ∃ pb po pc, W.cell? ⟨11, 0, none⟩ = some (.slice (some ⟨pb, po, none⟩) 9 pc) ∧ ∀ j, j < 9 → W.cell? ⟨pb, po + j, none⟩ = some (.int .i64 (powT j : Nat)) := by
  obtain ⟨g, t, cs, f, p, hg, ht, hv, hd⟩ := laid_at h 5 (by decide)
  obtain rfl : g = 11 := Option.some.inj (hg.symm.trans (show _ = some 11 by kernel_rfl))
  obtain rfl : t = 55 := Option.some.inj (ht.symm.trans (show _ = some 55 by kernel_rfl))
  have hd' : DataW.trod (fun _ => ()) Tryz.prog W 0 (fun _ => true) false f 55 cs.toList = some (.slice ((List.range 9).map fun j => .lit (.int .i64 (powT j : Nat))) [], p) := hd
  obtain ⟨⟨ab, ao, asp⟩, cap, e1, hle, hel⟩ := open_row Tryz.underlying55 cells3 hd'
  have hc : cs = #[.slice (some ⟨ab, ao, asp⟩) 9 cap] := by apply Array.ext'; rw [e1]; rfl
  obtain rfl : asp = none := by
    obtain ⟨v, n, q, h1, h2⟩ := hel 0 _ (by rw [List.getElem?_map, List.getElem?_range (by decide)]; rfl)
    rw [add_no] at h1
    exact Go.Proofs.cell_spot h1
  have hcell : ∀ j, j < 9 → W.cell? ⟨ab, ao + j, none⟩ = some (.int .i64 (powT j : Nat)) := fun j hj => by
    obtain ⟨v, n, q, h1, h2⟩ := hel j (.lit (.int .i64 (powT j : Nat))) (by rw [List.getElem?_map, List.getElem?_range hj]; rfl)
    obtain ⟨m, h3, h4, _⟩ := DataW.trod_int Tryz.underlying3 h2
    have h5 : (DataW.lit (.int .i64 (powT j : Nat)) : DataW Unit) = .lit (.int .i64 m) := congrArg Prod.fst h4
    have h6 : ((powT j : Nat) : Int) = m := by
      injection h5 with h5
      injection h5
    have h7 : v = .int .i64 m := by injection h3
    rw [h6, ← h7]
    rw [add_pl] at h1
    exact h1
  refine ⟨ab, ao, cap, ?_, hcell⟩
  have := World.var?_cell hg hv 0
  rw [this, hc]
  rfl
theorem cheat_at (k : Nat) (hk : k ∈ kS) : k < 61 ∧ Go.Pinned.cheatRows[k]? = some (lcN k, Lib.decDigits (5 ^ k)) := by
  have h : (kS.all fun k => decide (k < 61) && (Go.Pinned.cheatRows[k]? == some (lcN k, Lib.decDigits (5 ^ k)))) = true := by decide +kernel
  have := List.all_eq_true.1 h k hk
  simp only [Bool.and_eq_true, decide_eq_true_eq, beq_iff_eq] at this
  exact this
theorem cheats_len : Go.Pinned.cheatRows.length = 61 := by kernel_rfl
set_option maxRecDepth 1000000 in
theorem cheat_of {W : World} (h : laidMetH Tryz.prog laidL W) : ∃ bb bo bc, W.cell? ⟨16, 0, none⟩ = some (.slice (some ⟨bb, bo, none⟩) 61 bc) ∧ ∀ k, k ∈ kS → W.cell? ⟨bb, bo + k * 2, none⟩ = some (.int .i64 (lcN k : Nat)) ∧ W.cell? ⟨bb, bo + k * 2 + 1, none⟩ = some (.string (lcS k)) := by
  obtain ⟨g, t, cs, f, p, hg, ht, hv, hd⟩ := laid_at h 12 (by decide)
  obtain rfl : g = 16 := Option.some.inj (hg.symm.trans (show _ = some 16 by kernel_rfl))
  obtain rfl : t = 232 := Option.some.inj (ht.symm.trans (show _ = some 232 by kernel_rfl))
  have hd' : DataW.trod (fun _ => ()) Tryz.prog W 0 (fun _ => true) false f 232 cs.toList = some (Go.Pinned.leftcheats, p) := hd
  rcases DataW.trod_slice Tryz.underlying232 hd' with ⟨_, hx⟩ | ⟨⟨ab, ao, asp⟩, len, cap, elems, rest, n, _, hcs, hx, _, hl, _, hlen, hel, _⟩
  · have h1 : Go.Pinned.leftcheats = .nil := congrArg Prod.fst hx
    unfold Go.Pinned.leftcheats at h1
    cases h1
  · have h1 : Go.Pinned.leftcheats = .slice (elems.map (·.1)) (rest.map (·.1)) := congrArg Prod.fst hx
    unfold Go.Pinned.leftcheats at h1
    injection h1 with h2 h3
    have hlen2 : len = 61 := by
      have := congrArg List.length h2
      rw [List.length_map, List.length_map, cheats_len] at this
      omega
    subst hlen2
    have hc : cs = #[.slice (some ⟨ab, ao, asp⟩) 61 cap] := by apply Array.ext'; rw [hcs]
    obtain rfl : asp = none := by
      have hE := hel 0 (by decide)
      have hy : elems[0]? = some (elems[0]'(by omega)) := List.getElem?_eq_getElem _
      rw [hy, cells231, Option.bind_eq_some_iff] at hE
      obtain ⟨c1, hc1, _⟩ := hE
      obtain ⟨_, hcl, hci⟩ := World.cells?_some hc1
      have w0 := hci 0 (by decide)
      rw [Nat.zero_mul, add_no, add_no, List.getElem?_eq_getElem (by omega)] at w0
      exact Go.Proofs.cell_spot w0
    have hcell : ∀ k, k ∈ kS → W.cell? ⟨ab, ao + k * 2, none⟩ = some (.int .i64 (lcN k : Nat)) ∧ W.cell? ⟨ab, ao + k * 2 + 1, none⟩ = some (.string (lcS k)) := fun k hk => by
      obtain ⟨hk61, hrow⟩ := cheat_at k hk
      have hE := hel k hk61
      have hy : elems[k]? = some (elems[k]'(by omega)) := List.getElem?_eq_getElem _
      have hyd : (elems[k]'(by omega)).1 = .agg [.lit (.int .i64 (lcN k : Nat)), .lit (.string (Lib.decDigits (5 ^ k)))] := by
        have h4 := congrArg (fun l => l[k]?) h2
        simp only [List.getElem?_map, hrow, hy, Option.map_some, Option.some.injEq] at h4
        exact h4.symm
      rw [hy, cells231, Option.bind_eq_some_iff] at hE
      obtain ⟨c1, hc1, hy1⟩ := hE
      obtain ⟨_, hcl, hci⟩ := World.cells?_some hc1
      generalize elems[k]'(by omega) = y at *
      obtain ⟨y0, y1, m, e0, _, h5, h6⟩ := trod_struct2 Tryz.underlying231 hy1
      have c3 := cells3
      have c9 := cells9
      simp only [c3, c9] at h5 h6
      obtain ⟨z, a0, b0, _⟩ := DataW.trod_int Tryz.underlying3 h5
      obtain ⟨s, a1, b1, _⟩ := DataW.trod_string Tryz.underlying9 h6
      rw [e0, b0, b1] at hyd
      simp only [DataW.agg.injEq, List.cons.injEq, DataW.lit.injEq, Lit.int.injEq, Lit.string.injEq, true_and, and_true] at hyd
      obtain ⟨q0, q1⟩ := hyd
      have g0 : c1[0]? = some (.int .i64 z) := by
        have := congrArg (·[0]?) a0
        simpa [List.getElem?_take, List.getElem?_drop] using this
      have g1 : c1[1]? = some (.string s) := by
        have := congrArg (·[0]?) a1
        simpa [List.getElem?_take, List.getElem?_drop] using this
      have hs : s = lcS k := by
        apply ByteArray.ext
        apply Array.ext'
        rw [q1]
        rfl
      have w0 := hci 0 (by decide)
      have w1 := hci 1 (by decide)
      rw [g0, q0] at w0
      rw [g1, hs] at w1
      rw [add_pl, add_pl] at w0 w1
      exact ⟨w0, w1⟩
    refine ⟨ab, ao, cap, ?_, hcell⟩
    have := World.var?_cell hg hv 0
    rw [this, hc]
    rfl
theorem tabd_of {W : World} (h : laidMetH Tryz.prog laidL W) (b : Nat) (hb : W.heap.size ≤ b) : TabD W b := by
  obtain ⟨i0, i1, i2⟩ := info_of h
  obtain ⟨pb, po, pc, p1, p2⟩ := ptab_of h
  obtain ⟨bb, bo, bc, c1, c2⟩ := cheat_of h
  have l8 := World.block_lt_of_cell? W _ i0
  have l11 := World.block_lt_of_cell? W _ p1
  have l16 := World.block_lt_of_cell? W _ c1
  have lp := World.block_lt_of_cell? W _ (p2 0 (by decide))
  have lb := World.block_lt_of_cell? W _ (c2 1 (by decide)).1
  simp only at l8 l11 l16 lp lb
  exact ⟨⟨by omega, by omega, by omega⟩, i0, i1, i2, ⟨pb, po, pc, by omega, p1, p2⟩, ⟨bb, bo, bc, by omega, c1, c2⟩⟩
end Go.Proofs.YtnljpbpphdhnpaaGreatDoor
