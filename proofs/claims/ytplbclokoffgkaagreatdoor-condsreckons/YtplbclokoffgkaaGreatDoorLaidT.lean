/- Where the listed tables read as they are listed, they lie in memory as the walks ask. -/
import Derived.Test.YtplbclokoffgkaaGreatDoorCdF
import Derived.Deep.Slices
import Derived.Deep.Strs
import Derived.Test.YtplbclokoffgkaaGreatDoorRows
import Derived.ProofKit
import Derived.LaidMore
import Derived.OpenShut
import Derived.Stop.Joined
import Derived.Lib.LaidU8
import Derived.Shelf.Vars
import Derived.SizedLaws
import Derived.Lay
namespace Go.Proofs.YtplbclokoffgkaaGreatDoor
open Go.ChangeShapes Go.WideShapes Go.ChangeAt Go.RowKit

theorem cells9 : Tryz.prog.cellsOf 9 = 1 := by kernel_rfl
theorem cells3 : Tryz.prog.cellsOf 3 = 1 := by kernel_rfl
theorem cells181 : Tryz.prog.cellsOf 181 = 1 := by kernel_rfl
theorem cells193 : Tryz.prog.cellsOf 193 = 3 := by kernel_rfl

theorem laid_at {W : World} (h : laidMetH Tryz.prog laidN W) (k : Nat) (hk : k < laidN.length) : Lib.VarReads Tryz.prog W (laidN[k]).1 (laidN[k]).2 := by
  rw [MakeChecks.laidMetH_plain _ _ _ (by kernel_rfl)] at h
  exact Lib.laidMet.reads h (List.getElem_mem hk)
theorem ba_ext {s : ByteArray} {l : List UInt8} (h : s.data.toList = l) : s = ⟨l.toArray⟩ := by
  cases s with
  | mk d => simp at h; subst h; simp
def kindsL : List (List UInt8) := [[], [98, 111, 111, 108], [105, 110, 116], [114, 101, 97, 108], [116, 101, 120, 116], [116, 101, 120, 116, 115]]
theorem kinds_at : ∀ k : Nat, 1 ≤ k → k ≤ 5 → kindsL[k]? = some (kindS (k : Int)).data.toList := by
  have h : (List.range 5).all (fun k => kindsL[k + 1]? == some (kindS ((k + 1 : Nat) : Int)).data.toList) = true := by kernel_rfl
  intro k h1 h2
  have := List.all_eq_true.1 h (k - 1) (List.mem_range.2 (by omega))
  rw [show k - 1 + 1 = k by omega] at this
  simpa using this
theorem kinds_of {W : World} (h : laidMetH Tryz.prog laidN W) (k : Nat) (h1 : 1 ≤ k) (h5 : k ≤ 5) : W.cell? ⟨0, k, none⟩ = some (.string (kindS (k : Int))) := by
  obtain ⟨g, t, cs, f, p, hg, ht, hv, hd⟩ := laid_at h 9 (by decide)
  obtain rfl : g = 0 := Option.some.inj (hg.symm.trans (show _ = some 0 by kernel_rfl))
  obtain rfl : t = 128 := Option.some.inj (ht.symm.trans (show _ = some 128 by kernel_rfl))
  obtain ⟨xs, m1, rfl, hx1, hlen, hn3, hel⟩ := DataW.trod_array Tryz.underlying128 hd
  have hk' := hel k (by omega)
  rw [cells9, Nat.mul_one] at hk'
  have hx : k < xs.length := by rw [hn3]; omega
  rw [List.getElem?_eq_getElem hx] at hk'
  obtain ⟨s, e1, e2, _⟩ := DataW.trod_string Tryz.underlying9 hk'
  have hc : cs.toList[k]? = some (.string s) := by
    have := congrArg (·[0]?) e1
    simpa [List.getElem?_take, List.getElem?_drop] using this
  have hw : s.data.toList = (kindS (k : Int)).data.toList := by
    have hd2 : (xs.map (·.1))[k]? = some (DataW.lit (.string s.data.toList)) := by
      rw [List.getElem?_map, List.getElem?_eq_getElem hx, e2]; rfl
    have hl := congrArg Prod.fst hx1
    have hl2 : kindsL.map (fun l => (DataW.lit (.string l) : DataW Unit)) = xs.map (·.1) := by
      have h2 : (DataW.agg (kindsL.map (fun l => (DataW.lit (.string l) : DataW Unit))) : DataW Unit) = DataW.agg (xs.map (·.1)) := hl
      injection h2
    rw [← hl2, List.getElem?_map, kinds_at k h1 h5] at hd2
    simp only [Option.map_some, Option.some.injEq, DataW.lit.injEq, Lit.string.injEq] at hd2
    exact hd2.symm
  have hcell := World.var?_cell hg hv k
  rw [hcell]
  have : cs[k]? = some (.string s) := by simpa using hc
  rw [this, ba_ext hw]
def opsL : List (Int × Int × List UInt8) := [(0, 0, []), (8, 0, []), (8, 0, []), (7, 1, [45]), (3, 1, [110, 111, 116]), (6, 2, [42]), (6, 2, [47]), (5, 2, [43]), (5, 2, [45]), (4, 2, [61, 61]), (4, 2, [33, 61]), (4, 2, [60]), (4, 2, [60, 61]), (4, 2, [62]), (4, 2, [62, 61]), (4, 2, [105, 110]), (2, 2, [97, 110, 100]), (1, 2, [111, 114])]
theorem ops_at : ∀ k : Nat, 1 ≤ k → k ≤ 17 → opsL[k]? = some (rankN (k : Int), madeN (k : Int), (signN (k : Int)).data.toList) := by
  have h : (List.range 17).all (fun k => opsL[k + 1]? == some (rankN ((k + 1 : Nat) : Int), madeN ((k + 1 : Nat) : Int), (signN ((k + 1 : Nat) : Int)).data.toList)) = true := by kernel_rfl
  intro k h1 h2
  have := List.all_eq_true.1 h (k - 1) (List.mem_range.2 (by omega))
  rw [show k - 1 + 1 = k by omega] at this
  simpa using this
set_option maxRecDepth 1000000 in
theorem ops_of {W : World} (h : laidMetH Tryz.prog laidN W) (k : Nat) (h1 : 1 ≤ k) (h17 : k ≤ 17) : W.cell? ⟨1, k * 3, none⟩ = some (.int .i64 (rankN (k : Int))) ∧ W.cell? ⟨1, k * 3 + 1, none⟩ = some (.int .i64 (madeN (k : Int))) ∧ W.cell? ⟨1, k * 3 + 2, none⟩ = some (.string (signN (k : Int))) := by
  obtain ⟨g, t, cs, f, p, hg, ht, hv, hd⟩ := laid_at h 7 (by decide)
  obtain rfl : g = 1 := Option.some.inj (hg.symm.trans (show _ = some 1 by kernel_rfl))
  obtain rfl : t = 194 := Option.some.inj (ht.symm.trans (show _ = some 194 by kernel_rfl))
  obtain ⟨xs, m1, rfl, hx1, hlen, hn3, hel⟩ := DataW.trod_array Tryz.underlying194 hd
  have hk' := hel k (by omega)
  rw [cells193] at hk'
  have hx : k < xs.length := by rw [hn3]; omega
  rw [List.getElem?_eq_getElem hx] at hk'
  obtain ⟨y0, y1, y2, n, e0, _, t0, t1, t2⟩ := Deep.trod_struct3 Tryz.underlying193 hk'
  have c3 := cells3
  have c9 := cells9
  simp only [c3, c9] at t0 t1 t2
  obtain ⟨z0, a0, b0, _⟩ := DataW.trod_int Tryz.underlying3 t0
  obtain ⟨z1, a1, b1, _⟩ := DataW.trod_int Tryz.underlying3 t1
  obtain ⟨z2, a2, b2, _⟩ := DataW.trod_string Tryz.underlying9 t2
  have hc0 : cs.toList[k * 3]? = some (.int .i64 z0) := by
    have := congrArg (·[0]?) a0
    simpa [List.getElem?_take, List.getElem?_drop] using this
  have hc1 : cs.toList[k * 3 + 1]? = some (.int .i64 z1) := by
    have := congrArg (·[0]?) a1
    simpa [List.getElem?_take, List.getElem?_drop] using this
  have hc2 : cs.toList[k * 3 + 2]? = some (.string z2) := by
    have := congrArg (·[0]?) a2
    simpa [List.getElem?_take, List.getElem?_drop] using this
  have hd2 : (xs.map (·.1))[k]? = some (.agg [.lit (.int .i64 z0), .lit (.int .i64 z1), .lit (.string z2.data.toList)]) := by
    rw [List.getElem?_map, List.getElem?_eq_getElem hx, e0, b0, b1, b2]; rfl
  have hl := congrArg Prod.fst hx1
  have hl2 : opsL.map (fun o => (DataW.agg [.lit (.int .i64 o.1), .lit (.int .i64 o.2.1), .lit (.string o.2.2)] : DataW Unit)) = xs.map (·.1) := by
    have h2 : (DataW.agg (opsL.map (fun o => (DataW.agg [.lit (.int .i64 o.1), .lit (.int .i64 o.2.1), .lit (.string o.2.2)] : DataW Unit))) : DataW Unit) = DataW.agg (xs.map (·.1)) := hl
    injection h2
  rw [← hl2, List.getElem?_map, ops_at k h1 h17] at hd2
  simp only [Option.map_some, Option.some.injEq, DataW.agg.injEq, List.cons.injEq, DataW.lit.injEq, Lit.int.injEq, Lit.string.injEq, true_and, and_true] at hd2
  obtain ⟨q0, q1, q2⟩ := hd2
  have v0 := World.var?_cell hg hv (k * 3)
  have v1 := World.var?_cell hg hv (k * 3 + 1)
  have v2 := World.var?_cell hg hv (k * 3 + 2)
  rw [← q0] at hc0
  rw [← q1] at hc1
  rw [ba_ext q2.symm] at hc2
  exact ⟨by rw [v0]; simpa using hc0, by rw [v1]; simpa using hc1, by rw [v2]; simpa using hc2⟩
theorem pow_of {W : World} (h : laidMetH Tryz.prog laidN W) : Lib.TabIs Tryz.prog W powN .u64 Lib.pow10Tab := by
  obtain ⟨g, t, cs, f, p, hg, ht, hv, hd⟩ := laid_at h 3 (by decide)
  obtain rfl : g = 5 := Option.some.inj (hg.symm.trans (show _ = some 5 by kernel_rfl))
  obtain rfl : t = 246 := Option.some.inj (ht.symm.trans (show _ = some 246 by kernel_rfl))
  have hdat : (laidN[3]'(by decide)).2 = Lib.tabData .u64 Lib.pow10Tab := by rfl
  rw [hdat] at hd
  have e := Lib.cells_of_tab Tryz.underlying246 Tryz.underlying181 cells181 (by kernel_rfl) hd
  unfold Lib.TabIs
  rw [hv, ← e]
theorem big_of {W : World} (h : laidMetH Tryz.prog laidN W) : 15 ≤ W.heap.size := by
  obtain ⟨g, t, cs, f, p, hg, ht, hv, hd⟩ := laid_at h 10 (by decide)
  obtain rfl : g = 14 := Option.some.inj (hg.symm.trans (show _ = some 14 by kernel_rfl))
  unfold World.var? at hv
  rw [hg] at hv
  simp only [Option.bind_some] at hv
  rcases Nat.lt_or_ge 14 W.heap.size with h1 | h1
  · omega
  · rw [Array.getElem?_eq_none h1] at hv
    cases hv
theorem tb_of {W : World} (h : laidMetH Tryz.prog laidN W) : Tb W :=
  ⟨fun k h1 h2 => (ops_of h k h1 h2).2.1, fun k h1 h2 => (ops_of h k h1 h2).1, fun k h1 h2 => (ops_of h k h1 h2).2.2, fun k h1 h2 => kinds_of h k h1 h2, big_of h, pow_of h⟩

/-- the wrap that hands on the shape and what is laid -/
theorem wrap_laid_shaped {H : Type} {enc : TypeId × Value → H} {a : Assume} {C : Checked} {os : Os} {f : FuncId} {fn : Func} {s : ChangeSpec} {conds : List PathCond} {apart fresh handsOn again : Bool} {X : World → Array Value → Prop}
    (hX : ∀ (w w' : World) (args : Array Value), w.heap = w'.heap → X w args → X w' args)
    (own : ownKnob C.prog.godebug = none) (started : os.Started) (noInit : C.prog.inits.idxOf? f = none) (hfn : C.prog.funcs[f]? = some fn)
    (witness : ∃ (w : World) (tape : Tape) (i : Input), w.os = os ∧ (w.forCall tape i).Shaped C.prog ∧ i.vars = [] ∧ Input.okWide C.prog (w.forCall tape i) .any w.heap.size f i ∧
      ((s.pre enc C.prog fn conds apart (w.forCall tape i).memory i.args ∧ X (w.forCall tape i).memory i.args) ∧ sizedMet enc C.prog fn (OpenSpec.ofChange s) apart (w.forCall tape i).memory i.args) ∧ a.holds C.prog (lone (Frame.enter C.prog f i.args .normal) [] (w.forCall tape i)))
    (contract : ∀ (W : World) (base : Nat) (args : Array Value) (ds gs : List (DataW H)) (before : List MemPlace),
      (∀ (j : Nat) t v, fn.params[j]? = some t → args[j]? = some v → Value.okWide C.prog W .any base t v) →
      DataW.Whole enc C.prog fn.params.toList s.vars apart W args.toList ds gs before →
      X W args → W.ShapedOpen C.prog →
      Calls C.prog f args W fun e W' => ∃ v, e = .returned v ∧ s.post enc C.prog fn apart fresh handsOn again W args v W') :
    ReturnsInHanded a C os f .any (fun w args => (s.pre enc C.prog fn conds apart w args ∧ X w args) ∧ sizedMet enc C.prog fn (OpenSpec.ofChange s) apart w args) (s.post enc C.prog fn apart fresh handsOn again) := by
  refine returnsInHanded_of_calls own started noInit witness ?_
  intro w tape i _ hsh _ hok hpre hholds
  obtain ⟨_, _, _, fn', hfn', _, _, _, _, hval⟩ := hok
  have e : fn' = fn := Option.some.inj (hfn'.symm.trans hfn)
  subst e
  obtain ⟨⟨⟨ds, gs, before, hw, hc⟩, hx⟩, hz⟩ := hpre
  have hw' := DataW.Whole.of_heap (w' := w.forCall tape i) (by rfl) hw
  refine (contract (w.forCall tape i) w.heap.size i.args ds gs before hval hw' (hX _ _ _ (by rfl) hx) hsh).mono fun e W' ⟨v, he, hp⟩ => ?_
  subst he
  exact ChangeSpec.post_blind hp
end Go.Proofs.YtplbclokoffgkaaGreatDoor
