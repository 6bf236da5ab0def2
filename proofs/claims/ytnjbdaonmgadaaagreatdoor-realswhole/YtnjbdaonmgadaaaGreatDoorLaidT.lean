/- Where the listed tables read as they are listed, the library's tables lie in memory, as far as they are read here. -/
import Derived.Test.YtnjbdaonmgadaaaGreatDoorWhP
import Derived.Deep.Slices
import Derived.Test.YtnjbdaonmgadaaaGreatDoorRows
import Derived.ProofKit
import Derived.LaidMore
import Derived.OpenShut
import Derived.Stop.Joined
import Derived.Lib.LaidU8
import Derived.Shelf.Vars
import Derived.SizedLaws
import Derived.Lay
namespace Go.Proofs.YtnjbdaonmgadaaaGreatDoor
open Go.ChangeShapes Go.WideShapes Go.ChangeAt Go.RowKit

abbrev laidL : List (String × DataW Unit) := Rows.realsWholeRow.laid

theorem cells66 : Tryz.prog.cellsOf 66 = 1 := by kernel_rfl
theorem cells207 : Tryz.prog.cellsOf 207 = 2 := by kernel_rfl

theorem laid_at {W : World} (h : laidMetH Tryz.prog laidL W) (k : Nat) (hk : k < laidL.length) : Lib.VarReads Tryz.prog W (laidL[k]).1 (laidL[k]).2 := by
  rw [MakeChecks.laidMetH_plain _ _ _ (by kernel_rfl)] at h
  exact Lib.laidMet.reads h (List.getElem_mem hk)

theorem opt_of {W : World} (h : laidMetH Tryz.prog laidL W) : W.cell? ⟨10, 0, none⟩ = some (.bool true) := by
  obtain ⟨g, t, cs, f, p, hg, ht, hv, hd⟩ := laid_at h 4 (by decide)
  obtain rfl : g = 10 := Option.some.inj (hg.symm.trans (show _ = some 10 by kernel_rfl))
  obtain rfl : t = 4 := Option.some.inj (ht.symm.trans (show _ = some 4 by kernel_rfl))
  obtain ⟨b, e1, e2⟩ := DataW.trod_bool Tryz.underlying4 hd
  have e3 : (DataW.lit (.bool true) : DataW Unit) = .lit (.bool b) := congrArg Prod.fst e2
  have hb : b = true := by
    injection e3 with e4
    injection e4 with e5
    exact e5.symm
  have hc : cs = #[.bool true] := by
    apply Array.ext'
    rw [e1, hb]
  have := World.var?_cell hg hv 0
  rw [this, hc]
  rfl

set_option maxRecDepth 1000000 in
theorem ten_of {W : World} (h : laidMetH Tryz.prog laidL W) : W.cell? ⟨1, 7, none⟩ = some (.int .u64 10000000) := by
  obtain ⟨g, t, cs, f, p, hg, ht, hv, hd⟩ := laid_at h 8 (by decide)
  obtain rfl : g = 1 := Option.some.inj (hg.symm.trans (show _ = some 1 by kernel_rfl))
  obtain rfl : t = 88 := Option.some.inj (ht.symm.trans (show _ = some 88 by kernel_rfl))
  obtain ⟨xs, m1, rfl, hx1, hlen, hn3, hel⟩ := DataW.trod_array Tryz.underlying88 hd
  have hk' := hel 7 (by decide)
  rw [cells66, Nat.mul_one] at hk'
  have hx : 7 < xs.length := by rw [hn3]; decide
  rw [List.getElem?_eq_getElem hx] at hk'
  obtain ⟨z, e1, e2, _⟩ := DataW.trod_int Tryz.underlying66 hk'
  have hc : cs.toList[7]? = some (.int .u64 z) := by
    have := congrArg (·[0]?) e1
    simpa [List.getElem?_take, List.getElem?_drop] using this
  have hz : z = 10000000 := by
    have hd2 : (xs.map (·.1))[7]? = some (DataW.lit (.int .u64 z)) := by
      rw [List.getElem?_map, List.getElem?_eq_getElem hx, e2]; rfl
    have hl := congrArg Prod.fst hx1
    have hl2 : ∀ ys : List (DataW Unit), (laidL[8]'(by decide)).2 = DataW.agg ys → ys = xs.map (·.1) := by
      intro ys hy
      have h2 : DataW.agg ys = DataW.agg (xs.map (·.1)) := hy.symm.trans hl
      injection h2
    rw [← hl2 _ rfl] at hd2
    have h3 : some (DataW.lit (.int .u64 10000000) : DataW Unit) = some (DataW.lit (.int .u64 z)) := hd2
    simp only [Option.some.injEq, DataW.lit.injEq, Lit.int.injEq, true_and] at h3
    exact h3.symm
  have := World.var?_cell hg hv 7
  rw [this]
  rw [hz] at hc
  simpa using hc

theorem rows_at : ∀ p, p ≤ 18 → Go.Pinned.pow10Rows[348 + p]? = some ((hiP p : Nat), 0) := by
  have h : (List.range 19).all (fun p => Go.Pinned.pow10Rows[348 + p]? == some ((hiP p : Nat), 0)) = true := by kernel_rfl
  intro p hp
  have := List.all_eq_true.1 h p (List.mem_range.2 (by omega))
  simpa using this

set_option maxRecDepth 1000000 in
theorem pow_of {W : World} (h : laidMetH Tryz.prog laidL W) (q : Nat) (hq : q ≤ 18) : TabP W q := by
  obtain ⟨g, t, cs, f, p, hg, ht, hv, hd⟩ := laid_at h 13 (by decide)
  obtain rfl : g = 15 := Option.some.inj (hg.symm.trans (show _ = some 15 by kernel_rfl))
  obtain rfl : t = 208 := Option.some.inj (ht.symm.trans (show _ = some 208 by kernel_rfl))
  obtain ⟨xs, m1, rfl, hx1, hlen, hn3, hel⟩ := DataW.trod_array Tryz.underlying208 hd
  have hk' := hel (348 + q) (by omega)
  rw [cells207] at hk'
  have hx : 348 + q < xs.length := by rw [hn3]; omega
  rw [List.getElem?_eq_getElem hx] at hk'
  obtain ⟨y0, y1, n, e0, _, h0, h1⟩ := trod_struct2 Tryz.underlying207 hk'
  have c66 := cells66
  simp only [c66] at h0 h1
  obtain ⟨z0, a0, b0, _⟩ := DataW.trod_int Tryz.underlying66 h0
  obtain ⟨z1, a1, b1, _⟩ := DataW.trod_int Tryz.underlying66 h1
  have hc0 : cs.toList[(348 + q) * 2]? = some (.int .u64 z0) := by
    have := congrArg (·[0]?) a0
    simpa [List.getElem?_take, List.getElem?_drop] using this
  have hc1 : cs.toList[(348 + q) * 2 + 1]? = some (.int .u64 z1) := by
    have := congrArg (·[0]?) a1
    simpa [List.getElem?_take, List.getElem?_drop] using this
  have hd2 : (xs.map (·.1))[348 + q]? = some (.agg [.lit (.int .u64 z0), .lit (.int .u64 z1)]) := by
    rw [List.getElem?_map, List.getElem?_eq_getElem hx, e0, b0, b1]; rfl
  have hl : Go.Pinned.pow10Tab = DataW.agg (xs.map (·.1)) := congrArg Prod.fst hx1
  unfold Go.Pinned.pow10Tab at hl
  injection hl with hl2
  rw [← hl2, List.getElem?_map] at hd2
  rw [rows_at q hq] at hd2
  simp only [Option.map_some, Option.some.injEq, DataW.agg.injEq, List.cons.injEq, DataW.lit.injEq, Lit.int.injEq, true_and, and_true] at hd2
  obtain ⟨q0, q1⟩ := hd2
  have v0 := World.var?_cell hg hv ((348 + q) * 2)
  have v1 := World.var?_cell hg hv ((348 + q) * 2 + 1)
  rw [← q0] at hc0
  rw [← q1] at hc1
  exact ⟨by rw [v0]; simpa using hc0, by rw [v1]; simpa using hc1⟩

theorem cells23 : Tryz.prog.cellsOf 23 = 1 := by kernel_rfl
theorem ten_bits : [1065353216, 1092616192, 1120403456, 1148846080, 1176256512, 1203982336, 1232348160, 1259902592, 1287568416, 1315859240, 1343554297] = (List.range 11).map (fun k => fromI ((10 ^ k : Nat) : Int)) := by decide
set_option maxRecDepth 1000000 in
theorem flo_of {W : World} (h : laidMetH Tryz.prog laidL W) : TabF W := by
  obtain ⟨g, t, cs, f, p, hg, ht, hv, hd⟩ := laid_at h 7 (by decide)
  obtain rfl : g = 12 := Option.some.inj (hg.symm.trans (show _ = some 12 by kernel_rfl))
  obtain rfl : t = 187 := Option.some.inj (ht.symm.trans (show _ = some 187 by kernel_rfl))
  have hdat : (laidL[7]'(by decide)).2 = (DataW.slice (((List.range 11).map (fun k => fromI ((10 ^ k : Nat) : Int))).map (fun b => (DataW.lit (.float .f32 b) : DataW Unit))) [] : DataW Unit) := by
    rw [← ten_bits]; rfl
  rw [hdat] at hd
  rcases Go.Deep.open_slice1 Tryz.underlying187 cells23 hd with ⟨_, hx⟩ | ⟨a, len, cap, m, n, V, Dd, Pl, hcs, _, hl, hm, hmm, hx, hel⟩
  · have := congrArg Prod.fst hx
    cases this
  · have hx1 := congrArg Prod.fst hx
    simp only [DataW.slice.injEq] at hx1
    obtain ⟨y1, y2⟩ := hx1
    have hlen : len = 11 := by
      have := congrArg List.length y1
      simpa using this.symm
    subst hlen
    simp only [if_true] at hmm
    subst hmm
    obtain ⟨b, off, spot⟩ := a
    have hspot : spot = none := by
      have h5 := (hel 0 (by omega)).1
      have := World.cell?_spot h5
      simpa [Addr.add] using this
    subst hspot
    have hc0 := World.var?_cell hg hv 0
    refine ⟨b, off, m, ?_, fun k hk => ?_⟩
    · rw [hc0]
      have : cs.toList[0]? = some (.slice (some ⟨b, off, none⟩) 11 m) := by rw [hcs]; rfl
      simpa using this
    · obtain ⟨h6, h7⟩ := hel k (by omega)
      have hD : Dd k = .lit (.float .f32 (fromI ((10 ^ k : Nat) : Int))) := by
        have := congrArg (·[k]?) y1
        simpa [show k < 11 by omega] using this.symm
      rw [hD] at h7
      have hV : V k = .float .f32 (fromI ((10 ^ k : Nat) : Int)) := by
        generalize fromI ((10 ^ k : Nat) : Int) = z at *
        cases n with
        | zero => simp [DataW.trod] at h7
        | succ n =>
          unfold DataW.trod at h7
          rw [Tryz.underlying23] at h7
          split at h7 <;> simp_all
      rw [← hV]
      have e : (⟨b, off + k, none⟩ : Addr) = (⟨b, off, none⟩ : Addr).add k := by simp [Addr.add]
      rw [e]
      exact h6

/-- the table of whole powers, as the library's functions ask for it -/
theorem tab_of {W : World} (h : laidMetH Tryz.prog laidL W) : Lib.TabIs Tryz.prog W (laidL[8]'(by decide)).1 .u64 Lib.pow10Tab := by
  obtain ⟨g, t, cs, f, p, hg, ht, hv, hd⟩ := laid_at h 8 (by decide)
  obtain rfl : g = 1 := Option.some.inj (hg.symm.trans (show _ = some 1 by kernel_rfl))
  obtain rfl : t = 88 := Option.some.inj (ht.symm.trans (show _ = some 88 by kernel_rfl))
  have hdat : (laidL[8]'(by decide)).2 = Lib.tabData .u64 Lib.pow10Tab := by rfl
  rw [hdat] at hd
  have e := Lib.cells_of_tab Tryz.underlying88 Tryz.underlying66 cells66 (by kernel_rfl) hd
  unfold Lib.TabIs
  rw [hv, ← e]

theorem most_of {W : World} (h : W.ShapedOpen Tryz.prog) : ∃ m, W.cell? ⟨2, 0, none⟩ = some (.int .i64 m) :=
  cell_of_shapedOpen_int (g := 2) (t := 3) (zero := #[.int .i64 0]) h (by decide +kernel) (by kernel_rfl) rfl (by kernel_rfl) (by kernel_rfl) Tryz.underlying3

theorem tabx_of {W : World} (h : laidMetH Tryz.prog laidL W) (hs : W.ShapedOpen Tryz.prog) : Tabx W :=
  ⟨⟨(pow_of h 0 (by decide)).hi, (pow_of h 0 (by decide)).lo, opt_of h⟩, ten_of h, most_of hs⟩
theorem taba_of {W : World} (h : laidMetH Tryz.prog laidL W) : TabA W := ⟨pow_of h, flo_of h, opt_of h⟩

/-- the wrap that hands on the shape and what is laid -/
theorem wrap_laid_shaped {H : Type} {enc : TypeId × Value → H} {a : Assume} {C : Checked} {os : Os} {f : FuncId} {fn : Func} {s : ChangeSpec} {conds : List PathCond} {apart fresh handsOn again : Bool} {X : World → Array Value → Prop}
    (hX : ∀ (w w' : World) (args : Array Value), w.heap = w'.heap → X w args → X w' args)
    (own : ownKnob C.prog.godebug = none) (started : os.Started) (noInit : C.prog.inits.idxOf? f = none) (hfn : C.prog.funcs[f]? = some fn)
    (witness : ∃ (w : World) (tape : Tape) (i : Input), w.os = os ∧ (w.forCall tape i).Shaped C.prog ∧ i.vars = [] ∧ Input.okWide C.prog (w.forCall tape i) .any w.heap.size f i ∧
      ((s.pre enc C.prog fn conds apart (w.forCall tape i).memory i.args ∧ X (w.forCall tape i).memory i.args) ∧ sizedMet enc C.prog fn (OpenSpec.ofChange s) apart (w.forCall tape i).memory i.args) ∧ a.holds C.prog (lone (Frame.enter C.prog f i.args .normal) [] (w.forCall tape i)))
    (contract : ∀ (W : World) (base : Nat) (args : Array Value) (ds gs : List (DataW H)) (before : List MemPlace),
      (∀ (j : Nat) t v, fn.params[j]? = some t → args[j]? = some v → Value.okWide C.prog W .any base t v) →
      DataW.Whole enc C.prog fn.params.toList s.vars apart W args.toList ds gs before →
      X W args → W.ShapedOpen C.prog →
      Calls C.prog f args W fun e W' => ∃ v, e = .returned v ∧ s.post enc C.prog fn apart fresh handsOn again W args v W') :
    ReturnsInHanded a C os f .any (fun w args => (s.pre enc C.prog fn conds apart w args ∧ X w args) ∧ sizedMet enc C.prog fn (OpenSpec.ofChange s) apart w args) (s.post enc C.prog fn apart fresh handsOn again) := by
  refine returnsInHanded_of_calls own started noInit witness ?_
  intro w tape i _ hsh _ hok hpre hholds
  obtain ⟨_, _, _, fn', hfn', _, _, _, _, hval⟩ := hok
  have e : fn' = fn := Option.some.inj (hfn'.symm.trans hfn)
  subst e
  obtain ⟨⟨⟨ds, gs, before, hw, hc⟩, hx⟩, hz⟩ := hpre
  have hw' := DataW.Whole.of_heap (w' := w.forCall tape i) (by rfl) hw
  refine (contract (w.forCall tape i) w.heap.size i.args ds gs before hval hw' (hX _ _ _ (by rfl) hx) hsh).mono fun e W' ⟨v, he, hp⟩ => ?_
  subst he
  exact ChangeSpec.post_blind hp
end Go.Proofs.YtnjbdaonmgadaaaGreatDoor

