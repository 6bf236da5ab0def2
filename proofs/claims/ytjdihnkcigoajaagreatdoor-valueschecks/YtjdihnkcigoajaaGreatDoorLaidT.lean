/- Where the listed tables read as they are listed, the library's tables lie in memory, as far as they are read here. -/
import Derived.Test.YtjdihnkcigoajaaGreatDoorTxQ
import Derived.Deep.Slices
import Derived.Test.YtjdihnkcigoajaaGreatDoorRows
import Derived.ProofKit
import Derived.LaidMore
import Derived.OpenShut
import Derived.Stop.Joined
import Derived.Lib.LaidU8
import Derived.Shelf.Vars
import Derived.SizedLaws
import Derived.Lay
namespace Go.Proofs.YtjdihnkcigoajaaGreatDoor
open Go.ChangeShapes Go.WideShapes Go.ChangeAt Go.RowKit

abbrev laidL : List (String × DataW Unit) := Rows.valuesChecksRow.laid

theorem cells66 : Tryz.prog.cellsOf 52 = 1 := by kernel_rfl
theorem cells207 : Tryz.prog.cellsOf 199 = 2 := by kernel_rfl

theorem laid_at {W : World} (h : laidMetH Tryz.prog laidL W) (k : Nat) (hk : k < laidL.length) : Lib.VarReads Tryz.prog W (laidL[k]).1 (laidL[k]).2 := by
  rw [MakeChecks.laidMetH_plain _ _ _ (by kernel_rfl)] at h
  exact Lib.laidMet.reads h (List.getElem_mem hk)

theorem rows_len : Go.Pinned.pow10Rows.length = 696 := by kernel_rfl
theorem rows_at (j : Nat) (hj : j < 77) : Go.Pinned.pow10Rows[317 + j]? = some (hiR j, loR j) := by
  have h : 317 + j < Go.Pinned.pow10Rows.length := by rw [rows_len]; omega
  unfold hiR loR
  rw [List.getD_eq_getElem?_getD, List.getElem?_eq_getElem h]
  rfl

set_option maxRecDepth 1000000 in
theorem pow_of {W : World} (h : laidMetH Tryz.prog laidL W) : TabR W := fun q hq => by
  obtain ⟨g, t, cs, f, p, hg, ht, hv, hd⟩ := laid_at h 8 (by decide)
  obtain rfl : g = 10 := Option.some.inj (hg.symm.trans (show _ = some 10 by kernel_rfl))
  obtain rfl : t = 200 := Option.some.inj (ht.symm.trans (show _ = some 200 by kernel_rfl))
  obtain ⟨xs, m1, rfl, hx1, hlen, hn3, hel⟩ := DataW.trod_array Tryz.underlying200 hd
  have hk' := hel (317 + q) (by omega)
  rw [cells207] at hk'
  have hx : 317 + q < xs.length := by rw [hn3]; omega
  rw [List.getElem?_eq_getElem hx] at hk'
  obtain ⟨y0, y1, n, e0, _, h0, h1⟩ := trod_struct2 Tryz.underlying199 hk'
  have c66 := cells66
  simp only [c66] at h0 h1
  obtain ⟨z0, a0, b0, _⟩ := DataW.trod_int Tryz.underlying52 h0
  obtain ⟨z1, a1, b1, _⟩ := DataW.trod_int Tryz.underlying52 h1
  have hc0 : cs.toList[(317 + q) * 2]? = some (.int .u64 z0) := by
    have := congrArg (·[0]?) a0
    simpa [List.getElem?_take, List.getElem?_drop] using this
  have hc1 : cs.toList[(317 + q) * 2 + 1]? = some (.int .u64 z1) := by
    have := congrArg (·[0]?) a1
    simpa [List.getElem?_take, List.getElem?_drop] using this
  have hd2 : (xs.map (·.1))[317 + q]? = some (.agg [.lit (.int .u64 z0), .lit (.int .u64 z1)]) := by
    rw [List.getElem?_map, List.getElem?_eq_getElem hx, e0, b0, b1]; rfl
  have hl : Go.Pinned.pow10Tab = DataW.agg (xs.map (·.1)) := congrArg Prod.fst hx1
  unfold Go.Pinned.pow10Tab at hl
  injection hl with hl2
  rw [← hl2, List.getElem?_map] at hd2
  rw [rows_at q hq] at hd2
  simp only [Option.map_some, Option.some.injEq, DataW.agg.injEq, List.cons.injEq, DataW.lit.injEq, Lit.int.injEq, true_and, and_true] at hd2
  obtain ⟨q0, q1⟩ := hd2
  have v0 := World.var?_cell hg hv ((317 + q) * 2)
  have v1 := World.var?_cell hg hv ((317 + q) * 2 + 1)
  rw [← q0] at hc0
  rw [← q1] at hc1
  exact ⟨by rw [v0]; simpa using hc0, by rw [v1]; simpa using hc1⟩

/-- the table of whole powers, as the library's functions ask for it -/
theorem tab_of {W : World} (h : laidMetH Tryz.prog laidL W) : Lib.TabIs Tryz.prog W (laidL[3]'(by decide)).1 .u64 Lib.pow10Tab := by
  obtain ⟨g, t, cs, f, p, hg, ht, hv, hd⟩ := laid_at h 3 (by decide)
  obtain rfl : g = 1 := Option.some.inj (hg.symm.trans (show _ = some 1 by kernel_rfl))
  obtain rfl : t = 111 := Option.some.inj (ht.symm.trans (show _ = some 111 by kernel_rfl))
  have hdat : (laidL[3]'(by decide)).2 = Lib.tabData .u64 Lib.pow10Tab := by rfl
  rw [hdat] at hd
  have e := Lib.cells_of_tab Tryz.underlying111 Tryz.underlying52 cells66 (by kernel_rfl) hd
  unfold Lib.TabIs
  rw [hv, ← e]

theorem most_of {W : World} (h : W.ShapedOpen Tryz.prog) : ∃ m, W.cell? ⟨4, 0, none⟩ = some (.int .i64 m) :=
  cell_of_shapedOpen_int (g := 4) (t := 3) (zero := #[.int .i64 0]) h (by decide +kernel) (by kernel_rfl) rfl (by kernel_rfl) (by kernel_rfl) Tryz.underlying3
theorem tabu_of {W : World} (h : laidMetH Tryz.prog laidL W) : TabU W := fun k hk => by
  have h2 := tab_of h
  unfold Lib.TabIs at h2
  have hg : Tryz.prog.globalNamed (laidL[3]'(by decide)).1 = some 1 := by kernel_rfl
  rw [World.var?_cell hg h2 k]
  rw [List.getElem?_toArray, List.getElem?_map]
  unfold Lib.pow10Tab
  rw [List.getElem?_map, List.getElem?_range (by omega)]
  rfl
theorem tabv_of {W : World} (h : laidMetH Tryz.prog laidL W) (hs : W.ShapedOpen Tryz.prog) : TabV W := ⟨⟨pow_of h, tabu_of h, most_of hs⟩, tab_of h⟩
/-- the wrap that hands on the shape, what is laid and how great the arguments are -/
theorem wrap_laid_shaped_sized {H : Type} {enc : TypeId × Value → H} {a : Assume} {C : Checked} {os : Os} {f : FuncId} {fn : Func} {s : ChangeSpec} {conds : List PathCond} {apart fresh handsOn again : Bool} {X : World → Array Value → Prop}
    (hX : ∀ (w w' : World) (args : Array Value), w.heap = w'.heap → X w args → X w' args)
    (own : ownKnob C.prog.godebug = none) (started : os.Started) (noInit : C.prog.inits.idxOf? f = none) (hfn : C.prog.funcs[f]? = some fn)
    (witness : ∃ (w : World) (tape : Tape) (i : Input), w.os = os ∧ (w.forCall tape i).Shaped C.prog ∧ i.vars = [] ∧ Input.okWide C.prog (w.forCall tape i) .any w.heap.size f i ∧
      ((s.pre enc C.prog fn conds apart (w.forCall tape i).memory i.args ∧ X (w.forCall tape i).memory i.args) ∧ sizedMet enc C.prog fn (OpenSpec.ofChange s) apart (w.forCall tape i).memory i.args) ∧ a.holds C.prog (lone (Frame.enter C.prog f i.args .normal) [] (w.forCall tape i)))
    (contract : ∀ (W : World) (base : Nat) (args : Array Value) (ds gs : List (DataW H)) (before : List MemPlace),
      (∀ (j : Nat) t v, fn.params[j]? = some t → args[j]? = some v → Value.okWide C.prog W .any base t v) →
      DataW.Whole enc C.prog fn.params.toList s.vars apart W args.toList ds gs before →
      X W args → W.ShapedOpen C.prog → (DataW.weightsEach C.prog (fn.params.toList ++ s.plain.varTypes C.prog) (ds ++ gs)).all (· ≤ reachBytes) = true →
      Calls C.prog f args W fun e W' => ∃ v, e = .returned v ∧ s.post enc C.prog fn apart fresh handsOn again W args v W') :
    ReturnsInHanded a C os f .any (fun w args => (s.pre enc C.prog fn conds apart w args ∧ X w args) ∧ sizedMet enc C.prog fn (OpenSpec.ofChange s) apart w args) (s.post enc C.prog fn apart fresh handsOn again) := by
  refine returnsInHanded_of_calls own started noInit witness ?_
  intro w tape i _ hsh _ hok hpre hholds
  obtain ⟨_, _, _, fn', hfn', _, _, _, _, hval⟩ := hok
  have e : fn' = fn := Option.some.inj (hfn'.symm.trans hfn)
  subst e
  obtain ⟨⟨⟨ds, gs, before, hw, hc⟩, hx⟩, hz⟩ := hpre
  have hw' := DataW.Whole.of_heap (w' := w.forCall tape i) (by rfl) hw
  refine (contract (w.forCall tape i) w.heap.size i.args ds gs before hval hw' (hX _ _ _ (by rfl) hx) hsh (hz.weights hw)).mono fun e W' ⟨v, he, hp⟩ => ?_
  subst he
  exact ChangeSpec.post_blind hp
end Go.Proofs.YtjdihnkcigoajaaGreatDoor



