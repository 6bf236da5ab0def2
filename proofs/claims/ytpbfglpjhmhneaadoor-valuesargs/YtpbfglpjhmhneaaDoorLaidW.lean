/- Where the listed table of words reads as it is listed, it lies in memory word by word. -/
import Derived.Test.YtpbfglpjhmhneaaDoorSaA
import Derived.ProofKit
import Derived.LaidMore
import Derived.OpenShut
import Derived.Stop.Joined
namespace Go.Proofs.YtpbfglpjhmhneaaDoor
open Go.ChangeShapes Go.WideShapes Go.ChangeAt Go.RowKit

theorem cells9w : Tryd.prog.cellsOf 9 = 1 := by kernel_rfl
theorem door_met (os : Os) (args : Array Value) : laidMetH Tryd.prog Rows.valuesArgsRow.laid ((World.doorLaid Tryd.prog 400 os).forCall (fun _ _ => 0) ⟨#[], args, []⟩).memory :=
  laidMetH_of_parts3 (fuel := 8) (laidMet_of_run' 8 (by kernel_rfl) (by kernel_rfl)) (by kernel_rfl) (by kernel_rfl)

theorem words_of_laid {W : World} (h : laidMetH Tryd.prog Rows.valuesArgsRow.laid W) : Words W := by
  rw [MakeChecks.laidMetH_plain _ _ _ (by kernel_rfl)] at h
  obtain ⟨ps, ⟨g0, t0, cs0, f0, p0, q0, hg0, ht0, hv0, hd0, _, _⟩, _, _⟩ := h
  obtain rfl : g0 = 0 := Option.some.inj (hg0.symm.trans (show _ = some 0 by kernel_rfl))
  obtain rfl : t0 = 73 := Option.some.inj (ht0.symm.trans (show _ = some 73 by kernel_rfl))
  obtain ⟨xs, m1, rfl, hx1, hlen, hn3, hel⟩ := DataW.trod_array Tryd.underlying73 hd0
  intro k hk
  have hk' := hel k hk
  rw [cells9w, Nat.mul_one] at hk'
  have hx : k < xs.length := by rw [hn3]; exact hk
  rw [List.getElem?_eq_getElem hx] at hk'
  obtain ⟨s, e1, e2, _⟩ := DataW.trod_string Tryd.underlying9 hk'
  have hc : cs0.toList[k]? = some (.string s) := by
    have := congrArg (·[0]?) e1
    simpa [List.getElem?_take, List.getElem?_drop] using this
  have hcell := World.var?_cell hg0 hv0 k
  have hw : s.data.toList = wordAt k := by
    have hd : (xs.map (·.1))[k]? = some (DataW.lit (.string s.data.toList)) := by
      rw [List.getElem?_map, List.getElem?_eq_getElem hx, e2]; rfl
    have hl := congrArg Prod.fst hx1
    have hl2 : wordsL.map (fun l => (DataW.lit (.string l) : DataW Unit)) = xs.map (·.1) := by
      have h2 : (DataW.agg (wordsL.map (fun l => (DataW.lit (.string l) : DataW Unit))) : DataW Unit) = DataW.agg (xs.map (·.1)) := hl
      injection h2
    rw [← hl2, List.getElem?_map] at hd
    have hkw : k < wordsL.length := hk
    rw [List.getElem?_eq_getElem hkw] at hd
    simp only [Option.map_some, Option.some.injEq, DataW.lit.injEq, Lit.string.injEq] at hd
    rw [← hd]
    unfold wordAt
    rw [List.getD_eq_getElem?_getD, List.getElem?_eq_getElem hkw]; rfl
  rw [hcell]
  have : cs0[k]? = some (.string s) := by simpa using hc
  rw [this]
  congr 2
  exact (toList_ba s).symm.trans (congrArg ba (by rw [ByteArray.toList_eq]; exact hw))
end Go.Proofs.YtpbfglpjhmhneaaDoor
