/- ValuesChecks: for every value the call returns true (Check says whether it may be; its literal and its bytes are the document's, or both are refused with the same error; what was lent is as it was), and the argument reads as it did; no condition. The library's tables are tied to the program's text by the given tie. -/
import Derived.Test.YtjdihnkcigoajaaGreatDoorValB
import Derived.Test.YtjdihnkcigoajaaGreatDoorValB
import Derived.Test.YtjdihnkcigoajaaGreatDoorValB
import Derived.Test.YtjdihnkcigoajaaGreatDoorLaidT
import Derived.Test.YtjdihnkcigoajaaGreatDoorTie
import Derived.Test.YtjdihnkcigoajaaGreatDoorCards
import Derived.SevenTiedAt
import Derived.ProofKit
import Derived.OpenShut
import Derived.ShutString
import Derived.ChangeOld
import Derived.SizedLaws
import Derived.Lib.SmallJoins
import Derived.Laws.Cover2
import Derived.Lay
namespace Go.Proofs.YtjdihnkcigoajaaGreatDoor

theorem checks_law (x : VD) (hx : x.Ok) (u : Value) (w : World) (hu : Ts w u x.texts) (hl : x.texts.length ≤ 8796093021952) (hT : TabV w) :
    Calls Tryz.prog 3 #[x.val u] w fun e w' => e = .returned (.bool true) ∧ Keep [] w w' := by
  cases hm : x.mayB
  · exact checks_no x hx hm u w hu hl hT
  · exact checks_yes x hx hm u w hu hl hT
namespace valuesChecksDone
open Go.ChangeShapes Go.WideShapes Go.ChangeAt Go.RowKit Go.Joins

theorem own : ownKnob Tryz.prog.godebug = none := by kernel_rfl

set_option maxRecDepth 100000 in
theorem lifted (os : Os) (started : os.Started) (H : Type) (enc : TypeId × Value → H) :
    ReturnsInHanded {} Tryz.checked os 3 .any (fun w args => (Rows.valuesChecksSpec.pre enc Tryz.prog Tryz.f3 [] false w args ∧ laidMetH Tryz.prog Rows.valuesChecksRow.laid w) ∧ sizedMet enc Tryz.prog Tryz.f3 (OpenSpec.ofChange Rows.valuesChecksSpec) false w args)
      (Rows.valuesChecksSpec.post enc Tryz.prog Tryz.f3 false true false false) := by
  refine wrap_laid_shaped_sized (C := Tryz.checked) (X := fun w _ => laidMetH Tryz.prog Rows.valuesChecksRow.laid w) (fun _ _ _ hh h => h.of_heap hh) own started (by kernel_rfl) Tryz.func3
    (ChangeSpec.witness_shaped (enc := enc) (C := Tryz.checked) (os := os) (X := fun w _ => laidMetH Tryz.prog Rows.valuesChecksRow.laid w) false (World.laidAll Tryz.prog os Rows.valuesChecksRow.laid) #[.agg #[.int .i64 0, .bool false, .int .i64 0, .float .f32 0, .string ByteArray.empty, .slice none 0 0]] 8 (World.laidAll_os _ _ _)
      (World.shaped_of_ZipB (by kernel_rfl) (by kernel_rfl)) (by kernel_rfl) (by kernel_rfl) (by kernel_rfl)
      (by rw [MakeChecks.laidMetH_plain _ _ _ (by kernel_rfl)]; exact laidMet_laidAll _ (by kernel_rfl) (by kernel_rfl))) ?_
  intro W base args ds gs before hval0 hW hL hsh hsz0
  have hval : ∀ (j : Nat) t v, Tryz.f3.params[j]? = some t → args[j]? = some v → Value.okWide Tryz.prog W .any base t v := hval0
  have hsz : (DataW.weightsEach Tryz.prog (Tryz.f3.params.toList ++ Rows.valuesChecksSpec.plain.varTypes Tryz.prog) (ds ++ gs)).all (· ≤ reachBytes) = true := hsz0
  clear hsz0
  have hW' := hW
  obtain ⟨p, q, hA0, hV, rfl, hfz, hnd⟩ := hW
  have hA : DataW.TrodAll enc Tryz.prog W 0 (fun _ => true) true Tryz.f3.params.toList args.toList ds p := hA0
  rw [Tryz.params3] at hA hval hsz
  obtain ⟨v0, vs0, d0, ds0, p0, q0, hargs0, rfl, rfl, h0, r0⟩ := trodAll_cons hA
  obtain ⟨rfl, rfl, rfl⟩ := trodAll_nil r0
  obtain rfl : args = #[v0] := by cases args; simp_all
  obtain ⟨rfl, rfl⟩ := trodVars_none hV
  obtain ⟨x0, u0, e0, ok0, ts0⟩ := open_value (hval 0 25 v0 rfl rfl) h0
  clear hA0 hval0
  simp only [List.append_nil] at hW'
  have hlt0 : ∀ x ∈ p0, x.block < W.heap.size := fun x hx => by simpa using hW'.lt x (by simp [hx])
  have ha0 : ∀ (W' : World), Below W.heap.size W W' → DataW.Trod enc Tryz.prog W' 0 (fun b => decide (b < W.heap.size)) true 25 v0 d0 p0 :=
    fun W' hn => Below.trod laidOut (by kernel_rfl) (of_decide_eq_true (by kernel_rfl)) h0 hn hlt0
  have wt0 : ∀ n ∈ d0.weights Tryz.prog 25, n ≤ 140737488351232 := fun n hn => by
    have h1 := List.all_eq_true.1 hsz n (DataW.weights_mem_each (j := 0) (t := 25) (d := d0) rfl rfl n hn)
    have h2 : n ≤ reachBytes := of_decide_eq_true h1
    exact h2
  subst e0
  have l0 := value_weight h0 ts0 wt0
  refine (checks_law x0 ok0 u0 W ts0 (by omega) (tabv_of hL hsh)).mono fun e W' ⟨he, kp⟩ => ?_
  have bel := kp.below
  subst he
  exact ⟨_, rfl, _, _, _, [], _, [], hW', trodAll_mk1 (shut_bool Tryz.underlying4 _), (trodAll_cons_mk (ha0 _ bel) trodAll_mk0), rfl, bel.frame _, fun h => by cases h⟩

end valuesChecksDone

theorem valuesChecks_row : Rows.ValuesChecksSaid :=
  OpenClaim.holds_of_wide 3 Tryz.f3 rfl rfl rfl rfl rfl rfl rfl ⟨rfl, rfl, rfl, rfl, rfl⟩ rfl rfl rfl rfl rfl (by kernel_rfl) Tryz.func3 (by kernel_rfl)
    (of_decide_eq_true (by kernel_rfl)) (by unfold Func.isWrapper; first | (rw [if_pos (by decide +kernel)]; kernel_rfl) | (rw [if_neg (by decide +kernel)]; exact ⟨rfl, rfl⟩))
    (fun os started H enc _ => valuesChecksDone.lifted os started H enc)

theorem valuesChecks_proved : Rows.ValuesChecksCardSaid :=
  Claim7.holds_tied_plain_at .later [] [.data, .data, .data, .data, .data, .sentinel, .sentinel, .pinned, .pinned, .pinned] true (true, "ec20652efb9f33be8ce7dc51634be1d1063b9b5168713312c2037998eaa271d3") true
    valuesChecks_row (fun _ h => by cases h) (by kernel_rfl) (fun _ h => by cases h) valuesChecks_row_tie rfl ⟨rfl, rfl⟩ (by kernel_rfl) rfl
    (fun f fn hf hfn => by
      obtain rfl : f = 3 := Option.some.inj (hf.symm.trans (show _ = some 3 by kernel_rfl))
      obtain rfl : fn = Tryz.f3 := (Option.some.inj (Tryz.func3.symm.trans hfn)).symm
      exact ⟨by kernel_rfl, fun j t ht => by
        rw [Tryz.params3] at ht
        have hm : t ∈ [25] := by simpa using Array.mem_of_getElem? ht
        have hall : ([25].all fun u => !Tryz.prog.wantsStandIn u) = true := by kernel_rfl
        exact (show Tryz.prog.wantsStandIn t = false by simpa using List.all_eq_true.1 hall t hm)⟩)
    (by kernel_rfl)
#print axioms valuesChecks_proved
end Go.Proofs.YtjdihnkcigoajaaGreatDoor
