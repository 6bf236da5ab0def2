/- TokensBegins: for every two texts the call returns true, and the texts read as they did; no condition. -/
import Derived.Test.YtmglbcldjhdhkabBeginsP
namespace Go.Proofs.Ytmglbcldjhdhkab
section
open Go.RowKit Go.PlainAid
theorem begins_law (s t : ByteArray) (w : World) (hs : s.size ≤ 140737488351232) (ht : t.size ≤ 140737488351232) :
    Calls Try.prog 3 #[.string s, .string t] w fun e w' => e = .returned (.bool true) ∧ Keep [] w w' := by
  obtain ⟨a, rfl⟩ : ∃ a, s = ba a := ⟨s.toList, (toList_ba s).symm⟩
  obtain ⟨b, rfl⟩ : ∃ b, t = ba b := ⟨t.toList, (toList_ba t).symm⟩
  rw [ba_size] at hs ht
  by_cases hl : 65536 < a.length
  · exact begins_long a _ w hl hs
  by_cases hb : (runM ⟨0, 0⟩ a).1 < a.length ∨ finM (runM ⟨0, 0⟩ a).2 ≠ []
  · exact begins_bad a b w (by omega) ht hb
  · have h1 : (runM ⟨0, 0⟩ a).1 = a.length := by have := run_len a ⟨0, 0⟩; omega
    have h2 : finM (runM ⟨0, 0⟩ a).2 = [] := by
      by_cases h : finM (runM ⟨0, 0⟩ a).2 = []
      · exact h
      · exact absurd (.inr h) hb
    obtain ⟨ts, hts⟩ := scan_ok (by omega) h1 h2
    exact begins_ok a _ w ts hts (by omega)
end
namespace tokensBeginsDone
open Go.ChangeShapes Go.WideShapes Go.ChangeAt Go.RowKit Go.Joins
open Go.ChangeMaps (open_string shut_string)

theorem own : ownKnob Try.prog.godebug = none := by kernel_rfl

set_option maxRecDepth 100000 in
theorem lifted (os : Os) (started : os.Started) (H : Type) (enc : TypeId × Value → H) :
    ReturnsInHanded {} Try.checked os 3 .any (Rows.tokensBeginsSpec.pre6 enc Try.prog Try.f3 Rows.tokensBeginsRow.domain false) (Rows.tokensBeginsSpec.post enc Try.prog Try.f3 false true false false) := by
  refine returnsInHanded_of_change_sized (C := Try.checked) own started (by kernel_rfl) Try.func3
    (ChangeSpec.witness6 (enc := enc) (C := Try.checked) false ⟨#[], #[.string ByteArray.empty, .string ByteArray.empty], []⟩ 8 (by kernel_rfl) (by kernel_rfl) (by kernel_rfl) (by kernel_rfl)) ?_
  intro W base args ds gs before hval0 hW _ hsz0 _
  have hval : ∀ (j : Nat) t v, Try.f3.params[j]? = some t → args[j]? = some v → Value.okWide Try.prog W .any base t v := hval0
  have hsz : (DataW.weightsEach Try.prog (Try.f3.params.toList ++ Rows.tokensBeginsSpec.plain.varTypes Try.prog) (ds ++ gs)).all (· ≤ reachBytes) = true := hsz0
  clear hsz0
  have hW' := hW
  obtain ⟨p, q, hA0, hV, rfl, hfz, hnd⟩ := hW
  have hA : DataW.TrodAll enc Try.prog W 0 (fun _ => true) true Try.f3.params.toList args.toList ds p := hA0
  rw [Try.params3] at hA hval hsz
  obtain ⟨v0, vs0, d0, ds0, p0, q0, hargs, rfl, rfl, h0, r0⟩ := trodAll_cons hA
  obtain ⟨v1, vs1, d1, ds1, p1, q1, rfl, rfl, rfl, h1, r1⟩ := trodAll_cons r0
  obtain ⟨rfl, rfl, rfl⟩ := trodAll_nil r1
  obtain rfl : args = #[v0, v1] := by cases args; simp_all
  obtain ⟨rfl, rfl⟩ := trodVars_none hV
  obtain ⟨a0, rfl, rfl, rfl, w0⟩ := open_string Try.underlying9 (hval 0 9 v0 rfl rfl) h0
  obtain ⟨a1, rfl, rfl, rfl, w1⟩ := open_string Try.underlying9 (hval 1 9 v1 rfl rfl) h1
  clear hA0 hval0
  simp only [List.append_nil] at hW'
  have hz : a0.size ≤ 140737488351232 := by
    have := sized_string hsz (j := 0) (t := 9) rfl rfl
    simpa [reachBytes] using this
  have hz1 : a1.size ≤ 140737488351232 := by
    have := sized_string hsz (j := 1) (t := 9) rfl rfl
    simpa [reachBytes] using this
  refine (begins_law a0 a1 W hz hz1).mono fun e W' ⟨he, k0⟩ => ?_
  have bel := k0.below
  subst he
  exact ⟨_, rfl, _, _, _, [], [], [], hW', trodAll_mk1 (shut_bool Try.underlying4 _), (trodAll_cons_mk (shut_string Try.underlying9 w0) (trodAll_cons_mk (shut_string Try.underlying9 w1) trodAll_mk0)), rfl, bel.frame _, fun h => by cases h⟩

end tokensBeginsDone

theorem tokensBegins_proved : Rows.TokensBeginsSaid :=
  OpenClaim.holds_of_wide 3 Try.f3 rfl rfl rfl rfl rfl rfl rfl ⟨rfl, rfl, rfl, rfl, rfl⟩ rfl rfl rfl rfl rfl (by kernel_rfl) Try.func3 (by kernel_rfl)
    (of_decide_eq_true (by kernel_rfl)) (by unfold Func.isWrapper; first | (rw [if_pos (by decide +kernel)]; kernel_rfl) | (rw [if_neg (by decide +kernel)]; exact ⟨rfl, rfl⟩))
    (fun os started H enc _ => tokensBeginsDone.lifted os started H enc)
#print axioms tokensBegins_proved
end Go.Proofs.Ytmglbcldjhdhkab
